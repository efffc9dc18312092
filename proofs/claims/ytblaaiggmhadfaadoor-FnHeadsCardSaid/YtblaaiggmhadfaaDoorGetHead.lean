/- A head is read: GetHead of both sides. -/
import Derived.Test.YtblaaiggmhadfaaDoorHead
import Derived.Test.YtblaaiggmhadfaaDoorGetBig
import Derived.Test.YtblaaiggmhadfaaDoorHeadFor
import Derived.IntWalk
namespace Go.Proofs.YtblaaiggmhadfaaDoor
open Go.RowKit
set_option maxRecDepth 100000
/-- what an initial byte tells -/
def initH (k f : Nat) : Hd := if f < 24 then ⟨k, f, 0⟩ else if f = 31 then ⟨k, 0, -1⟩ else ⟨k, 0, (2 ^ (f - 24) : Nat)⟩
theorem hb_set0 {W : World} {b : Nat} {h : Hd} (H : HB W b h) (u : Int) : HB (W.setCell ⟨b, 0, none⟩ (.int .i64 u)) b ⟨u, h.n, h.w⟩ :=
  ⟨World.cell?_setCell_same _ _ _ H.c0, (World.cell?_setCell_other W ⟨b, 0, none⟩ ⟨b, 1, none⟩ _ (by simp)).trans H.c1, (World.cell?_setCell_other W ⟨b, 0, none⟩ ⟨b, 2, none⟩ _ (by simp)).trans H.c2, fun o => by rw [World.frozen?_setCell]; exact H.fz o⟩
theorem hb_set1 {W : World} {b : Nat} {h : Hd} (H : HB W b h) (u : Int) : HB (W.setCell ⟨b, 1, none⟩ (.int .i64 u)) b ⟨h.k, u, h.w⟩ :=
  ⟨(World.cell?_setCell_other W ⟨b, 1, none⟩ ⟨b, 0, none⟩ _ (by simp)).trans H.c0, World.cell?_setCell_same _ _ _ H.c1, (World.cell?_setCell_other W ⟨b, 1, none⟩ ⟨b, 2, none⟩ _ (by simp)).trans H.c2, fun o => by rw [World.frozen?_setCell]; exact H.fz o⟩
theorem hb_set2 {W : World} {b : Nat} {h : Hd} (H : HB W b h) (u : Int) : HB (W.setCell ⟨b, 2, none⟩ (.int .i64 u)) b ⟨h.k, h.n, u⟩ :=
  ⟨(World.cell?_setCell_other W ⟨b, 2, none⟩ ⟨b, 0, none⟩ _ (by simp)).trans H.c0, (World.cell?_setCell_other W ⟨b, 2, none⟩ ⟨b, 1, none⟩ _ (by simp)).trans H.c1, World.cell?_setCell_same _ _ _ H.c2, fun o => by rw [World.frozen?_setCell]; exact H.fz o⟩
theorem init_impl {w : World} {b : Nat} (H : HB w b hd0) (c : Nat) (hc : c < 256) : Calls Tryd.prog 51 #[.pointer (some ⟨b, 0, none⟩), .int .u8 c] w fun e w' => e = .returned (.tuple #[]) ∧ HB w' b (initH (c / 32) (c % 32)) ∧ Only b w w' := by
  have hc1 : (c : Int) < 256 := by omega
  have hk : c / 32 < 8 := by omega
  have hf : c % 32 < 32 := by omega
  have e1 : (c : Int).tdiv 32 = ((c / 32 : Nat) : Int) := by rw [Int.tdiv_eq_ediv_of_nonneg (by omega)]; omega
  have e2 : (c : Int).tmod 32 = ((c % 32 : Nat) : Int) := by rw [Int.tmod_eq_emod_of_nonneg (by omega)]; omega
  have e3 : (c : Int) / 32 = ((c / 32 : Nat) : Int) := by omega
  have e4 : (c : Int) % 32 = ((c % 32 : Nat) : Int) := by omega
  have hbl := H.lt
  have d0 := H.c0
  have d1 := H.c1
  have d2 := H.c2
  have fz := H.fz
  simp only [hd0] at d0 d1 d2
  have HH := Lib.hid H
  clear H
  generalize c / 32 = k at *
  generalize c % 32 = f at *
  by_cases h24 : f < 24
  · have q : (f : Int) < 24 := by omega
    have HI := Lib.hid (show initH k f = ⟨k, f, 0⟩ from by unfold initH; rw [if_pos h24])
    go_enter Tryd.func51, Tryd.ntmps51
    go_wp2
    go_end0
    rw [HI.out]
    exact ⟨rfl, hb_set1 (hb_set0 HH.out k) f, ((Only.refl _ _).setCell _ _).setCell _ _⟩
  · have q : ¬ (f : Int) < 24 := by omega
    by_cases h31 : f = 31
    · subst h31
      have HI := Lib.hid (show initH k 31 = ⟨k, 0, -1⟩ from rfl)
      clear h24 q
      go_enter Tryd.func51, Tryd.ntmps51
      go_wp2
      go_end0
      rw [HI.out]
      exact ⟨rfl, hb_set2 (hb_set0 HH.out k) (-1), ((Only.refl _ _).setCell _ _).setCell _ _⟩
    · have HI := Lib.hid (show initH k f = ⟨k, 0, (2 ^ (f - 24) : Nat)⟩ from by unfold initH; rw [if_neg h24, if_neg h31])
      have hff : f = 24 ∨ f = 25 ∨ f = 26 ∨ f = 27 ∨ f = 28 ∨ f = 29 ∨ f = 30 := by omega
      clear h24 q hf h31
      rcases hff with rfl | rfl | rfl | rfl | rfl | rfl | rfl
      all_goals
        go_enter Tryd.func51, Tryd.ntmps51
        go_wp2
        go_end0
        rw [HI.out]
        exact ⟨rfl, hb_set2 (hb_set0 HH.out k) _, ((Only.refl _ _).setCell _ _).setCell _ _⟩
theorem size_impl {w : World} {b : Nat} {h : Hd} (H : HB w b h) (h0 : -1 ≤ h.w) (h1 : h.w ≤ 8) : Calls Tryd.prog 37 #[.pointer (some ⟨b, 0, none⟩)] w fun e w' => e = .returned (.int .i64 (1 + max h.w 0)) ∧ w = w' := by
  obtain ⟨k, n, x⟩ := h
  have c2 := H.c2
  simp only at c2 h0 h1 ⊢
  clear H
  go_enter Tryd.func37, Tryd.ntmps37
  go_wp2
  all_goals
    go_ret
    exact ⟨ret_int (by omega), rfl⟩
/-- what GetHead hands on, at any place -/
def getHI (l : List UInt8) (a : Int) : HdR := if a < 0 then badH 1 else getH l a.toNat
theorem getHI_nat (l : List UInt8) (i : Nat) : getHI l i = getH l i := by unfold getHI; rw [if_neg (by omega), Int.toNat_natCast]
theorem getHI_out {l : List UInt8} {a : Int} (h : ¬ (0 ≤ a ∧ a < l.length)) : getHI l a = badH 1 := by
  unfold getHI
  by_cases h0 : a < 0
  · rw [if_pos h0]
  · rw [if_neg h0]
    unfold getH
    rw [List.getElem?_eq_none (by omega)]
theorem getH_in {l : List UInt8} {i : Nat} (h : i < l.length) : getH l i = infoH l i (l[i].toNat / 32) (l[i].toNat % 32) := by
  unfold getH
  rw [List.getElem?_eq_getElem h]
theorem info_bad {l : List UInt8} {i k f : Nat} (hk : k < 8) (hf : f < 32) (h : ¬ hdOk (initH k f)) : infoH l i k f = badH 1 := by
  unfold initH at h
  unfold infoH
  by_cases h24 : f < 24
  · rw [if_pos h24] at h
    exact absurd (hd_of (by omega) (by omega) (by omega)) h
  rw [if_neg h24] at h ⊢
  by_cases h31 : f = 31
  · rw [if_pos h31] at h ⊢
    by_cases hk2 : k = 0 ∨ k = 1 ∨ k = 6
    · rw [if_pos hk2]
    · exact absurd (hd_of (by omega) (by omega) (by omega)) h
  rw [if_neg h31] at h ⊢
  by_cases h27 : 27 < f
  · rw [if_pos h27]
  · have hff : f = 24 ∨ f = 25 ∨ f = 26 ∨ f = 27 := by omega
    refine absurd ?_ h
    rcases hff with rfl | rfl | rfl | rfl <;> exact hd_of (by omega) (by omega) (by simp)
theorem info_short {l : List UInt8} {i k f : Nat} (h : hdOk (initH k f)) (hw : (initH k f).w ≤ 0) : infoH l i k f = ⟨initH k f, i + 1, 0⟩ := by
  unfold initH at h hw ⊢
  unfold infoH
  by_cases h24 : f < 24
  · rw [if_pos h24, if_pos h24]
  rw [if_neg h24] at h hw ⊢
  rw [if_neg h24]
  by_cases h31 : f = 31
  · rw [if_pos h31] at h hw ⊢
    rw [if_pos h31]
    have := hd_open.1 h
    unfold mayOpen at this
    rw [if_neg (by omega)]
  · rw [if_neg h31] at hw
    have : 0 < 2 ^ (f - 24) := Nat.pow_pos (by decide)
    simp only at hw
    omega
theorem info_wide {l : List UInt8} {i k f : Nat} (h : hdOk (initH k f)) (hw : 0 < (initH k f).w) : ∃ m : Nat, initH k f = ⟨k, 0, m⟩ ∧ (m = 1 ∨ m = 2 ∨ m = 4 ∨ m = 8) ∧ infoH l i k f = wideH l i k m := by
  unfold initH at h hw ⊢
  unfold infoH
  by_cases h24 : f < 24
  · rw [if_pos h24] at hw
    simp at hw
  rw [if_neg h24] at h hw ⊢
  rw [if_neg h24]
  by_cases h31 : f = 31
  · rw [if_pos h31] at hw
    simp at hw
  · rw [if_neg h31] at h hw ⊢
    rw [if_neg h31]
    have hc := hdOk_cases h
    simp only at hc
    have h28 : f < 28 := by
      refine Nat.lt_of_not_le fun hle => ?_
      have := Nat.pow_le_pow_right (n := 2) (by decide) (show 4 ≤ f - 24 by omega)
      omega
    rw [if_neg (by omega)]
    simp only at hw
    generalize 2 ^ (f - 24) = m at *
    exact ⟨_, rfl, by omega, rfl⟩
theorem init_k {k f : Nat} : (initH k f).k = k ∧ 0 ≤ (initH k f).n ∧ -1 ≤ (initH k f).w := by
  unfold initH
  split
  · exact ⟨rfl, by simp, by simp⟩
  · split
    · exact ⟨rfl, by simp, by simp⟩
    · exact ⟨rfl, by simp, Int.le_trans (show (-1 : Int) ≤ 0 by decide) (Int.natCast_nonneg _)⟩
theorem wideH_eq (l : List UInt8) (i k m : Nat) (hm : m = 1 ∨ m = 2 ∨ m = 4 ∨ m = 8) : wideH l i k m = if holdB l.length i (1 + m) then (if bigOk l (i + 1) m then ⟨⟨k, bigN l (i + 1) m, m⟩, i + 1 + m, 0⟩ else badH 2) else badH 1 := by
  have hN : bigN l ((i : Int) + 1) m = val ((l.drop (i + 1)).take m) := by unfold bigN; rw [show ((i : Int) + 1).toNat = i + 1 by omega, Int.toNat_natCast]
  unfold wideH
  by_cases h : i + 1 + m ≤ l.length
  · rw [if_pos h, if_pos (show holdB l.length i (1 + m) from ⟨by omega, by omega, by omega⟩)]
    have hi : bigIn l (i + 1) m := ⟨by unfold widOk; omega, by omega, by omega⟩
    by_cases hv : val ((l.drop (i + 1)).take m) ≤ 1000000000000000
    · rw [if_pos hv, if_pos (show bigOk l (i + 1) m from ⟨hi, by rw [hN]; omega⟩), hN]
    · rw [if_neg hv, if_neg (fun hb : bigOk l (i + 1) m => hv (by have := hb.2; rw [hN] at this; omega))]
  · rw [if_neg h, if_neg (fun hb : holdB l.length i (1 + m) => h (by have := hb.2.2; omega))]
set_option maxHeartbeats 1000000 in
theorem read_impl {w : World} {g b o cap : Nat} {l : List UInt8} {a : Int} (H : HB w g hd0) (hc : ∀ j u, (bv l)[j]? = some u → w.cell? ⟨b, o + j, none⟩ = some u) (hcap : l.length ≤ cap) (hm : cap ≤ maxLen) (hl : l.length ≤ 1099511627776) (ha : a ≤ 9223372036854775807) (hbg : b ≠ g) :
    Calls Tryd.prog 36 #[.pointer (some ⟨g, 0, none⟩), .slice (some ⟨b, o, none⟩) l.length cap, .int .i64 a] w fun e w' => e = .returned (.int .i64 (getHI l a).code) ∧ Only g w w' ∧ ((getHI l a).code = 0 → HB w' g (getHI l a).h) := by
  by_cases hin : 0 ≤ a ∧ a < l.length
  · obtain ⟨i, rfl⟩ : ∃ i : Nat, a = i := ⟨a.toNat, by omega⟩
    rw [getHI_nat]
    have hi : i < l.length := by omega
    rw [getH_in hi]
    have hcl : w.cell? ⟨b, o + i, none⟩ = some (.int .u8 (l[i].toNat)) := hc i _ (by rw [List.getElem?_eq_getElem (by simpa using hi), bv_getElem])
    have c1 := holds_yes (ad := some ⟨b, o, none⟩) (len := l.length) (cap := cap) (a := i) (n := 1) ⟨by omega, by omega, by omega⟩ (by omega) w
    have ci := fun (w1 : World) (H1 : HB w1 g hd0) => init_impl H1 l[i].toNat (UInt8.toNat_lt _)
    have hk : l[i].toNat / 32 < 8 := by have := UInt8.toNat_lt l[i]; omega
    have hf : l[i].toNat % 32 < 32 := by omega
    generalize l[i].toNat / 32 = k at *
    generalize l[i].toNat % 32 = f at *
    generalize l[i].toNat = c at *
    have hiz : (i : Int) < l.length := by omega
    have hlz : (l.length : Int) ≤ 1099511627776 := by omega
    obtain ⟨q1, q2, q3⟩ := init_k (k := k) (f := f)
    have HIN := Lib.hid (And.intro hk (And.intro hf hi))
    obtain ⟨R, hR⟩ : ∃ R, R = infoH l i k f := ⟨_, rfl⟩
    rw [← hR]
    have HR0 := Lib.hid hR
    have HC := Lib.hid hc
    have HH := Lib.hid H
    clear hc H hk hf hi hR
    go_enter Tryd.func36, Tryd.ntmps36
    go_wp2_with fail
    refine c1.mono ?_
    rintro e w' ⟨rfl, rfl⟩
    go_wp2_with fail
    refine (ci _ HH.out).mono ?_
    rintro e w1 ⟨rfl, H1, ho1⟩
    have ck := fun h0 => ok_impl H1 h0
    have O1 := Lib.hid ho1
    have G1 := Lib.hid H1
    clear c1 ci ho1 H1
    by_cases hok : hdOk (initH k f)
    · have ck := ck (by omega)
      rw [decide_eq_true hok] at ck
      have hcs := hdOk_cases hok
      have hw8 : (initH k f).w ≤ 8 := by omega
      have HO := Lib.hid hok
      clear hok hcs
      go_wp2_with fail
      refine ck.mono ?_
      rintro e w2 ⟨rfl, hb2⟩
      have O2 := Lib.hid (O1.out.trans (Only.of_below hb2 : Only g w1 w2))
      have G2 := Lib.hid (G1.out.below hb2)
      clear hb2 ck G1 O1
      by_cases hw0 : (initH k f).w ≤ 0
      · have HR := Lib.hid (HR0.out.trans (info_short HO.out hw0))
        have hs : 1 + max (initH k f).w 0 = 1 := by omega
        have cz := size_impl G2.out q3 hw8
        rw [hs] at cz
        have c2 := holds_yes (ad := some ⟨b, o, none⟩) (len := l.length) (cap := cap) (a := i) (n := 1) ⟨by omega, by omega, by omega⟩ (by omega) w2
        have e2 := G2.out.c2
        generalize (initH k f).w = x at *
        clear hs
        go_wp2_with fail
        refine cz.mono ?_
        rintro e w' ⟨rfl, rfl⟩
        go_wp2_with fail
        refine c2.mono ?_
        rintro e w' ⟨rfl, rfl⟩
        go_wp2
        go_ret
        rw [HR.out]
        exact ⟨rfl, O2.out, fun _ => G2.out⟩
      · obtain ⟨m, em, hm4, ew⟩ := info_wide (l := l) (i := i) HO.out (by omega)
        have HR1 := Lib.hid ((HR0.out.trans ew).trans (wideH_eq l i k m hm4))
        rw [em] at G2
        have cz := size_impl G2.out (by simp only; omega) (by simp only; omega)
        simp only at cz
        rw [show 1 + max (m : Int) 0 = 1 + m by omega] at cz
        have e2 := G2.out.c2
        have ez := G2.out.fz
        simp only at e2
        have hm1 : (1 : Int) ≤ m := by omega
        have hm8 : (m : Int) ≤ 8 := by omega
        have HM4 := Lib.hid hm4
        clear hw0 hw8 q1 q2 q3 HO em ew hm4 HR0
        by_cases hh : holdB l.length i (1 + m)
        · have HR2 := Lib.hid (HR1.out.trans (if_pos hh))
          have c2 := holds_yes (ad := some ⟨b, o, none⟩) (len := l.length) (cap := cap) (a := i) (n := 1 + m) hh (by omega) w2
          have hc2 : ∀ j u, (bv l)[j]? = some u → w2.cell? ⟨b, o + j, none⟩ = some u := fun j u hu => O2.out.cell hbg (HC.out j u hu)
          have cg := getbig_impl w2 b o cap l (i + 1) m hc2 hcap hm hl (by omega)
          have HH2 := Lib.hid hh
          clear hh hc2
          by_cases hb : bigOk l (i + 1) m
          · have HR := Lib.hid (HR2.out.trans (if_pos hb))
            rw [bigT_yes hb] at cg
            have hbn := hb.2
            have HB2 := Lib.hid hb
            clear hb
            generalize bigN l ((i : Int) + 1) m = n at *
            have e1 := G2.out.c1
            have elt := G2.out.lt
            simp only at e1
            have HX := Lib.hid (hb_set1 G2.out (n : Int))
            have OX := Lib.hid (O2.out.setCell 1 (.int .i64 n))
            have hmz : ¬ (m : Int) ≤ 0 := by omega
            go_wp2_with fail
            refine cz.mono ?_
            rintro e w' ⟨rfl, rfl⟩
            go_wp2_with fail
            refine c2.mono ?_
            rintro e w' ⟨rfl, rfl⟩
            go_wp2_with fail
            refine cg.mono ?_
            rintro e w' ⟨rfl, rfl⟩
            go_wp2
            go_ret
            rw [HR.out]
            exact ⟨rfl, OX.out, fun _ => HX.out⟩
          · have HR := Lib.hid (HR2.out.trans (if_neg hb))
            rw [bigT_no hb] at cg
            clear hb
            have hmz : ¬ (m : Int) ≤ 0 := by omega
            go_wp2_with fail
            refine cz.mono ?_
            rintro e w' ⟨rfl, rfl⟩
            go_wp2_with fail
            refine c2.mono ?_
            rintro e w' ⟨rfl, rfl⟩
            go_wp2_with fail
            refine cg.mono ?_
            rintro e w' ⟨rfl, rfl⟩
            go_wp2
            go_ret
            rw [HR.out]
            exact ⟨rfl, O2.out, fun h => by cases h⟩
        · have HR := Lib.hid (HR1.out.trans (if_neg hh))
          have c2 := holds_no (ad := some ⟨b, o, none⟩) (len := l.length) (cap := cap) (a := i) (n := 1 + m) hh (by omega) (by omega) w2
          clear hh
          go_wp2_with fail
          refine cz.mono ?_
          rintro e w' ⟨rfl, rfl⟩
          go_wp2_with fail
          refine c2.mono ?_
          rintro e w' ⟨rfl, rfl⟩
          go_wp2
          go_ret
          rw [HR.out]
          exact ⟨rfl, O2.out, fun h => by cases h⟩
    · have HR := Lib.hid (HR0.out.trans (info_bad HIN.out.1 HIN.out.2.1 hok))
      have ck := ck (by omega)
      rw [decide_eq_false hok] at ck
      clear hok
      go_wp2_with fail
      refine ck.mono ?_
      rintro e w2 ⟨rfl, hb2⟩
      have O2 := Lib.hid (O1.out.trans (Only.of_below hb2 : Only g w1 w2))
      have G2 := Lib.hid (G1.out.below hb2)
      clear hb2 ck G1 O1
      go_wp2
      go_ret
      rw [HR.out]
      exact ⟨rfl, O2.out, fun h => by cases h⟩
  · rw [getHI_out hin]
    have c := holds_no (ad := some ⟨b, o, none⟩) (len := l.length) (cap := cap) (a := a) (n := 1) (fun h => hin ⟨h.1, by have := h.2.2; omega⟩) (by omega) ha w
    have ho := Only.refl g w
    clear hin hc H
    go_enter Tryd.func36, Tryd.ntmps36
    go_wp2_with fail
    refine c.mono ?_
    rintro e w' ⟨rfl, rfl⟩
    go_wp2
    go_ret
    exact ⟨rfl, ho, fun h => by cases h⟩
/-- the head, the place behind it, the code -/
@[reducible] def HdR.val (r : HdR) : Value := .tuple #[r.h.val, .int .i64 r.next, .int .i64 r.code]
theorem infoH_cases {l : List UInt8} {i k f : Nat} : (∃ c, infoH l i k f = badH c ∧ c ≠ 0) ∨ (infoH l i k f).code = 0 := by
  unfold infoH wideH
  by_cases h24 : f < 24
  · rw [if_pos h24]; exact .inr rfl
  rw [if_neg h24]
  by_cases h31 : f = 31
  · rw [if_pos h31]
    split
    · exact .inl ⟨1, rfl, by decide⟩
    · exact .inr rfl
  rw [if_neg h31]
  split
  · exact .inl ⟨1, rfl, by decide⟩
  · split
    · split
      · exact .inr rfl
      · exact .inl ⟨2, rfl, by decide⟩
    · exact .inl ⟨1, rfl, by decide⟩
theorem getHI_cases (l : List UInt8) (a : Int) : (∃ c, getHI l a = badH c ∧ c ≠ 0) ∨ ((getHI l a).code = 0 ∧ ∃ i : Nat, a = i ∧ i < l.length ∧ getHI l a = getH l i ∧ hdOk (getH l i).h ∧ ((getH l i).next : Int) = i + (1 + max (getH l i).h.w 0) ∧ (getH l i).next ≤ l.length) := by
  by_cases hin : 0 ≤ a ∧ a < l.length
  · obtain ⟨i, rfl⟩ : ∃ i : Nat, a = i := ⟨a.toNat, by omega⟩
    have hi : i < l.length := by omega
    rw [getHI_nat]
    rcases infoH_cases (l := l) (i := i) (k := l[i].toNat / 32) (f := l[i].toNat % 32) with ⟨c, h, hc⟩ | h
    · exact .inl ⟨c, by rw [getH_in hi]; exact h, hc⟩
    · rw [← getH_in hi] at h
      obtain ⟨o, h1, h2, h3⟩ := get_ok h
      refine .inr ⟨h, i, rfl, hi, rfl, o, ?_, h2⟩
      have e : (hdB (getH l i).h).length = 1 + (getH l i).h.w.toNat := hdB_len o
      rw [h3, List.length_take, List.length_drop] at e
      omega
  · exact .inl ⟨1, getHI_out hin, by decide⟩
set_option maxHeartbeats 1000000 in
theorem gethead_impl (w : World) (b o cap : Nat) (l : List UInt8) (a : Int) (hc : ∀ j u, (bv l)[j]? = some u → w.cell? ⟨b, o + j, none⟩ = some u) (hb : b < w.heap.size) (hcap : l.length ≤ cap) (hm : cap ≤ maxLen) (hl : l.length ≤ 1099511627776) (ha : a ≤ 9223372036854775807) :
    Calls Tryd.prog 11 #[.slice (some ⟨b, o, none⟩) l.length cap, .int .i64 a] w fun e w' => e = .returned (getHI l a).val ∧ Below w.heap.size w w' := by
  obtain ⟨h1, h2, h3⟩ := hb_two w hd0 hd0 25
  have cr := read_impl h2 (l := l) (a := a) (fun j u hu => by rw [h3.cell (p := ⟨b, o + j, none⟩) hb]; exact hc j u hu) hcap hm hl ha (by omega)
  obtain ⟨R, hR⟩ : ∃ R, R = getHI l a := ⟨_, rfl⟩
  rw [← hR] at cr ⊢
  simp only [hd0] at h1 h2 h3 cr
  have H1 := Lib.hid h1
  have H3 := Lib.hid h3
  clear h1 h2 h3 hc
  rcases getHI_cases l a with ⟨c, hbad, hc0⟩ | ⟨hc0, i, rfl, hi, hg, hok, hnx, hle⟩
  · rw [hbad] at hR
    subst hR
    have hcz : ((c : Int) != 0) = true := by simp; omega
    simp only [badH, hd0, HdR.val, Hd.val] at cr ⊢
    clear hbad hc0
    go_enter Tryd.func11, Tryd.ntmps11
    go_wp2_with fail
    refine cr.mono ?_
    rintro e w3 ⟨rfl, ho3, _⟩
    have hlt := H1.out.lt
    have G1 : HB w3 w.heap.size ⟨0, 0, 0⟩ := ⟨ho3.cell (by simp) H1.out.c0, ho3.cell (by simp) H1.out.c1, ho3.cell (by simp) H1.out.c2, fun o => by rw [World.frozen?_of_block (ho3.block w.heap.size hlt (by simp))]; exact H1.out.fz o⟩
    have G3 := Lib.hid (only_below H3.out ho3 (by simp) H3.out.size)
    obtain ⟨a0, a1, a2, af⟩ := G1
    simp only at a0 a1 a2
    clear ho3 hlt
    go_wp2
    refine bodyPost_ret (v := .tuple #[.agg #[.int .i64 0, .int .i64 0, .int .i64 0], .int .i64 0, .int .i64 c]) (by simp [results, Tryd.results11, go_sem, a0, a1, a2]) rfl ⟨rfl, below_three G3.out (Nat.le_refl _) _ _ _⟩
  · rw [hg] at hR hc0
    have hcR : R.code = 0 := by rw [hR]; exact hc0
    rw [← hR] at hok hnx hle
    have hcs := hdOk_cases hok
    have hz : ((i : Int) + (1 + max R.h.w 0)) = R.next := hnx.symm
    obtain ⟨⟨rk, rn, rw'⟩, rx, rc⟩ := R
    simp only at hcR hok hnx hle hcs hz
    subst hcR
    simp only [HdR.val, Hd.val] at cr ⊢
    have hw0 : -1 ≤ rw' := by omega
    have hw8 : rw' ≤ 8 := by omega
    have hlen : (i : Int) < l.length := by omega
    have hlz : (l.length : Int) ≤ 1099511627776 := by omega
    have cz := fun (W : World) (g : Nat) (H : HB W g ⟨rk, rn, rw'⟩) => (size_impl H hw0 hw8).mono (fun e w' h => (⟨h.1, h.2.symm⟩ : e = .returned (.int .i64 (1 + max rw' 0)) ∧ w' = W))
    have hbd : 0 ≤ 1 + max rw' 0 ∧ 1 + max rw' 0 ≤ 9 := by omega
    generalize hq : 1 + max rw' 0 = q at *
    obtain ⟨q0, q9⟩ := hbd
    have hwr : IntKind.i64.wrap ((i : Int) + q) = i + q := IntWalk.i64_in _ (by omega)
    have HZ := Lib.hid hz
    clear hR hg hc0 hok hcs hnx hz hle hq
    go_enter Tryd.func11, Tryd.ntmps11
    go_wp2_with fail
    refine cr.mono ?_
    rintro e w3 ⟨rfl, ho3, hx⟩
    have hlt := H1.out.lt
    simp only [forall_const] at hx
    have G1 : HB w3 w.heap.size ⟨0, 0, 0⟩ := ⟨ho3.cell (by simp) H1.out.c0, ho3.cell (by simp) H1.out.c1, ho3.cell (by simp) H1.out.c2, fun o => by rw [World.frozen?_of_block (ho3.block w.heap.size hlt (by simp))]; exact H1.out.fz o⟩
    have G3 := Lib.hid (only_below H3.out ho3 (by simp) H3.out.size)
    obtain ⟨a0, a1, a2, af⟩ := G1
    obtain ⟨b0, b1, b2, bf⟩ := hx
    have HX := Lib.hid (show HB w3.drew (w.heap.size + 1) ⟨rk, rn, rw'⟩ from ⟨b0, b1, b2, bf⟩)
    simp only at a0 a1 a2 b0 b1 b2
    clear ho3 hlt
    go_wp2_with fail
    go_region_with ((first | (go_at_call 37; refine (cz _ _ HX.out).mono ?_; rintro e w' ⟨rfl, rfl⟩)))
    all_goals
      go_wp2
      refine bodyPost_ret (v := .tuple #[.agg #[.int .i64 rk, .int .i64 rn, .int .i64 rw'], .int .i64 (i + q), .int .i64 0]) (by simp [results, Tryd.results11, go_sem, a0, a1, a2, hwr]) rfl ⟨by rw [HZ.out]; rfl, below_three G3.out.drew (Nat.le_refl _) _ _ _⟩
theorem three_boxes (w : World) (a b c : Obj) : Below w.heap.size w (((w.alloc a).alloc b).alloc c) := (((Below.refl _ _).alloc (Nat.le_refl _) _).alloc (by simp) _).alloc (by simp; omega) _
theorem cell_of {W w1 : World} (hb : Below W.heap.size W w1) : (∀ b o, b < W.heap.size → w1.cell? ⟨b, o, none⟩ = W.cell? ⟨b, o, none⟩) ∧ (∀ b o, b < W.heap.size → w1.frozen? ⟨b, o, none⟩ = W.frozen? ⟨b, o, none⟩) :=
  ⟨fun b o h => hb.cell (p := ⟨b, o, none⟩) h, fun b o h => hb.frozen (p := ⟨b, o, none⟩) h⟩
theorem hb_three (w : World) (h g f : Hd) (t : TypeId) : HB (((w.alloc (.cells #[.int .i64 h.k, .int .i64 h.n, .int .i64 h.w] t)).alloc (.cells #[.int .i64 g.k, .int .i64 g.n, .int .i64 g.w] t)).alloc (.cells #[.int .i64 f.k, .int .i64 f.n, .int .i64 f.w] t)) w.heap.size h ∧ Below w.heap.size w (((w.alloc (.cells #[.int .i64 h.k, .int .i64 h.n, .int .i64 h.w] t)).alloc (.cells #[.int .i64 g.k, .int .i64 g.n, .int .i64 g.w] t)).alloc (.cells #[.int .i64 f.k, .int .i64 f.n, .int .i64 f.w] t)) :=
  ⟨⟨by simp [go_sem], by simp [go_sem], by simp [go_sem], fun o => by simp [go_sem]⟩, (((Below.refl _ _).alloc (Nat.le_refl _) _).alloc (by simp) _).alloc (by simp; omega) _⟩
theorem bad_spec {r : HdR} {c : Nat} (h : r = badH c) : r.val = .tuple #[.agg #[.int .i64 0, .int .i64 0, .int .i64 0], .int .i64 0, .int .i64 c] := by rw [h]; rfl
set_option maxHeartbeats 2000000 in
theorem gethead_spec (w : World) (b o cap : Nat) (l : List UInt8) (a : Int) (hc : ∀ j u, (bv l)[j]? = some u → w.cell? ⟨b, o + j, none⟩ = some u) (hb : b < w.heap.size) (hl : l.length ≤ 1099511627776) :
    Calls Tryd.prog 12 #[.slice (some ⟨b, o, none⟩) l.length cap, .int .i64 a] w fun e w' => e = .returned (getHI l a).val ∧ Below w.heap.size w w' := by
  have h3 := (hb_two w hd0 hd0 25).2.2
  have H3 := Lib.hid h3
  have hlz : (l.length : Int) ≤ 1099511627776 := by omega
  clear h3
  by_cases hin : 0 ≤ a ∧ a < l.length
  · obtain ⟨i, rfl⟩ : ∃ i : Nat, a = i := ⟨a.toNat, by omega⟩
    rw [getHI_nat]
    have hi : i < l.length := by omega
    rw [getH_in hi]
    have hk : l[i].toNat / 32 < 8 := by have := UInt8.toNat_lt l[i]; omega
    have hf : l[i].toNat % 32 < 32 := by omega
    have hcl : w.cell? ⟨b, o + i, none⟩ = some (.int .u8 (l[i].toNat)) := hc i _ (by rw [List.getElem?_eq_getElem (by simpa using hi), bv_getElem])
    have hc256 := UInt8.toNat_lt l[i]
    have e1 : (l[i].toNat : Int).tdiv 32 = ((l[i].toNat / 32 : Nat) : Int) := by rw [Int.tdiv_eq_ediv_of_nonneg (by omega)]; omega
    have e2 : (l[i].toNat : Int).tmod 32 = ((l[i].toNat % 32 : Nat) : Int) := by rw [Int.tmod_eq_emod_of_nonneg (by omega)]; omega
    have e3 : (l[i].toNat : Int) / 32 = ((l[i].toNat / 32 : Nat) : Int) := by omega
    have e4 : (l[i].toNat : Int) % 32 = ((l[i].toNat % 32 : Nat) : Int) := by omega
    generalize l[i].toNat / 32 = k at *
    generalize l[i].toNat % 32 = f at *
    generalize l[i].toNat = c at *
    have hcz : (c : Int) < 256 := by omega
    have hiz : (i : Int) < l.length := by omega
    obtain ⟨T1, B3⟩ := hb_three w hd0 hd0 ⟨k, 0, 0⟩ 25
    have hcl2 := (H3.out.cell (p := ⟨b, o + i, none⟩) hb).trans hcl
    have hcl3 := (B3.cell (p := ⟨b, o + i, none⟩) hb).trans hcl
    have hc3 := fun j u hu => (B3.cell (p := ⟨b, o + j, none⟩) hb).trans (hc j u hu)
    simp only [hd0] at hcl2 hcl3 B3 hc3 T1
    have HB3 := Lib.hid B3
    have HC3 := Lib.hid hc3
    have HT1 := Lib.hid T1
    have hk8 : (k : Int) < 8 := by omega
    have hf32 : (f : Int) < 32 := by omega
    have HKF := Lib.hid (And.intro hk hf)
    clear hc H3 hc256 hi hin B3 hc3 T1 hk hf
    by_cases h24 : f < 24
    · have hv : infoH l i k f = ⟨⟨k, f, 0⟩, i + 1, 0⟩ := by unfold infoH; rw [if_pos h24]
      rw [hv]
      have q : (f : Int) < 24 := by omega
      clear hv
      go_enter Tryd.func12, Tryd.ntmps12
      go_wp2
      refine bodyPost_ret (v := .tuple #[.agg #[.int .i64 k, .int .i64 f, .int .i64 0], .int .i64 (i + 1), .int .i64 0]) (by simp [results, Tryd.results12, go_sem]) rfl ⟨rfl, three_boxes w _ _ _⟩
    have q : ¬ (f : Int) < 24 := by omega
    by_cases h31 : f = 31
    · subst h31
      have hv : infoH l i k 31 = if hdOk ⟨k, 0, -1⟩ then ⟨⟨k, 0, -1⟩, i + 1, 0⟩ else badH 1 := by
        unfold infoH
        rw [if_neg (by decide), if_pos rfl]
        by_cases h : k = 0 ∨ k = 1 ∨ k = 6
        · rw [if_pos h, if_neg (fun g => by have := hd_open.1 g; unfold mayOpen at this; omega)]
        · have := HKF.out
          rw [if_neg h, if_pos (hd_open.2 ⟨by omega, rfl, by unfold mayOpen; omega⟩)]
      rw [hv]
      have ck := fun w1 => headok_spec ⟨k, 0, -1⟩ w1
      obtain ⟨T2, B4⟩ := hb_three w hd0 hd0 ⟨k, 0, -1⟩ 25
      simp only [hd0] at T2 B4
      have HB4 := Lib.hid B4
      clear hv q h24 T2 B4 hcl e1 e2
      by_cases hok : hdOk ⟨k, 0, -1⟩
      · rw [if_pos hok]
        rw [decide_eq_true hok] at ck
        clear hok
        go_enter Tryd.func12, Tryd.ntmps12
        go_wp2_with fail
        refine (ck _).mono ?_
        rintro e w4 ⟨rfl, hb4⟩
        have HX := Lib.hid (HB4.out.trans (hb4.mono (by simp <;> omega)))
        obtain ⟨hcl, hfz⟩ := cell_of hb4
        have a0 : w4.cell? ⟨w.heap.size, 0, none⟩ = some (.int .i64 0) := (hcl _ _ (by simp <;> omega)).trans (by simp [go_sem])
        have a1 : w4.cell? ⟨w.heap.size, 1, none⟩ = some (.int .i64 0) := (hcl _ _ (by simp <;> omega)).trans (by simp [go_sem])
        have a2 : w4.cell? ⟨w.heap.size, 2, none⟩ = some (.int .i64 0) := (hcl _ _ (by simp <;> omega)).trans (by simp [go_sem])
        have af : ∀ o, w4.frozen? ⟨w.heap.size, o, none⟩ = false := fun o => (hfz _ _ (by simp <;> omega)).trans (by simp [go_sem])
        have b0 : w4.cell? ⟨w.heap.size + 1 + 1, 0, none⟩ = some (.int .i64 k) := (hcl _ _ (by simp)).trans (by simp [go_sem])
        have b1 : w4.cell? ⟨w.heap.size + 1 + 1, 1, none⟩ = some (.int .i64 0) := (hcl _ _ (by simp)).trans (by simp [go_sem])
        have b2 : w4.cell? ⟨w.heap.size + 1 + 1, 2, none⟩ = some (.int .i64 (-1)) := (hcl _ _ (by simp)).trans (by simp [go_sem])
        clear hcl hfz hb4
        go_wp2
        refine bodyPost_ret (v := .tuple #[.agg #[.int .i64 k, .int .i64 0, .int .i64 (-1)], .int .i64 (i + 1), .int .i64 0]) (by simp [results, Tryd.results12, go_sem, a0, a1, a2]) rfl ⟨rfl, below_three HX.out (Nat.le_refl _) _ _ _⟩
      · rw [if_neg hok]
        rw [decide_eq_false hok] at ck
        clear hok
        go_enter Tryd.func12, Tryd.ntmps12
        go_wp2_with fail
        refine (ck _).mono ?_
        rintro e w4 ⟨rfl, hb4⟩
        have HX := Lib.hid (HB4.out.trans (hb4.mono (by simp <;> omega)))
        obtain ⟨hcl, hfz⟩ := cell_of hb4
        have a0 : w4.cell? ⟨w.heap.size, 0, none⟩ = some (.int .i64 0) := (hcl _ _ (by simp <;> omega)).trans (by simp [go_sem])
        have a1 : w4.cell? ⟨w.heap.size, 1, none⟩ = some (.int .i64 0) := (hcl _ _ (by simp <;> omega)).trans (by simp [go_sem])
        have a2 : w4.cell? ⟨w.heap.size, 2, none⟩ = some (.int .i64 0) := (hcl _ _ (by simp <;> omega)).trans (by simp [go_sem])
        have af : ∀ o, w4.frozen? ⟨w.heap.size, o, none⟩ = false := fun o => (hfz _ _ (by simp <;> omega)).trans (by simp [go_sem])
        have b0 : w4.cell? ⟨w.heap.size + 1, 0, none⟩ = some (.int .i64 0) := (hcl _ _ (by simp <;> omega)).trans (by simp [go_sem])
        have b1 : w4.cell? ⟨w.heap.size + 1, 1, none⟩ = some (.int .i64 0) := (hcl _ _ (by simp <;> omega)).trans (by simp [go_sem])
        have b2 : w4.cell? ⟨w.heap.size + 1, 2, none⟩ = some (.int .i64 0) := (hcl _ _ (by simp <;> omega)).trans (by simp [go_sem])
        clear hcl hfz hb4
        go_wp2
        refine bodyPost_ret (v := .tuple #[.agg #[.int .i64 0, .int .i64 0, .int .i64 0], .int .i64 0, .int .i64 1]) (by simp [results, Tryd.results12, go_sem, a0, a1, a2]) rfl ⟨rfl, below_three HX.out (Nat.le_refl _) _ _ _⟩
    have q31 : ((f : Int) == 31) = false := by rw [beq_eq_false_iff_ne]; omega
    by_cases h27 : 27 < f
    · have hv : infoH l i k f = badH 1 := by unfold infoH; rw [if_neg h24, if_neg h31, if_pos h27]
      rw [bad_spec hv]
      have q27 : (27 : Int) < f := by omega
      clear hv h31 h24 h27
      go_enter Tryd.func12, Tryd.ntmps12
      go_wp2
      refine bodyPost_ret (v := .tuple #[.agg #[.int .i64 0, .int .i64 0, .int .i64 0], .int .i64 0, .int .i64 1]) (by simp [results, Tryd.results12, go_sem]) rfl ⟨rfl, three_boxes w _ _ _⟩
    have hff : f = 24 ∨ f = 25 ∨ f = 26 ∨ f = 27 := by omega
    have hv : infoH l i k f = wideH l i k (2 ^ (f - 24)) := by unfold infoH; rw [if_neg h24, if_neg h31, if_neg h27]
    rw [hv]
    clear hv h24 h31 h27 q q31 hf32 HKF
    rcases hff with rfl | rfl | rfl | rfl
    · rw [show 2 ^ (24 - 24) = 1 from rfl, wideH_eq l i k 1 (by decide)]
      have cg := fun w1 hc => getbig_spec w1 b o cap l (i + 1) 1 hc hl
      by_cases hh : holdB l.length i (1 + (1 : Nat))
      · rw [if_pos hh]
        have hz : ¬ (l.length : Int) - i - 1 < 1 := by have := hh.2.2; omega
        clear hh
        by_cases hb : bigOk l (i + 1) (1 : Nat)
        · rw [if_pos hb]
          have e5 : bigT l (i + 1) 1 = .tuple #[.int .i64 (bigN l (i + 1) (1 : Nat)), .bool true] := bigT_yes hb
          rw [e5] at cg
          clear hb e5
          generalize bigN l ((i : Int) + 1) (1 : Nat) = n at *
          go_enter Tryd.func12, Tryd.ntmps12
          go_wp2_with fail
          refine (cg _ HC3.out).mono ?_
          rintro e w' ⟨rfl, rfl⟩
          go_wp2
          refine bodyPost_ret (v := .tuple #[.agg #[.int .i64 k, .int .i64 n, .int .i64 1], .int .i64 (i + 1 + 1), .int .i64 0]) (by simp [results, Tryd.results12, go_sem]) rfl ⟨rfl, three_boxes w _ _ _⟩
        · rw [if_neg hb]
          have e5 : bigT l (i + 1) 1 = .tuple #[.int .i64 0, .bool false] := bigT_no hb
          rw [e5] at cg
          clear hb e5
          go_enter Tryd.func12, Tryd.ntmps12
          go_wp2_with fail
          refine (cg _ HC3.out).mono ?_
          rintro e w' ⟨rfl, rfl⟩
          go_wp2
          refine bodyPost_ret (v := .tuple #[.agg #[.int .i64 0, .int .i64 0, .int .i64 0], .int .i64 0, .int .i64 2]) (by simp [results, Tryd.results12, go_sem]) rfl ⟨rfl, three_boxes w _ _ _⟩
      · rw [if_neg hh]
        have hz : (l.length : Int) - i - 1 < 1 := by
          refine Int.not_le.1 (fun h => hh ⟨by omega, by omega, by omega⟩)
        clear hh
        go_enter Tryd.func12, Tryd.ntmps12
        go_wp2
        refine bodyPost_ret (v := .tuple #[.agg #[.int .i64 0, .int .i64 0, .int .i64 0], .int .i64 0, .int .i64 1]) (by simp [results, Tryd.results12, go_sem]) rfl ⟨rfl, three_boxes w _ _ _⟩
    · rw [show 2 ^ (25 - 24) = 2 from rfl, wideH_eq l i k 2 (by decide)]
      have cg := fun w1 hc => getbig_spec w1 b o cap l (i + 1) 2 hc hl
      by_cases hh : holdB l.length i (1 + (2 : Nat))
      · rw [if_pos hh]
        have hz : ¬ (l.length : Int) - i - 1 < 2 := by have := hh.2.2; omega
        clear hh
        by_cases hb : bigOk l (i + 1) (2 : Nat)
        · rw [if_pos hb]
          have e5 : bigT l (i + 1) 2 = .tuple #[.int .i64 (bigN l (i + 1) (2 : Nat)), .bool true] := bigT_yes hb
          rw [e5] at cg
          clear hb e5
          generalize bigN l ((i : Int) + 1) (2 : Nat) = n at *
          go_enter Tryd.func12, Tryd.ntmps12
          go_wp2_with fail
          refine (cg _ HC3.out).mono ?_
          rintro e w' ⟨rfl, rfl⟩
          go_wp2
          refine bodyPost_ret (v := .tuple #[.agg #[.int .i64 k, .int .i64 n, .int .i64 2], .int .i64 (i + 1 + 2), .int .i64 0]) (by simp [results, Tryd.results12, go_sem]) rfl ⟨rfl, three_boxes w _ _ _⟩
        · rw [if_neg hb]
          have e5 : bigT l (i + 1) 2 = .tuple #[.int .i64 0, .bool false] := bigT_no hb
          rw [e5] at cg
          clear hb e5
          go_enter Tryd.func12, Tryd.ntmps12
          go_wp2_with fail
          refine (cg _ HC3.out).mono ?_
          rintro e w' ⟨rfl, rfl⟩
          go_wp2
          refine bodyPost_ret (v := .tuple #[.agg #[.int .i64 0, .int .i64 0, .int .i64 0], .int .i64 0, .int .i64 2]) (by simp [results, Tryd.results12, go_sem]) rfl ⟨rfl, three_boxes w _ _ _⟩
      · rw [if_neg hh]
        have hz : (l.length : Int) - i - 1 < 2 := by
          refine Int.not_le.1 (fun h => hh ⟨by omega, by omega, by omega⟩)
        clear hh
        go_enter Tryd.func12, Tryd.ntmps12
        go_wp2
        refine bodyPost_ret (v := .tuple #[.agg #[.int .i64 0, .int .i64 0, .int .i64 0], .int .i64 0, .int .i64 1]) (by simp [results, Tryd.results12, go_sem]) rfl ⟨rfl, three_boxes w _ _ _⟩
    · rw [show 2 ^ (26 - 24) = 4 from rfl, wideH_eq l i k 4 (by decide)]
      have cg := fun w1 hc => getbig_spec w1 b o cap l (i + 1) 4 hc hl
      by_cases hh : holdB l.length i (1 + (4 : Nat))
      · rw [if_pos hh]
        have hz : ¬ (l.length : Int) - i - 1 < 4 := by have := hh.2.2; omega
        clear hh
        by_cases hb : bigOk l (i + 1) (4 : Nat)
        · rw [if_pos hb]
          have e5 : bigT l (i + 1) 4 = .tuple #[.int .i64 (bigN l (i + 1) (4 : Nat)), .bool true] := bigT_yes hb
          rw [e5] at cg
          clear hb e5
          generalize bigN l ((i : Int) + 1) (4 : Nat) = n at *
          go_enter Tryd.func12, Tryd.ntmps12
          go_wp2_with fail
          refine (cg _ HC3.out).mono ?_
          rintro e w' ⟨rfl, rfl⟩
          go_wp2
          refine bodyPost_ret (v := .tuple #[.agg #[.int .i64 k, .int .i64 n, .int .i64 4], .int .i64 (i + 1 + 4), .int .i64 0]) (by simp [results, Tryd.results12, go_sem]) rfl ⟨rfl, three_boxes w _ _ _⟩
        · rw [if_neg hb]
          have e5 : bigT l (i + 1) 4 = .tuple #[.int .i64 0, .bool false] := bigT_no hb
          rw [e5] at cg
          clear hb e5
          go_enter Tryd.func12, Tryd.ntmps12
          go_wp2_with fail
          refine (cg _ HC3.out).mono ?_
          rintro e w' ⟨rfl, rfl⟩
          go_wp2
          refine bodyPost_ret (v := .tuple #[.agg #[.int .i64 0, .int .i64 0, .int .i64 0], .int .i64 0, .int .i64 2]) (by simp [results, Tryd.results12, go_sem]) rfl ⟨rfl, three_boxes w _ _ _⟩
      · rw [if_neg hh]
        have hz : (l.length : Int) - i - 1 < 4 := by
          refine Int.not_le.1 (fun h => hh ⟨by omega, by omega, by omega⟩)
        clear hh
        go_enter Tryd.func12, Tryd.ntmps12
        go_wp2
        refine bodyPost_ret (v := .tuple #[.agg #[.int .i64 0, .int .i64 0, .int .i64 0], .int .i64 0, .int .i64 1]) (by simp [results, Tryd.results12, go_sem]) rfl ⟨rfl, three_boxes w _ _ _⟩
    · rw [show 2 ^ (27 - 24) = 8 from rfl, wideH_eq l i k 8 (by decide)]
      have cg := fun w1 hc => getbig_spec w1 b o cap l (i + 1) 8 hc hl
      by_cases hh : holdB l.length i (1 + (8 : Nat))
      · rw [if_pos hh]
        have hz : ¬ (l.length : Int) - i - 1 < 8 := by have := hh.2.2; omega
        clear hh
        by_cases hb : bigOk l (i + 1) (8 : Nat)
        · rw [if_pos hb]
          have e5 : bigT l (i + 1) 8 = .tuple #[.int .i64 (bigN l (i + 1) (8 : Nat)), .bool true] := bigT_yes hb
          rw [e5] at cg
          clear hb e5
          generalize bigN l ((i : Int) + 1) (8 : Nat) = n at *
          go_enter Tryd.func12, Tryd.ntmps12
          go_wp2_with fail
          refine (cg _ HC3.out).mono ?_
          rintro e w' ⟨rfl, rfl⟩
          go_wp2
          refine bodyPost_ret (v := .tuple #[.agg #[.int .i64 k, .int .i64 n, .int .i64 8], .int .i64 (i + 1 + 8), .int .i64 0]) (by simp [results, Tryd.results12, go_sem]) rfl ⟨rfl, three_boxes w _ _ _⟩
        · rw [if_neg hb]
          have e5 : bigT l (i + 1) 8 = .tuple #[.int .i64 0, .bool false] := bigT_no hb
          rw [e5] at cg
          clear hb e5
          go_enter Tryd.func12, Tryd.ntmps12
          go_wp2_with fail
          refine (cg _ HC3.out).mono ?_
          rintro e w' ⟨rfl, rfl⟩
          go_wp2
          refine bodyPost_ret (v := .tuple #[.agg #[.int .i64 0, .int .i64 0, .int .i64 0], .int .i64 0, .int .i64 2]) (by simp [results, Tryd.results12, go_sem]) rfl ⟨rfl, three_boxes w _ _ _⟩
      · rw [if_neg hh]
        have hz : (l.length : Int) - i - 1 < 8 := by
          refine Int.not_le.1 (fun h => hh ⟨by omega, by omega, by omega⟩)
        clear hh
        go_enter Tryd.func12, Tryd.ntmps12
        go_wp2
        refine bodyPost_ret (v := .tuple #[.agg #[.int .i64 0, .int .i64 0, .int .i64 0], .int .i64 0, .int .i64 1]) (by simp [results, Tryd.results12, go_sem]) rfl ⟨rfl, three_boxes w _ _ _⟩
  · rw [getHI_out hin]
    simp only [badH, hd0, HdR.val, Hd.val]
    by_cases a0 : a < 0
    · clear hin hc H3
      have hB := (hb_two w hd0 hd0 25).2.2
      have HBB := Lib.hid hB
      clear hB
      go_enter Tryd.func12, Tryd.ntmps12
      go_wp2
      refine bodyPost_ret (v := .tuple #[.agg #[.int .i64 0, .int .i64 0, .int .i64 0], .int .i64 0, .int .i64 1]) (by simp [results, Tryd.results12, go_sem]) rfl ⟨rfl, ?_⟩
      exact HBB.out
    · have a1 : (l.length : Int) ≤ a := by omega
      clear hin hc H3
      have hB := (hb_two w hd0 hd0 25).2.2
      have HBB := Lib.hid hB
      clear hB
      go_enter Tryd.func12, Tryd.ntmps12
      go_wp2
      refine bodyPost_ret (v := .tuple #[.agg #[.int .i64 0, .int .i64 0, .int .i64 0], .int .i64 0, .int .i64 1]) (by simp [results, Tryd.results12, go_sem]) rfl ⟨rfl, ?_⟩
      exact HBB.out
end Go.Proofs.YtblaaiggmhadfaaDoor
