import Derived.Test.YtnikcgmbkmbloaaGreatDoorG8
import Derived.Test.YtnikcgmbkmbloaaGreatDoorG3
import Derived.Test.YtnikcgmbkmbloaaGreatDoorG0
import Derived.Test.YtnikcgmbkmbloaaGreatDoorG2
import Derived.Lib.LaidU8T
import Derived.MakeChecks
import Derived.Test.YtnikcgmbkmbloaaGreatDoorG7
import Derived.Test.YtnikcgmbkmbloaaGreatDoorG4
import Derived.Laws.RangeString
import Derived.Laws.RangeAny
import Derived.Lib.OthersKept
import Derived.Laws.IdiomStrings
import Derived.Lib.Hide
import Derived.Test.YtnikcgmbkmbloaaGreatDoorG6
/- The program's map from the letters behind a backslash to their characters. -/
namespace Go.Proofs.YtnikcgmbkmbloaaGreatDoor
open Go.RowKit Go.Maps
set_option maxRecDepth 100000
def invL (k : Int) : Option Int := if k = 34 then some 34 else if k = 92 then some 92 else if k = 98 then some 8 else if k = 116 then some 9 else if k = 110 then some 10 else if k = 102 then some 12 else if k = 114 then some 13 else none
def f2 (k : Int) : Option Int := if k = 47 then some 47 else invL k
theorem f2_unB (c : UInt8) : f2 (c.toNat : Int) = unB c := by
  have : ∀ n : Fin 256, f2 ((UInt8.ofNat n.val).toNat : Int) = unB (UInt8.ofNat n.val) := by decide +kernel
  have h := this ⟨c.toNat, UInt8.toNat_lt c⟩
  simpa using h
theorem f1_inv {n k : Int} (h : f1 n = some k) : invL k = some n ∧ k ≠ 47 ∧ 0 ≤ k ∧ k < 256 ∧ 0 ≤ n ∧ n < 128 := by
  unfold f1 at h
  rcases escB_cases n with ⟨rfl, e⟩ | ⟨rfl, e⟩ | ⟨rfl, e⟩ | ⟨rfl, e⟩ | ⟨rfl, e⟩ | ⟨rfl, e⟩ | ⟨rfl, e⟩ | ⟨_, _, _, _, _, _, _, e⟩
  all_goals (rw [e] at h; cases h)
  all_goals decide
theorem inv_f1 {n k : Int} (h : invL k = some n) : f1 n = some k := by
  unfold invL at h
  repeat' (split at h; · cases h; subst k; rfl)
  cases h
/-- what the map holds while the characters n with left n are still to come -/
def midF (left : Int → Bool) (k : Int) : Option Int := if k = 47 then some 47 else match invL k with
  | none => none
  | some n => if left n then none else some n
theorem mid_start : midF (fun n => (f1 n).isSome) = upd (fun _ => none) 47 47 := by
  funext k
  unfold midF upd
  by_cases h : k = 47
  · rw [if_pos h, if_pos h]
  · rw [if_neg h, if_neg h]
    cases hi : invL k with
    | none => rfl
    | some n => simp [inv_f1 hi]
theorem mid_end {left : Int → Bool} (h : ∀ n, left n = false) : midF left = f2 := by
  funext k
  unfold midF f2
  by_cases hk : k = 47
  · rw [if_pos hk, if_pos hk]
  · rw [if_neg hk, if_neg hk]
    cases hi : invL k with
    | none => rfl
    | some n => simp [h n]
theorem mid_step {left left' : Int → Bool} {x c : Int} (hx : f1 x = some c) (hl : ∀ n, left' n = (left n && decide (n ≠ x))) : upd (midF left) c x = midF left' := by
  obtain ⟨hi, h47, _⟩ := f1_inv hx
  funext k
  unfold upd
  by_cases hk : k = c
  · rw [if_pos hk]
    subst hk
    unfold midF
    rw [if_neg h47, hi]
    simp only
    rw [hl x]
    simp
  · rw [if_neg hk]
    unfold midF
    by_cases h47' : k = 47
    · rw [if_pos h47', if_pos h47']
    · rw [if_neg h47', if_neg h47']
      cases hik : invL k with
      | none => rfl
      | some n =>
        have hne : n ≠ x := by
          intro e; subst e
          have := inv_f1 hik
          rw [hx] at this
          injection this with this
          exact hk this.symm
        simp only
        rw [hl n, decide_eq_true hne, Bool.and_true]
/-- block b is the program's map of the letters behind a backslash -/
def MapU (w : World) (b : Nat) : Prop := MapI Tryz.prog 5 3 .u8 .i64 w b 8 f2
theorem MapU.kept {w w' : World} {b : Nat} {row : Option Nat} (h : MapU w b) (hg : w.grownBy w' row) (hne : some b ≠ row) : MapU w' b := MapI.kept h hg hne
theorem MapU.below {w w' : World} {b N : Nat} (h : MapU w b) (hb : Below N w w') (hN : b < N) : MapU w' b := MapI.below h hb hN
theorem MapU.lt {w : World} {b : Nat} (h : MapU w b) : b < w.heap.size := MapI.lt h
theorem zero64 (w : World) : (zeroValue 3).run Tryz.prog w = .ok (.int .i64 0) w := by kernel_rfl
theorem mapI_mono {P : Program} {K E : TypeId} {qk qe : IntKind} {w : World} {b n m : Nat} {f : Int → Option Int} (h : MapI P K E qk qe w b n f) (hm : n ≤ m) : MapI P K E qk qe w b m f := by
  obtain ⟨D, ho, hr⟩ := h
  exact ⟨D, ho.mono hm, hr⟩
theorem mapI_has {D : DataW Unit} {x c : Int} (hr : ReadsF .i64 .u8 D f1) (hat : ∀ zd, D.atKey (.int .i64 x) zd = .lit (.int .u8 c)) : f1 x = some c := by
  have h := (hr x).2 .nil
  rw [hat] at h
  cases hf : f1 x with
  | none => rw [hf] at h; cases h
  | some d => rw [hf] at h; simp only at h; injection h with h; injection h with _ h; rw [h]
theorem escaped_impl (w : World) : Calls Tryz.prog 199 #[] w fun e w' => ∃ b, e = .returned (.map (some b)) ∧ w.heap.size ≤ b ∧ MapU w' b ∧ Below w.heap.size w w' := by
  have hmm := @run_makeMap Tryz.prog
  have hown : MapI Tryz.prog 5 3 .u8 .i64 (w.alloc (.map #[] 0)) w.heap.size 0 (fun _ => none) := MapI.made w
  have hb := below_alloc w (.map #[] 0)
  have CL := Lib.hid (fun w => letters_impl w)
  go_enter Tryz.func199, Tryz.ntmps199
  go_wp2_with (first | (refine wpList_insert_I _ rfl _ _ _ _ rfl 5 3 .u8 .i64 Tryz.underlying5 Tryz.underlying3 Tryz.underlying206 _ _ _ rfl hown (by unfold maxLen; omega) _ _ rfl rfl (by decide) (by decide) ?_; intro w1 h1 g1; replace hb := hb.trans (grown_belowN g1 hb.size (fun k hk => by cases hk; exact Nat.le_refl _)); replace hown := h1; clear h1 g1) | fail)
  refine (CL.out _).mono ?_
  rintro e w2 ⟨b1, rfl, hb1, hM, hb2⟩
  have hown2 := MapI.below hown hb2 hown.lt
  have hB := hb.trans (hb2.mono hb.size)
  have hlt := hown.lt
  obtain ⟨D0, ho0, hr0⟩ := hM
  have hsz0 := ho0.size_le
  have HB := Lib.hid hB
  have HO := Lib.hid hown2
  have hne : w.heap.size < b1 := by omega
  clear hown hown2 hb hb2 hB hmm
  go_wp2_with (at_range; refine wpList_range_own _ rfl _ 201 rfl 3 5 (int_keyed Tryz.underlying3) Tryz.underlying201 _ b1 7 D0 rfl ho0 ?_; intro w3 hrg0 hg0 hs0)
  go_frame
  have hst : MapI Tryz.prog 5 3 .u8 .i64 w3 w.heap.size (8 - Maps.size D0) (midF (fun n => Maps.has D0 (.int .i64 n))) := by
    have e1 : (fun n : Int => Maps.has D0 (.int .i64 n)) = fun n => (f1 n).isSome := funext fun n => (hr0 n).1
    rw [e1, mid_start]
    exact mapI_mono (MapI.kept HO.out hg0 (by simp)) (by omega)
  have HST := Lib.hid hst
  have HB3 := Lib.hid (show Below w.heap.size w w3 from HB.out.grown hg0 HB.out.size (fun j hj => by cases hj))
  have hw2 : w.heap.size < w2.heap.size := HO.out.lt
  clear hst HO HB hg0
  go_loopw [2] (fun _ wr => ∃ (left : Lit → Bool) (cnt : Nat), wr.ranges Tryz.prog 3 (plainElem Tryz.prog 5) b1 w2.heap.size 7 D0 left cnt ∧ cnt ≤ 7 ∧ MapI Tryz.prog 5 3 .u8 .i64 wr w.heap.size (8 - cnt) (midF (fun n => left (.int .i64 n))) ∧ Below w.heap.size w wr)
    (fun _ wr => wr.rangeLeft b1 w2.heap.size)
  case atStart => exact ⟨_, _, hrg0, hsz0, HST.out, HB3.out⟩
  case round =>
    obtain ⟨left, cnt, hrg, hcs, hout, hnx⟩ := hrel
    go_wp2_with (first
      | (at_next; refine wpList_next_ranges_ii _ rfl _ rfl 3 5 .i64 .u8 (int_keyed Tryz.underlying3) Tryz.underlying3 Tryz.underlying5 b1 w2.heap.size 7 _ _ _ rfl hrg ?_ ?_)
      | fail)
    · intro hc0 hl0
      rw [mid_end (fun n => hl0 _)] at hout
      have HO := Lib.hid (mapI_mono hout (show 8 - cnt ≤ 8 by omega))
      clear hout hrg
      go_wp2
      go_ret
      exact ⟨_, rfl, Nat.le_refl _, HO.out, hnx⟩
    · intro x c w4 cnt1 hwx hwc hlx hat hrg1 hlt1 hg1 hs1 hen
      have hx := mapI_has hr0 hat
      have hfx := f1_inv hx
      have hout1 := MapI.kept hout hg1 (fun e => by have := Option.some.inj e; omega)
      have hw4 : w.heap.size < w4.heap.size := hout1.lt
      go_wp2_with (first
        | (at_mapUpdate; refine wpList_update_I _ rfl _ _ _ _ rfl 5 3 .u8 .i64 Tryz.underlying5 Tryz.underlying3 Tryz.underlying206 w.heap.size _ _ rfl hout1 (by unfold maxLen; omega) c x rfl rfl hwc hwx ?_; intro w5 hout2 hg2; go_frame)
        | fail)
      have hrg2 := hrg1.kept hg2 (fun e => by have := Option.some.inj e; omega) (fun e => by have := Option.some.inj e; omega)
      rw [mid_step (left' := fun n => (left (.int .i64 n) && !(Lit.int .i64 n).sameKey (.int .i64 x))) hx (fun n => by
        by_cases hnx : n = x
        · subst hnx; simp [Lit.sameKey]
        · have : (Lit.int .i64 n).sameKey (.int .i64 x) = false := Maps.sameKey_ne (by intro e; injection e with _ e; exact hnx e)
          rw [this]; simp [hnx])] at hout2
      go_roundw
      case rel =>
        exact ⟨_, cnt1, hrg2, by omega, mapI_mono hout2 (by omega), (hnx.grown hg1 hnx.size (fun j hj => by cases hj; omega)).grown hg2 (by omega) (fun j hj => by cases hj; exact Nat.le_refl _)⟩
      case measure => rw [hrg2.left_eq, hrg.left_eq]; exact hlt1
end Go.Proofs.YtnikcgmbkmbloaaGreatDoor
/- The character at a place of given bytes: the model's GetRune, for every place and all bytes. -/
namespace Go.Proofs.YtnikcgmbkmbloaaGreatDoor
open Go.RowKit
theorem reads_at {w : World} {v : Value} {l : List UInt8} {i : Nat} (h : Reads w v (bv l)) (hi : i < l.length) : ∃ b o cap, v = .slice (some ⟨b, o, none⟩) l.length cap ∧ ∀ j, j < l.length → w.cell? ⟨b, o + j, none⟩ = some (.int .u8 (byteN l j)) := by
  obtain ⟨a, cap, rfl, hc⟩ := reads_byte h
  obtain ⟨b, o, rfl, _⟩ := hc i hi
  refine ⟨b, o, cap, rfl, fun j hj => ?_⟩
  obtain ⟨b', o', he, hcl⟩ := hc j hj
  simp only [Option.some.injEq, Addr.mk.injEq, and_true] at he
  obtain ⟨rfl, rfl⟩ := he
  rw [byteN_at l j hj]; exact hcl
theorem tup_eq {a b c d : Int} (h : a = b) (k : c = d) : Value.tuple #[.int .i64 a, .int .i64 c, .bool true] = .tuple #[.int .i64 b, .int .i64 d, .bool true] := by rw [h, k]
theorem get_spec_low (w : World) (v : Value) (l : List UInt8) (a : Int) (h : Reads w v (bv l)) (ha : a < 0) :
    Calls Tryz.prog 144 #[v, .int .i64 a] w fun e w' => e = .returned (getV l a) ∧ w = w' := by
  obtain ⟨_, cap, rfl, hc⟩ := reads_byte h
  clear hc h
  have hb := Lib.hid (getV_out (l := l) (a := a) (by omega))
  go_enter Tryz.func144, Tryz.ntmps144
  go_wp2
  go_ret3
  exact ⟨ret_bad hb.out, rfl⟩
theorem get_spec_high (w : World) (v : Value) (l : List UInt8) (a : Int) (h : Reads w v (bv l)) (ha : 0 ≤ a) (hl : (l.length : Int) ≤ a) :
    Calls Tryz.prog 144 #[v, .int .i64 a] w fun e w' => e = .returned (getV l a) ∧ w = w' := by
  obtain ⟨_, cap, rfl, hc⟩ := reads_byte h
  clear hc h
  have hb := Lib.hid (getV_out (l := l) (a := a) (by omega))
  have ha' : ¬ a < 0 := by omega
  go_enter Tryz.func144, Tryz.ntmps144
  go_wp2
  go_ret3
  exact ⟨ret_bad hb.out, rfl⟩
theorem get_spec_one (w : World) (b o len cap at_ : Nat) (x : Int) (hat : at_ < len) (hlen : len ≤ 1099511627776) (hx : w.cell? ⟨b, o + at_, none⟩ = some (.int .u8 x)) (hx0 : 0 ≤ x) (hx1 : x < 128) :
    Calls Tryz.prog 144 #[.slice (some ⟨b, o, none⟩) len cap, .int .i64 at_] w fun e w' => e = .returned (.tuple #[.int .i64 x, .int .i64 (at_ + 1), .bool true]) ∧ w = w' := by
  have cw := wide_spec x w
  rw [wideR_one hx0 hx1] at cw
  have ca : ¬ ((at_ : Int) < 0) := by omega
  have cl : ¬ ((len : Int) ≤ (at_ : Int)) := by omega
  have ca2 : (at_ : Int) ≤ 1099511627776 := by omega
  have cb : (len : Int) ≤ 1099511627776 := by omega
  have hs : ¬ ((len : Int) - at_ < 1) := by omega
  go_enter Tryz.func144, Tryz.ntmps144
  go_wp2
  go_loop [9, 10] (fun n i => i = .int .i64 1 ∧ n = .int .i64 x) (fun _ i => 0)
  case atStart => exact ⟨rfl, rfl⟩
  case round =>
    obtain ⟨rfl, rfl⟩ := hrel
    go_wp2_with (go_at_call 182; refine cw.mono ?_; rintro e w' ⟨rfl, rfl⟩)
    go_ret3
    exact ⟨rfl, rfl⟩
theorem get_spec_none (w : World) (b o len cap at_ : Nat) (x : Int) (hat : at_ < len) (hlen : len ≤ 1099511627776) (hx : w.cell? ⟨b, o + at_, none⟩ = some (.int .u8 x)) (hx0 : (128 ≤ x ∧ x < 192) ∨ 248 ≤ x) (hx1 : x ≤ 255) :
    Calls Tryz.prog 144 #[.slice (some ⟨b, o, none⟩) len cap, .int .i64 at_] w fun e w' => e = .returned badG ∧ w = w' := by
  have i1 := in_no x 192 223 w (by omega)
  have i2 := in_no x 224 239 w (by omega)
  have i3 := in_no x 240 247 w (by omega)
  have ca : ¬ ((at_ : Int) < 0) := by omega
  have cl : ¬ ((len : Int) ≤ (at_ : Int)) := by omega
  have c128 : ¬ x < 128 := by omega
  clear hx0
  go_enter Tryz.func144, Tryz.ntmps144
  go_wp2_with (go_at_call 97; (first | (with_reducible refine i1.mono ?_) | (with_reducible refine i2.mono ?_) | (with_reducible refine i3.mono ?_)); rintro e w' ⟨rfl, rfl⟩)
  go_ret3
  exact ⟨ret_bad rfl, rfl⟩
theorem get_spec_any (w : World) (v : Value) (l : List UInt8) (a : Int) (h : Reads w v (bv l)) (hl : l.length ≤ 1099511627776) :
    Calls Tryz.prog 144 #[v, .int .i64 a] w fun e w' => e = .returned (getV l a) ∧ w = w' := by
  by_cases h0 : a < 0
  · exact get_spec_low w v l a h h0
  by_cases h1 : (l.length : Int) ≤ a
  · exact get_spec_high w v l a h (by omega) h1
  obtain ⟨i, rfl⟩ : ∃ i : Nat, a = i := ⟨a.toNat, by omega⟩
  have hi : i < l.length := by omega
  obtain ⟨b, o, cap, rfl, hc⟩ := reads_at h hi
  have hd := dec_eq l i
  have b0 := byteN_lt l i
  have b1 := byteN_lt l (i + 1)
  have b2 := byteN_lt l (i + 2)
  have b3 := byteN_lt l (i + 3)
  have hy : ∀ j : Nat, i + j < l.length → w.cell? ⟨b, o + (i + j), none⟩ = some (.int .u8 (((fun j => (byteN l (i + j) : Int)) : Nat → Int) j)) ∧ 0 ≤ (((fun j => (byteN l (i + j) : Int)) : Nat → Int) j) ∧ (((fun j => (byteN l (i + j) : Int)) : Nat → Int) j) ≤ 255 := by
    intro j hj
    have := byteN_lt l (i + j)
    exact ⟨hc (i + j) hj, by show (0 : Int) ≤ (byteN l (i + j) : Int); omega, by show (byteN l (i + j) : Int) ≤ 255; omega⟩
  have hx := hc i hi
  by_cases c1 : byteN l i < 128
  · rw [decN_one c1] at hd
    rw [getV_good hi hd (by omega)]
    exact get_spec_one w b o _ cap i _ hi hl hx (by omega) (by omega)
  by_cases c2 : byteN l i < 192 ∨ 248 ≤ byteN l i
  · rw [decN_bad (by omega) b0] at hd
    rw [getV_bad hd]
    exact get_spec_none w b o _ cap i _ hi hl hx (by omega) (by omega)
  by_cases c3 : byteN l i ≤ 223
  · refine get_spec_2 w b o _ cap i _ _ (getV l i) hi hl hx (by omega) (by omega) (fun j _ _ => hy j) ?_ ?_ ?_
    all_goals rcases decN_two (n := l.length - i) (b2 := byteN l (i + 2)) (b3 := byteN l (i + 3)) (show 192 ≤ byteN l i ∧ byteN l i ≤ 223 by omega) b1 with ⟨g1, g2, g3, g4, g5⟩ | ⟨g1, g5⟩
    · intro hs; omega
    · intro hs; exact getV_bad (hd.trans g5)
    · intro hs j j1 j2 hb
      obtain rfl : j = 1 := by omega
      exact absurd (show 128 ≤ (byteN l (i + 1) : Int) ∧ (byteN l (i + 1) : Int) ≤ 191 by omega) hb
    · intro hs j j1 j2 hb
      exact getV_bad (hd.trans g5)
    · intro hs ho
      simp only [accB]
      refine ⟨fun hw => ?_, fun hw => ?_⟩
      · rw [getV_good hi (hd.trans g5) (by omega)]
        exact tup_eq (by first | omega | (simp only [Nat.zero_add, Nat.reduceAdd]; omega)) (by omega)
      · exact absurd (wide2.2 (by simp only [Nat.zero_add]; omega)) hw
    · intro hs ho
      have h1 : 128 ≤ (byteN l (i + 1) : Int) ∧ (byteN l (i + 1) : Int) ≤ 191 := ho 1 (by omega) (by omega)
      refine ⟨fun hw => ?_, fun hw => getV_bad (hd.trans g5)⟩
      have hw := wide2.1 hw
      simp only [accB, Nat.zero_add] at hw
      omega
  by_cases c4 : byteN l i ≤ 239
  · refine get_spec_3 w b o _ cap i _ _ (getV l i) hi hl hx (by omega) (by omega) (fun j _ _ => hy j) ?_ ?_ ?_
    all_goals rcases decN_three (n := l.length - i) (b3 := byteN l (i + 3)) (show 224 ≤ byteN l i ∧ byteN l i ≤ 239 by omega) b1 b2 with ⟨g1, g2, g3, g4, g6, g7, g5⟩ | ⟨g1, g5⟩
    · intro hs; omega
    · intro hs; exact getV_bad (hd.trans g5)
    · intro hs j j1 j2 hb
      have : j = 1 ∨ j = 2 := by omega
      rcases this with rfl | rfl
      · exact absurd (show 128 ≤ (byteN l (i + 1) : Int) ∧ (byteN l (i + 1) : Int) ≤ 191 by omega) hb
      · exact absurd (show 128 ≤ (byteN l (i + 2) : Int) ∧ (byteN l (i + 2) : Int) ≤ 191 by omega) hb
    · intro hs j j1 j2 hb
      exact getV_bad (hd.trans g5)
    · intro hs ho
      simp only [accB]
      refine ⟨fun hw => ?_, fun hw => ?_⟩
      · rw [getV_good hi (hd.trans g5) (by omega)]
        exact tup_eq (by first | omega | (simp only [Nat.zero_add, Nat.reduceAdd]; omega)) (by omega)
      · exact absurd (wide3.2 (by simp only [Nat.zero_add, Nat.reduceAdd]; omega)) hw
    · intro hs ho
      have h1 : 128 ≤ (byteN l (i + 1) : Int) ∧ (byteN l (i + 1) : Int) ≤ 191 := ho 1 (by omega) (by omega)
      have h2 : 128 ≤ (byteN l (i + 2) : Int) ∧ (byteN l (i + 2) : Int) ≤ 191 := ho 2 (by omega) (by omega)
      refine ⟨fun hw => ?_, fun hw => getV_bad (hd.trans g5)⟩
      have hw := wide3.1 hw
      simp only [accB, Nat.zero_add, Nat.reduceAdd] at hw
      omega
  · refine get_spec_4 w b o _ cap i _ _ (getV l i) hi hl hx (by omega) (by omega) (fun j _ _ => hy j) ?_ ?_ ?_
    all_goals rcases decN_four (n := l.length - i) (show 240 ≤ byteN l i ∧ byteN l i ≤ 247 by omega) b1 b2 b3 with ⟨g1, g2, g3, g4, g6, g7, g8, g9, g5⟩ | ⟨g1, g5⟩
    · intro hs; omega
    · intro hs; exact getV_bad (hd.trans g5)
    · intro hs j j1 j2 hb
      have : j = 1 ∨ j = 2 ∨ j = 3 := by omega
      rcases this with rfl | rfl | rfl
      · exact absurd (show 128 ≤ (byteN l (i + 1) : Int) ∧ (byteN l (i + 1) : Int) ≤ 191 by omega) hb
      · exact absurd (show 128 ≤ (byteN l (i + 2) : Int) ∧ (byteN l (i + 2) : Int) ≤ 191 by omega) hb
      · exact absurd (show 128 ≤ (byteN l (i + 3) : Int) ∧ (byteN l (i + 3) : Int) ≤ 191 by omega) hb
    · intro hs j j1 j2 hb
      exact getV_bad (hd.trans g5)
    · intro hs ho
      simp only [accB]
      refine ⟨fun hw => ?_, fun hw => ?_⟩
      · rw [getV_good hi (hd.trans g5) (by omega)]
        exact tup_eq (by first | omega | (simp only [Nat.zero_add, Nat.reduceAdd]; omega)) (by omega)
      · exact absurd (wide4.2 (by simp only [Nat.zero_add, Nat.reduceAdd]; omega)) hw
    · intro hs ho
      have h1 : 128 ≤ (byteN l (i + 1) : Int) ∧ (byteN l (i + 1) : Int) ≤ 191 := ho 1 (by omega) (by omega)
      have h2 : 128 ≤ (byteN l (i + 2) : Int) ∧ (byteN l (i + 2) : Int) ≤ 191 := ho 2 (by omega) (by omega)
      have h3 : 128 ≤ (byteN l (i + 3) : Int) ∧ (byteN l (i + 3) : Int) ≤ 191 := ho 3 (by omega) (by omega)
      refine ⟨fun hw => ?_, fun hw => getV_bad (hd.trans g5)⟩
      have hw := wide4.1 hw
      simp only [accB, Nat.zero_add, Nat.reduceAdd] at hw
      omega
end Go.Proofs.YtnikcgmbkmbloaaGreatDoor
/- The library's decoder at given bytes; the program's GetRune for every place; what the row's list of variables gives. -/
namespace Go.Proofs.YtnikcgmbkmbloaaGreatDoor
open Go.RowKit
def Tabs (w : World) : Prop := Lib.Utf8Tabs 2 3 w
theorem Tabs.below {w w' : World} (h : Tabs w) (hb : Below w.heap.size w w') : Tabs w' := Utf8Tabs_below h hb
def U8ren : Go.Shelf.Ren := ⟨fun n => n, fun | 5 => 5 | 119 => 271 | 138 => 273 | 139 => 274 | n => n, fun | 3 => 2 | 4 => 3 | n => n⟩
theorem size_m (l : List UInt8) : (ByteArray.mk l.toArray).size = l.length := by simp [ByteArray.size]
theorem dec_drop0 (l : List UInt8) (i : Nat) : dec (l.drop i) 0 = dec l i := by
  have hb : ∀ j, byteN (l.drop i) j = byteN l (i + j) := byteN_drop l i
  rw [dec_eq, dec_eq, hb, hb, hb, hb]
  simp only [List.length_drop, Nat.zero_add, Nat.sub_zero, Nat.add_zero]
end Go.Proofs.YtnikcgmbkmbloaaGreatDoor
/- What reading quoted text wants of the package-level variables: the tables of unicode/utf8, and strconv's error of the syntax. -/
namespace Go.Proofs.YtnikcgmbkmbloaaGreatDoor
open Go.RowKit
def Env (w : World) : Prop := Tabs w ∧ ∃ ts ps, w.var? Tryz.prog "strconv.ErrSyntax" = some #[.iface ts ps]
theorem evar_below {P : Program} {w w' : World} {n : String} {cs : Array Value} (hb : Below w.heap.size w w') (h : w.var? P n = some cs) : w'.var? P n = some cs := by
  unfold World.var? at h ⊢
  cases hg : P.globalNamed n with
  | none => rw [hg] at h; cases h
  | some g =>
    rw [hg] at h
    have hlt : g < w.heap.size := by
      rcases Nat.lt_or_ge g w.heap.size with h' | h'
      · exact h'
      · simp [Array.getElem?_eq_none h'] at h
    simp only [Option.bind_some] at h ⊢
    rw [hb.block g hlt]
    exact h
theorem Env.below {w w' : World} (h : Env w) (hb : Below w.heap.size w w') : Env w' := by
  obtain ⟨hT, ts, ps, hS⟩ := h
  exact ⟨hT.below hb, ts, ps, evar_below hb hS⟩
theorem env_of {a b c : String × DataW Unit} {r : List (String × DataW Unit)} {W : World} (h : laidMet Tryz.prog (a :: b :: c :: ("unicode/utf8.acceptRanges", Rows.laid_unicode_utf8_acceptRanges) :: ("strconv.ErrRange", Rows.laid_strconv_ErrRange) :: ("strconv.ErrSyntax", Rows.laid_strconv_ErrSyntax) :: ("unicode/utf8.first", Rows.laid_unicode_utf8_first) :: r) W) : Env W := by
  have h1 := h.tail.tail.tail.tail.tail
  obtain ⟨a1, _, hv1, _⟩ := laid_sentinel h1 gES gESType Tryz.underlying183 rowErr Tryz.underlying290 Tryz.underlying292 rfl rfl Tryz.underlying9 cellsErr cellsStr
  have e1 : (Rows.laid_unicode_utf8_first : DataW Unit) = Lib.firstData := by kernel_rfl
  have e2 : (Rows.laid_unicode_utf8_acceptRanges : DataW Unit) = Lib.acceptData := by kernel_rfl
  rw [e1, e2] at h
  refine ⟨utf8Tabs_of_readsT (P := Tryz.prog) (ρ := U8ren) ⟨Tryz.underlying5, Tryz.underlying271, Tryz.underlying273, Tryz.underlying274⟩ ⟨by kernel_rfl, by kernel_rfl, by kernel_rfl, by kernel_rfl, by kernel_rfl, by kernel_rfl, by kernel_rfl⟩
    (Lib.laidMet.reads h (.tail _ (.tail _ (.tail _ (.tail _ (.tail _ (.tail _ (.head _)))))))) (Lib.laidMet.reads h (.tail _ (.tail _ (.tail _ (.head _))))), _, _, hv1⟩
theorem decode_string (l : List UInt8) (i : Nat) (hi : i < l.length) (w : World) (hT : Tabs w) : Calls Tryz.prog 252 #[.string ((ByteArray.mk l.toArray).extract i l.length)] w fun e w' => e = .returned (.tuple #[.int .i32 (dec l i).1, .int .i64 (dec l i).2]) ∧ Below w.heap.size w w' := by
  have h := Tryz.utf8_DecodeRuneInString ((ByteArray.mk l.toArray).extract i l.length) w hT
  have hx : (ByteArray.mk l.toArray).extract i l.length = ⟨(l.drop i).toArray⟩ := by
    apply ByteArray.ext
    rw [ByteArray.data_extract]
    apply Array.ext'
    rw [Array.toList_extract]
    show (l.drop i).take (l.length - i) = l.drop i
    rw [List.take_of_length_le (by simp)]
  have e : Lib.decodeGo ((ByteArray.mk l.toArray).extract i l.length) = dec l i := by
    rw [hx]
    unfold Lib.decodeGo
    rw [if_neg (by rw [size_m]; simp; omega)]
    exact dec_drop0 l i
  rw [e] at h
  exact h
theorem decode_string_end (l : List UInt8) (i : Nat) (hi : i = l.length) (w : World) (hT : Tabs w) : Calls Tryz.prog 252 #[.string ((ByteArray.mk l.toArray).extract i l.length)] w fun e w' => e = .returned (.tuple #[.int .i32 65533, .int .i64 0]) ∧ Below w.heap.size w w' := by
  have h := Tryz.utf8_DecodeRuneInString ((ByteArray.mk l.toArray).extract i l.length) w hT
  have hx : (ByteArray.mk l.toArray).extract i l.length = ⟨([] : List UInt8).toArray⟩ := by
    subst hi
    apply ByteArray.ext
    rw [ByteArray.data_extract]
    apply Array.ext'
    rw [Array.toList_extract]
    simp
  have e : Lib.decodeGo ((ByteArray.mk l.toArray).extract i l.length) = (65533, 0) := by
    rw [hx]
    rfl
  rw [e] at h
  exact h
end Go.Proofs.YtnikcgmbkmbloaaGreatDoor
/- Whether a string is characters throughout: the program's and the model's answers, for every string. -/
namespace Go.Proofs.YtnikcgmbkmbloaaGreatDoor
open Go.RowKit
theorem data_l (l : List UInt8) (i j : Nat) (h : l.length ≤ j) : ((ByteArray.mk l.toArray).extract i j).data.toList = l.drop i := by
  simp
  rw [List.take_of_length_le (by simp; omega)]
theorem pre_bad {l : List UInt8} {i : Nat} (h : i < l.length) (hb : dec l i = (65533, 1)) : Lib.hasPrefix (l.drop i) [239, 191, 189] = false := by
  cases hp : Lib.hasPrefix (l.drop i) [239, 191, 189] with
  | false => rfl
  | true =>
    obtain ⟨t, ht⟩ := List.isPrefixOf_iff_prefix.1 hp
    rw [dec_drop, ← ht, show ([239, 191, 189] : List UInt8) = encR ((65533 : Nat) : Int) from rfl, decode_enc 65533 t (okR_mk (by omega)), Prod.mk.injEq] at hb
    have := wideR_three (n := ((65533 : Nat) : Int)) (by omega) (by omega) (by omega)
    omega
theorem pre_good {l : List UInt8} {i : Nat} (h : i < l.length) (h1 : (dec l i).1 = 65533) (hb : dec l i ≠ (65533, 1)) : Lib.hasPrefix (l.drop i) [239, 191, 189] = true := by
  rw [dec_drop] at h1 hb
  have hne : l.drop i ≠ [] := by intro e; have := congrArg List.length e; simp at this; omega
  have he := Lib.encode_decode (l.drop i) hne (fun g => hb (Prod.ext g.1 g.2))
  rw [h1] at he
  refine List.isPrefixOf_iff_prefix.2 ?_
  have : ([239, 191, 189] : List UInt8) = List.take (Lib.decodeL (l.drop i)).2 (l.drop i) := by rw [← he]; rfl
  rw [this]
  exact List.take_prefix _ _
theorem textok_impl (l : List UInt8) (w : World) (hl : l.length ≤ 1099511627776) :
    Calls Tryz.prog 118 #[.string ⟨l.toArray⟩] w fun e w' => e = .returned (.bool (runes l).isSome) ∧ Below w.heap.size w w' := by
  have hp : ∀ (i : Nat) (v : Bool), Lib.hasPrefix (l.drop i) [239, 191, 189] = v → ∀ w, Calls Tryz.prog 169 #[.string ((ByteArray.mk l.toArray).extract i l.length), .string ⟨#[239, 191, 189]⟩] w fun e w' => e = .returned (.bool v) ∧ w' = w := by
    intro i v hv w
    have := Tryz.strings_HasPrefix ((ByteArray.mk l.toArray).extract i l.length) ⟨#[239, 191, 189]⟩ w
    rw [data_l _ _ _ (by omega), show (ByteArray.mk #[239, 191, 189]).data.toList = [239, 191, 189] from rfl, hv] at this
    exact this
  have HP := Lib.hid hp
  have hsz := size_l l
  have hszz : ((ByteArray.mk l.toArray).size : Int) = l.length := by rw [hsz]
  clear hp
  generalize hs : (ByteArray.mk l.toArray) = s at *
  have HS := Lib.hid hs
  clear hs
  go_enter Tryz.func118, Tryz.ntmps118
  go_wp2
  go_loopw [] (fun wr => ∃ pos : Nat, wr = w.iter s pos ∧ pos ≤ l.length ∧ (runesAt l pos).isSome = (runes l).isSome) (fun wr => l.length - wr.iterPos w.heap.size)
  case atStart => exact ⟨0, rfl, Nat.zero_le _, rfl⟩
  case round =>
    obtain ⟨pos, rfl, hpos, hr⟩ := hrel
    have hd : Utf8.decode s pos = dec l pos := by rw [← HS.out]; rfl
    by_cases hp : pos < l.length
    · have hpz : pos < s.size := by omega
      have hnx : ∀ ty, (Instr.next (.pointer (some ⟨w.heap.size, 0, none⟩)) true ty).run Tryz.prog (w.iter s pos) = _ := fun ty => run_next_any w s pos ty hpz
      rw [hd] at hnx
      have hwd := dec_pos hp
      have hle : (dec l pos).1 ≤ 2147483647 := by rw [← hd]; exact decode_le s pos
      by_cases h1 : (dec l pos).1 = 65533
      · by_cases hb : dec l pos = (65533, 1)
        · have hq := HP.out pos false (pre_bad hp hb)
          have hR := Lib.hid (runesAt_bad hp hb)
          rw [hb] at hnx
          have h1' : ((65533 : Int) == 65533) = true := by decide
          clear hb h1 hwd hle hd
          rw [hR.out] at hr
          have HR := Lib.hid hr
          clear hr
          go_wp2_with (go_at_call 169; refine (hq _).mono ?_; rintro e w' ⟨rfl, rfl⟩)
          go_ret
          exact ⟨by rw [← HR.out]; rfl, (Below.refl w.heap.size w).alloc (Nat.le_refl _) _⟩
        · have hq := HP.out pos true (pre_good hp h1 hb)
          have hR := Lib.hid (runesAt_good hp hb)
          have HD := Lib.hid h1
          generalize hk : (dec l pos).2 = k at *
          have HW := Lib.hid hwd
          have HR := Lib.hid hr
          rw [h1] at hnx
          clear hb h1 hle hd hwd hk hr
          go_wp2_with (go_at_call 169; refine (hq _).mono ?_; rintro e w' ⟨rfl, rfl⟩)
          go_roundw
          case rel =>
            refine ⟨pos + k, rfl, by have := HW.out; omega, ?_⟩
            rw [← HR.out, hR.out, Option.isSome_map]
          case measure =>
            have := HW.out
            simp
            omega
      · have hb : dec l pos ≠ (65533, 1) := fun g => h1 (by rw [g])
        have hR := Lib.hid (runesAt_good hp hb)
        have h1' : (((dec l pos).1 : Int) == 65533) = false := by simp; omega
        generalize hk : (dec l pos).2 = k at *
        generalize hr0 : (dec l pos).1 = r at *
        have HW := Lib.hid hwd
        have HR := Lib.hid hr
        clear hb h1 hle hd hwd hk hr hr0
        go_wp2
        go_roundw
        case rel =>
          refine ⟨pos + k, rfl, by have := HW.out; omega, ?_⟩
          rw [← HR.out, hR.out, Option.isSome_map]
        case measure =>
          have := HW.out
          simp
          omega
    · have hpz : ¬ pos < s.size := by omega
      have hnx : ∀ ty, (Instr.next (.pointer (some ⟨w.heap.size, 0, none⟩)) true ty).run Tryz.prog (w.iter s pos) = _ := fun ty => run_next_end w s pos ty hpz
      rw [runesAt_end hp] at hr
      have HR := Lib.hid hr
      clear hr hd
      go_wp2
      go_ret
      exact ⟨by rw [← HR.out]; rfl, (Below.refl w.heap.size w).alloc (Nat.le_refl _) _⟩
theorem getV_cases (l : List UInt8) (i : Nat) (h : i < l.length) : (dec l i = (65533, 1) ∧ getV l i = .tuple #[.int .i64 0, .int .i64 0, .bool false]) ∨ (dec l i ≠ (65533, 1) ∧ getV l i = .tuple #[.int .i64 (dec l i).1, .int .i64 (i + (dec l i).2), .bool true]) := by
  by_cases hb : dec l i = (65533, 1)
  · exact .inl ⟨hb, getV_bad hb⟩
  · exact .inr ⟨hb, getV_good h rfl (fun g => hb (Prod.ext g.1 g.2))⟩
theorem textok_spec (l : List UInt8) (w : World) (hl : l.length ≤ 1099511627776) :
    Calls Tryz.prog 100 #[.string ⟨l.toArray⟩] w fun e w' => e = .returned (.bool (runes l).isSome) ∧ Below w.heap.size w w' := by
  obtain ⟨cap, w1, hcv, hR, hb1, _⟩ := conv_bytes w l
  have cg := fun a => get_spec_any w1 _ l a hR hl
  have HG := Lib.hid cg
  clear cg hR
  generalize (ByteArray.mk l.toArray) = s at *
  go_enter Tryz.func100, Tryz.ntmps100
  go_wp2
  go_loopw [4] (fun i wr => ∃ pos : Nat, i = .int .i64 pos ∧ wr = w1 ∧ pos ≤ l.length ∧ (runesAt l pos).isSome = (runes l).isSome) (fun i _ => l.length - (intOf i).toNat)
  case atStart => exact ⟨0, rfl, rfl, Nat.zero_le _, rfl⟩
  case round =>
    obtain ⟨pos, rfl, rfl, hpos, hr⟩ := hrel
    have HR := Lib.hid hr
    clear hr
    by_cases hp : pos < l.length
    · have cg := HG.out pos
      have hwd := dec_pos hp
      have HP := Lib.hid hp
      rcases getV_cases l pos hp with ⟨hb, e⟩ | ⟨hb, e⟩
      · rw [e] at cg
        have HB := Lib.hid hb
        clear hb e hwd
        go_wp2_with (go_at_call 144; refine cg.mono ?_; rintro e w' ⟨rfl, rfl⟩)
        go_ret
        exact ⟨by rw [← HR.out, runesAt_bad HP.out HB.out]; rfl, hb1⟩
      · rw [e] at cg
        have HB := Lib.hid hb
        have hg := Lib.hid (runesAt_good hp hb)
        generalize hk : (dec l pos).2 = k at *
        generalize hq : (dec l pos).1 = q at *
        have HW := Lib.hid hwd
        clear hb e hwd hk hq
        go_wp2_with (go_at_call 144; refine cg.mono ?_; rintro e w' ⟨rfl, rfl⟩)
        go_roundw
        case rel =>
          exact ⟨pos + k, by go_num, by first | rfl | trivial, HW.out.2, by rw [← HR.out, hg.out, Option.isSome_map]⟩
        case measure =>
          have := HW.out
          have := HP.out
          simp [intOf]
          omega
    · have HP := Lib.hid hp
      go_wp2
      go_ret
      exact ⟨by rw [← HR.out, runesAt_end HP.out]; rfl, hb1⟩
end Go.Proofs.YtnikcgmbkmbloaaGreatDoor
/- One character of a quoted string: the program's answers. -/
namespace Go.Proofs.YtnikcgmbkmbloaaGreatDoor
open Go.RowKit Go.Maps
set_option maxRecDepth 100000
def charV (c : Option (Int × Nat)) : Value := match c with
  | none => .tuple #[.int .i64 0, .int .i64 0, .bool false]
  | some (n, j) => .tuple #[.int .i64 n, .int .i64 j, .bool true]
theorem inS_one' (l : List UInt8) (c : UInt8) (i : Nat) : inS l [c] i = decide (l[i]? = some c) := by
  rcases Nat.lt_or_ge i l.length with h | h
  · rw [inS_get h, List.getElem?_eq_getElem h]
    by_cases e : l[i] = c
    · subst e; simp
    · have : ¬ (some l[i] = some c) := fun g => e (Option.some.inj g)
      rw [decide_eq_false this]; simp; exact e
  · rw [inS_out h, List.getElem?_eq_none h]; simp
theorem plain_impl (l : List UInt8) (i : Nat) (w : World) (hl : l.length ≤ 1099511627776) (hi : i ≤ l.length) (hE : Env w) (h92 : ¬ l[i]? = some 92) :
    Calls Tryz.prog 230 #[.string ⟨l.toArray⟩, .int .i64 i] w fun e w' => e = .returned (charV (charAt l i)) ∧ Below w.heap.size w w' := by
  have hsz := size_l l
  by_cases hp : i < l.length
  · have cd := decode_string l i hp w hE.1
    have hwd := dec_pos hp
    have hle : (dec l i).1 ≤ 2147483647 := by have := (dec_shape l i hp).1; omega
    have hR : charAt l i = if dec l i = (65533, 1) then none else if (dec l i).1 < 32 then none else some (((dec l i).1 : Int), i + (dec l i).2) := by
      by_cases hb : dec l i = (65533, 1)
      · rw [if_pos hb, char_bad h92 hb]
      · rw [if_neg hb]
        by_cases h32 : (dec l i).1 < 32
        · rw [if_pos h32, char_low h92 h32]
        · rw [if_neg h32, char_plain hp h92 hb (by omega)]
    rw [hR]
    clear hR h92 hE
    have hz : (i : Int) ≤ l.length := by omega
    generalize hg : dec l i = d at *
    obtain ⟨r, k⟩ := d
    simp only at cd hwd hle ⊢
    clear hg
    generalize (ByteArray.mk l.toArray) = s at *
    by_cases hr : r = 65533
    · subst hr
      by_cases hk : k = 1
      · subst hk
        rw [if_pos rfl]
        go_enter Tryz.func230, Tryz.ntmps230
        go_wp2_with fail
        refine cd.mono ?_
        rintro e w1 ⟨rfl, b1⟩
        go_wp2
        go_ret3
        exact ⟨rfl, b1⟩
      · rw [if_neg (by intro e; injection e with _ e; exact hk e), if_neg (by omega)]
        have hk1 : (1 : Int) < k := by omega
        have hik : (i : Int) + k ≤ l.length := by omega
        clear hk
        go_enter Tryz.func230, Tryz.ntmps230
        go_wp2_with fail
        refine cd.mono ?_
        rintro e w1 ⟨rfl, b1⟩
        go_wp2
        go_ret3
        exact ⟨rfl, b1⟩
    · rw [if_neg (by intro e; injection e with e _; exact hr e)]
      have hr2 : ((r : Int) == 65533) = false := by simp; omega
      have hik : (i : Int) + k ≤ l.length := by omega
      by_cases h32 : r < 32
      · rw [if_pos h32]
        have h32' : (r : Int) < 32 := by omega
        clear hr
        go_enter Tryz.func230, Tryz.ntmps230
        go_wp2_with fail
        refine cd.mono ?_
        rintro e w1 ⟨rfl, b1⟩
        go_wp2
        go_ret3
        exact ⟨rfl, b1⟩
      · rw [if_neg h32]
        have h32' : (32 : Int) ≤ r := by omega
        have hle' : (r : Int) ≤ 2147483647 := by omega
        clear hr h32
        go_enter Tryz.func230, Tryz.ntmps230
        go_wp2_with fail
        refine cd.mono ?_
        rintro e w1 ⟨rfl, b1⟩
        go_wp2
        go_ret3
        exact ⟨rfl, b1⟩
  · have hil : i = l.length := by omega
    have cd := decode_string_end l i hil w hE.1
    rw [char_end (Nat.le_of_eq hil.symm)]
    have hz : (i : Int) ≤ l.length := by omega
    generalize (ByteArray.mk l.toArray) = s at *
    clear h92 hE hp hil
    go_enter Tryz.func230, Tryz.ntmps230
    go_wp2_with fail
    refine cd.mono ?_
    rintro e w1 ⟨rfl, b1⟩
    go_wp2
    go_ret3
    exact ⟨rfl, b1⟩
def numEsc (l : List UInt8) (i : Nat) : Option (Int × Nat) := if l[i]? = some 92 ∧ l[i + 1]? = some 117 then (fourAt l (i + 2)).map (fun n => (n, i + 6)) else none
theorem pre_u (l : List UInt8) (i : Nat) : Lib.hasPrefix (l.drop i) [92, 117] = decide (l[i]? = some 92 ∧ l[i + 1]? = some 117) := by
  unfold Lib.hasPrefix
  have h0 : l[i]? = (l.drop i)[0]? := by simp
  have h1 : l[i + 1]? = (l.drop i)[1]? := by simp
  rw [h0, h1]
  match l.drop i with
  | [] => rfl
  | [a] => simp [List.isPrefixOf]
  | a :: b :: r =>
    by_cases ha : a = 92
    · subst ha
      by_cases hb : b = 117
      · subst hb; rfl
      · have h2 : ((117 : UInt8) == b) = false := by simp; exact fun h => hb h.symm
        rw [decide_eq_false (by intro h; exact hb (Option.some.inj h.2))]
        show (((92 : UInt8) == 92) && (((117 : UInt8) == b) && List.isPrefixOf [] r)) = false
        rw [h2]; rfl
    · have h2 : ((92 : UInt8) == a) = false := by simp; exact fun h => ha h.symm
      rw [decide_eq_false (by intro h; exact ha (Option.some.inj h.1))]
      show (((92 : UInt8) == a) && List.isPrefixOf [117] (b :: r)) = false
      rw [h2]; rfl
theorem numesc_impl (l : List UInt8) (i : Nat) (w : World) (hl : l.length ≤ 1099511627776) (hi : i ≤ l.length) (hE : Env w) :
    Calls Tryz.prog 253 #[.string ⟨l.toArray⟩, .int .i64 i] w fun e w' => e = .returned (charV (numEsc l i)) ∧ Below w.heap.size w w' := by
  have hsz := size_l l
  have hp := Tryz.strings_HasPrefix ((ByteArray.mk l.toArray).extract i l.length) ⟨#[92, 117]⟩ w
  rw [data_l _ _ _ (by omega), show (ByteArray.mk #[92, 117]).data.toList = [92, 117] from rfl, pre_u] at hp
  obtain ⟨_, ts, ps, hS⟩ := hE
  have cf := readfour_impl l (i + 2) w hl (by omega) (by omega) ts ps hS
  have hz : (i : Int) ≤ l.length := by omega
  unfold numEsc
  by_cases hu : l[i]? = some 92 ∧ l[i + 1]? = some 117
  · rw [decide_eq_true hu] at hp
    rw [if_pos hu]
    have hv : fourV l ((i : Int) + 2) = match fourAt l (i + 2) with | none => .tuple #[.int .i64 0, .bool false] | some n => .tuple #[.int .i64 n, .bool true] := by
      have := fourV_in (l := l) (i := i + 2); exact this
    rw [hv] at cf
    clear hv hu hS
    cases h4 : fourAt l (i + 2) with
    | none =>
      rw [h4] at cf
      generalize (ByteArray.mk l.toArray) = s at *
      clear h4
      go_enter Tryz.func253, Tryz.ntmps253
      go_wp2_with fail
      refine hp.mono ?_
      rintro e w1 ⟨rfl, rfl⟩
      go_wp2_with fail
      refine cf.mono ?_
      rintro e w2 ⟨rfl, b2⟩
      go_wp2
      go_ret3
      exact ⟨rfl, b2⟩
    | some n =>
      rw [h4] at cf
      generalize (ByteArray.mk l.toArray) = s at *
      clear h4
      go_enter Tryz.func253, Tryz.ntmps253
      go_wp2_with fail
      refine hp.mono ?_
      rintro e w1 ⟨rfl, rfl⟩
      go_wp2_with fail
      refine cf.mono ?_
      rintro e w2 ⟨rfl, b2⟩
      go_wp2
      go_ret3
      exact ⟨rfl, b2⟩
  · rw [decide_eq_false hu] at hp
    rw [if_neg hu]
    generalize (ByteArray.mk l.toArray) = s at *
    clear hu hS cf
    go_enter Tryz.func253, Tryz.ntmps253
    go_wp2_with fail
    refine hp.mono ?_
    rintro e w1 ⟨rfl, rfl⟩
    go_wp2
    go_ret3
    exact ⟨rfl, Below.refl _ _⟩
end Go.Proofs.YtnikcgmbkmbloaaGreatDoor
