import Derived.Test.YtelehfefhlgbkaaGreatDoorG0
import Derived.Test.YtelehfefhlgbkaaGreatDoorG4
import Derived.Test.YtelehfefhlgbkaaGreatDoorG5
import Derived.Test.YtelehfefhlgbkaaGreatDoorG2
import Derived.Test.YtelehfefhlgbkaaGreatDoorG17
import Derived.Deep.Cut
import Derived.Deep.DeepCutAuto
import Derived.Test.YtelehfefhlgbkaaGreatDoorG14
import Derived.Test.YtelehfefhlgbkaaGreatDoorG8
import Derived.Laws.StructEq
import Derived.StillTailTactics
import Derived.Deep.RegionHeld3
/- What the model's draws of tokens return. -/
namespace Go.Proofs.YtelehfefhlgbkaaGreatDoor
open Go.RowKit
set_option maxRecDepth 100000
/-- a token that is drawn -/
structure Drawn (t : Tok) : Prop where
  good : GoodTok t
  s : t.s.length ≤ 1000
  x : t.x.natAbs < 10 ^ 3
theorem drawn_num {t : Tok} (h : Drawn t) : NumIn t := by
  obtain ⟨hg, _, hx⟩ := h
  cases hg with
  | sign c hc => exact ⟨by show -9223372036854775808 ≤ (0 : Int); decide, by show (0 : Int) ≤ _; decide, by show -9223372036854775808 ≤ (0 : Int); decide, by show (0 : Int) ≤ _; decide⟩
  | text rs hr => exact ⟨by show -9223372036854775808 ≤ (0 : Int); decide, by show (0 : Int) ≤ _; decide, by show -9223372036854775808 ≤ (0 : Int); decide, by show (0 : Int) ≤ _; decide⟩
  | num n x h =>
    simp only at hx ⊢
    exact ⟨by show _ ≤ n; omega, by show n ≤ _; omega, by show _ ≤ x; omega, by show x ≤ _; omega⟩
  | word w hw => exact ⟨by show -9223372036854775808 ≤ (0 : Int); decide, by show (0 : Int) ≤ _; decide, by show -9223372036854775808 ≤ (0 : Int); decide, by show (0 : Int) ≤ _; decide⟩
def TokPost (B : Nat) (P : Tok → Prop) (w : World) (e : Ending) (w' : World) : Prop := ∃ t : Tok, P t ∧ e = .returned t.val ∧ Only B w w' ∧ Cur w' B
theorem ZT.only {w w' : World} {B b : Nat} (h : ZT w b) (ho : Only B w w') (hb : b ≠ B) : ZT w' b :=
  ⟨ho.cell hb h.c0, ho.cell hb h.c1, ho.cell hb h.c2, ho.cell hb h.c3, fun o => (ho.frozen (p := ⟨b, o, none⟩) hb (show b < w.heap.size from cell_lt h.c0)).trans (h.f o)⟩
theorem only_four {B : Nat} {w W : World} (h : Only B w W) {b : Nat} (hb : w.heap.size ≤ b) (v0 v1 v2 v3 : Value) : Only B w ((((W.setCell ⟨b, 0, none⟩ v0).setCell ⟨b, 1, none⟩ v1).setCell ⟨b, 2, none⟩ v2).setCell ⟨b, 3, none⟩ v3) :=
  (((h.setNew (p := ⟨b, 0, none⟩) hb v0).setNew (p := ⟨b, 1, none⟩) hb v1).setNew (p := ⟨b, 2, none⟩) hb v2).setNew (p := ⟨b, 3, none⟩) hb v3
theorem cur_four {B : Nat} {W : World} (h : Cur W B) {b : Nat} (hb : B < b) (v0 v1 v2 v3 : Value) : Cur ((((W.setCell ⟨b, 0, none⟩ v0).setCell ⟨b, 1, none⟩ v1).setCell ⟨b, 2, none⟩ v2).setCell ⟨b, 3, none⟩ v3) B :=
  (((h.setNew (p := ⟨b, 0, none⟩) hb v0).setNew (p := ⟨b, 1, none⟩) hb v1).setNew (p := ⟨b, 2, none⟩) hb v2).setNew (p := ⟨b, 3, none⟩) hb v3
theorem text_flat {l : List UInt8} (h : (runes l).isSome = true) : ∃ rs, (∀ r ∈ rs, okR r) ∧ flat rs = l := by
  cases hr : runes l with
  | none => rw [hr] at h; cases h
  | some rs => exact ⟨rs, runes_okR _ l rs (Nat.le_refl _) hr, flat_runes _ l rs (Nat.le_refl _) hr⟩
theorem sign_mem : ∀ x ∈ ([[123], [125], [91], [93], [58], [44]] : List (List UInt8)), ∃ c, isSg c = true ∧ x = [c] := by
  intro x hx
  simp only [List.mem_cons, List.not_mem_nil, or_false] at hx
  rcases hx with rfl | rfl | rfl | rfl | rfl | rfl <;> exact ⟨_, by decide, rfl⟩
theorem word_mem : ∀ x ∈ ([[110, 117, 108, 108], [116, 114, 117, 101], [102, 97, 108, 115, 101]] : List (List UInt8)), x = wNull ∨ x = wTrue ∨ x = wFalse := by
  intro x hx
  simp only [List.mem_cons, List.not_mem_nil, or_false] at hx
  exact hx
set_option maxHeartbeats 2000000 in
theorem tok_draw (w : World) (B : Nat) (hC : Cur w B) : Calls Tryz.prog 28 #[.pointer (some ⟨B, 0, none⟩)] w (TokPost B Drawn w) := by
  have hBl := hC.lt
  have HZ := Lib.hid (zt_new w 30)
  have HO := Lib.hid ((Only.refl B w).alloc (.cells #[.int .i64 0, .string ⟨#[]⟩, .int .i64 0, .int .i64 0] 30))
  have hC1 := hC.alloc (.cells #[.int .i64 0, .string ⟨#[]⟩, .int .i64 0, .int .i64 0] 30)
  have hne : w.heap.size ≠ B := by omega
  go_enter Tryz.func28, Tryz.ntmps28
  (go_upto_region 1 with fail)
  generalize w.alloc (.cells #[.int .i64 0, .string ⟨#[]⟩, .int .i64 0, .int .i64 0] 30) = w1 at *
  go_wp2_with fail
  refine (below_any w1 B 4 hC1 (by decide)).mono ?_
  rintro e w2 ⟨x, ⟨hx0, hx1⟩, rfl, ho2, hc2⟩
  have HZ2 := Lib.hid (HZ.out.only ho2 hne)
  have HO2 := Lib.hid (HO.out.trans ho2)
  have HX := Lib.hid (show x = 0 ∨ x = 1 ∨ x = 2 ∨ x = 3 by omega)
  clear ho2 hx0 hx1 HZ HO hC1
  rcases HX.out with rfl | rfl | rfl | rfl
  · have hd := str_lit w2 B [[123], [125], [91], [93], [58], [44]] 9 (fun l => ∃ c, isSg c = true ∧ l = [c]) hc2 (by decide) (by decide) sign_mem
    go_wp2_with fail
    refine hd.mono ?_
    rintro e w3 ⟨l, ⟨c, hc, rfl⟩, rfl, ho3, hc3⟩
    obtain ⟨z0, z1, z2, z3, zf⟩ := HZ2.out.only ho3 hne
    have HO3 := Lib.hid (HO2.out.trans ho3)
    have HC3 := Lib.hid hc3
    have HG := Lib.hid hc
    clear hd ho3 hc3 hc
    go_wp2
    exact bodyPost_ret (v := (⟨1, [c], 0, 0⟩ : Tok).val) (by simp [results, Tryz.results28, go_sem, z0, z1, z2, z3]) rfl ⟨_, ⟨.sign c HG.out, by simp, by simp⟩, rfl, only_four HO3.out (Nat.le_refl _) _ _ _ _, cur_four HC3.out hBl _ _ _ _⟩
  · go_wp2_with fail
    refine (text_good w2 B hc2).mono ?_
    rintro e w3 ⟨l, ⟨hl, hr⟩, rfl, ho3, hc3⟩
    obtain ⟨rs, h1, h2⟩ := text_flat hr
    obtain ⟨z0, z1, z2, z3, zf⟩ := HZ2.out.only ho3 hne
    have HO3 := Lib.hid (HO2.out.trans ho3)
    have HC3 := Lib.hid hc3
    have HG := Lib.hid (show Drawn ⟨2, l, 0, 0⟩ by subst h2; exact ⟨.text rs h1, hl, by simp⟩)
    clear ho3 hc3 hl hr h1 h2
    go_wp2
    exact bodyPost_ret (v := (⟨2, l, 0, 0⟩ : Tok).val) (by simp [results, Tryz.results28, go_sem, z0, z1, z2, z3]) rfl ⟨_, HG.out, rfl, only_four HO3.out (Nat.le_refl _) _ _ _ _, cur_four HC3.out hBl _ _ _ _⟩
  · go_wp2_with fail
    refine (l4draw_any w2 B hc2).mono ?_
    rintro e w3 ⟨n, y, hd, rfl, ho3, hc3⟩
    obtain ⟨r0, r1, r2, _, r4⟩ := decOk_range hd
    have HG := Lib.hid (show Drawn ⟨3, [], n, y⟩ from ⟨.num n y r2, by simp, by show y.natAbs < 1000; omega⟩)
    have HZ3 := Lib.hid (HZ2.out.only ho3 hne)
    obtain ⟨z0, z1, z2, z3, zf⟩ := HZ3.out.blw (vbox w3 (.cells #[.int .i64 n, .int .i64 y] 73))
    have HO3 := Lib.hid ((HO2.out.trans ho3).alloc (.cells #[.int .i64 n, .int .i64 y] 73))
    have HC3 := Lib.hid (hc3.alloc (.cells #[.int .i64 n, .int .i64 y] 73))
    obtain ⟨e0, e1, _, _⟩ := box_new w3 n y 73
    clear ho3 hc3 hd r0 r1 r2 r4 HZ3
    (go_upto_region 8 with fail)
    generalize hW : w3.alloc (.cells #[.int .i64 n, .int .i64 y] 73) = w4 at *
    clear hW
    go_wp2
    exact bodyPost_ret (v := (⟨3, [], n, y⟩ : Tok).val) (by simp [results, Tryz.results28, go_sem, z0, z1, z2, z3]) rfl ⟨_, HG.out, rfl, only_four HO3.out (Nat.le_refl _) _ _ _ _, cur_four HC3.out hBl _ _ _ _⟩
  · have hd := str_lit w2 B [[110, 117, 108, 108], [116, 114, 117, 101], [102, 97, 108, 115, 101]] 9 (fun l => l = wNull ∨ l = wTrue ∨ l = wFalse) hc2 (by decide) (by decide) word_mem
    go_wp2_with fail
    refine hd.mono ?_
    rintro e w3 ⟨l, hw, rfl, ho3, hc3⟩
    obtain ⟨z0, z1, z2, z3, zf⟩ := HZ2.out.only ho3 hne
    have HO3 := Lib.hid (HO2.out.trans ho3)
    have HC3 := Lib.hid hc3
    have HG := Lib.hid (show Drawn ⟨4, l, 0, 0⟩ from ⟨.word l hw, by rcases hw with rfl | rfl | rfl <;> decide, by simp⟩)
    clear hd ho3 hc3 hw
    go_wp2
    exact bodyPost_ret (v := (⟨4, l, 0, 0⟩ : Tok).val) (by simp [results, Tryz.results28, go_sem, z0, z1, z2, z3]) rfl ⟨_, HG.out, rfl, only_four HO3.out (Nat.le_refl _) _ _ _ _, cur_four HC3.out hBl _ _ _ _⟩
def ToksPost (B : Nat) (w : World) (e : Ending) (w' : World) : Prop := ∃ (l : List Tok) (a : Option Addr) (cap : Nat), l.length ≤ 5 ∧ (∀ t ∈ l, Drawn t) ∧ e = .returned (.slice a l.length cap) ∧ OwnT w' w.heap.size a cap l ∧ Only B w w' ∧ Cur w' B
theorem OwnT.only {w w' : World} {B N : Nat} {a : Option Addr} {cap : Nat} {l : List Tok} (h : OwnT w N a cap l) (ho : Only B w w') (hB : B < N) : OwnT w' N a cap l :=
  own_heap h fun g hg => by
    have := World.ownsRow.lt h g hg
    exact ho.block g this.2 (by omega)
set_option maxHeartbeats 2000000 in
theorem toks_draw (w : World) (B : Nat) (hC : Cur w B) : Calls Tryz.prog 26 #[.pointer (some ⟨B, 0, none⟩)] w (ToksPost B w) := by
  obtain ⟨i0, hi, hz0, hz1, hz2⟩ := info_parts tokenInfo
  have hBl := hC.lt
  have HB := Lib.hid hBl
  have hC1 := hC.alloc (.cells #[] 30)
  have HO := Lib.hid ((Only.refl B w).alloc (.cells #[] 30))
  have HW := Lib.hid (ownT_made w)
  go_enter Tryz.func26, Tryz.ntmps26
  (go_upto_region 2 with fail)
  generalize w.alloc (.cells #[] 30) = w1 at *
  go_wp2_with fail
  refine (below_any w1 B 6 hC1 (by decide)).mono ?_
  rintro e w2 ⟨x, ⟨hx0, hx1⟩, rfl, ho2, hc2⟩
  obtain ⟨x, rfl⟩ : ∃ q : Nat, x = q := ⟨x.toNat, by omega⟩
  have HW2 := Lib.hid (HW.out.only ho2 hBl)
  have HO2 := Lib.hid (HO.out.trans ho2)
  have HC2 := Lib.hid hc2
  have HX := Lib.hid (show x ≤ 5 by omega)
  clear ho2 hc2 HW HO hC1 hx0 hx1 hC hBl
  go_wp2
  go_loopw [3, 4] (fun v i wr => ∃ (q : Nat) (l : List Tok) (a : Option Addr) (cap : Nat), i = .int .i64 q ∧ v = .slice a l.length cap ∧ l.length + q ≤ 5 ∧ Hid (∀ t ∈ l, Drawn t) ∧ Hid (OwnT wr w.heap.size a cap l) ∧ Hid (Only B w wr) ∧ Hid (Cur wr B)) (fun _ i _ => (intOf i).toNat)
  case atStart => exact ⟨x, [], _, _, rfl, rfl, by have := HX.out; simpa using this, Lib.hid (by simp), HW2, HO2, HC2⟩
  case round =>
    obtain ⟨q, l, a, cap, rfl, rfl, hq, HD, HT, HO3, HC3⟩ := hrel
    have HQ := Lib.hid hq
    by_cases hq0 : (0 : Int) < q
    · have hq5 : (q : Int) ≤ 5 := by omega
      have HQ0 := Lib.hid hq0
      clear hq
      go_wp2_with fail
      refine (tok_draw wr B HC3.out).mono ?_
      rintro e w3 ⟨⟨k, st, n, y⟩, hd, rfl, ho3, hc3⟩
      have HT3 := Lib.hid (HT.out.only ho3 HB.out)
      have HO4 := Lib.hid (HO3.out.trans ho3)
      have HC4 := Lib.hid hc3
      have HDR := Lib.hid hd
      clear ho3 hc3 hd HT HO3 HC3
      go_wp2_with (at_builtin; refine wpList_append_own _ rfl _ _ 24 rfl w.heap.size 30 i0 _ 4 40 Tryz.underlying24 hi hz0 hz1 hz2 rfl (by decide) _ _ _ rfl (HT3.out.blw (vbox w3 (.cells #[.int .i64 k, .string ⟨st.toArray⟩, .int .i64 n, .int .i64 y] 30))) ⟨w3.heap.size, 0, none⟩ 1 1 (tkv [⟨k, st, n, y⟩]) rfl rfl ?c1 (tkv_one' _) ?c3 ?c4 ?c5 ?_)
      case c1 =>
        intro j u hj
        match j, hj with
        | 0, hj => simp [tkv] at hj; subst hj; simp [Addr.add, go_sem]
        | 1, hj => simp [tkv] at hj; subst hj; simp [Addr.add, go_sem]
        | 2, hj => simp [tkv] at hj; subst hj; simp [Addr.add, go_sem]
        | 3, hj => simp [tkv] at hj; subst hj; simp [Addr.add, go_sem]
        | (j + 4), hj => simp [tkv] at hj
      case c3 => have := HQ.out; unfold maxLen; omega
      case c4 => have := HQ.out; omega
      case c5 => have := HO4.out.size; simp; omega
      intro v' w4 hown4 hgrow _
      have hrow := HT3.out.blw (vbox w3 (.cells #[.int .i64 k, .string ⟨st.toArray⟩, .int .i64 n, .int .i64 y] 30))
      have hb4 : Below w.heap.size w3 w4 := ((vbox w3 (.cells #[.int .i64 k, .string ⟨st.toArray⟩, .int .i64 n, .int .i64 y] 30)).mono HO4.out.size).trans (grown_belowN hgrow (by have := HO4.out.size; simp; omega) (fun p hp => (World.ownsRow.lt hrow p hp).1))
      obtain ⟨a4, cap4, rfl⟩ := own_shp hown4
      have HT4 := Lib.hid (show OwnT w4 w.heap.size a4 cap4 (l ++ [⟨k, st, n, y⟩]) by unfold OwnT; rw [List.length_append, tkv_append]; exact hown4)
      have HO5 := Lib.hid (HO4.out.then_below hb4 (Nat.le_refl _))
      have HC5 := Lib.hid (HC4.out.below hb4 HB.out)
      clear hown4 hgrow hrow hb4 HT3
      go_wp2
      go_roundw
      case rel =>
        refine ⟨q - 1, l ++ [⟨k, st, n, y⟩], a4, cap4, by have := HQ0.out; go_num, by simp, by have := HQ.out; have := HQ0.out; simp; omega, Lib.hid (fun t ht => ?_), HT4, HO5, HC5⟩
        rcases List.mem_append.1 ht with h | h
        · exact HD.out t h
        · rw [List.mem_singleton.1 h]; exact HDR.out
      case measure => have := HQ0.out; simp [intOf]; omega
    · clear hq
      go_wp2
      go_ret
      exact ⟨l, a, cap, by have := HQ.out; omega, HD.out, rfl, HT.out, HO3.out, HC3.out⟩
end Go.Proofs.YtelehfefhlgbkaaGreatDoor
/- What the model's draws for chapter 10 return. -/
namespace Go.Proofs.YtelehfefhlgbkaaGreatDoor
open Go.RowKit
set_option maxRecDepth 100000
theorem joinT_len2 : ∀ (l : List Tok), (∀ t ∈ l, Drawn t) → (joinT l).length ≤ 6051 * l.length
  | [], _ => by rw [joinT_nil]; exact Nat.zero_le _
  | [t], h => by
    have hd := h t List.mem_cons_self
    rw [joinT_one]
    have := tokText_len t (drawn_num hd)
    have := hd.s
    simp only [List.length_cons, List.length_nil]; omega
  | t :: u :: r, h => by
    have hd := h t List.mem_cons_self
    rw [joinT_cons]
    have h1 := tokText_len t (drawn_num hd)
    have h3 := hd.s
    have h2 := joinT_len2 (u :: r) (fun x hx => h x (List.mem_cons_of_mem _ hx))
    simp only [List.length_append, List.length_cons] at h2 ⊢
    omega
theorem wtS_drawn : ∀ (l : List Tok), (∀ t ∈ l, Drawn t) → wtS l ≤ 1001 * l.length
  | [], _ => Nat.zero_le _
  | t :: l, h => by
    rw [wtS_cons, List.length_cons]
    have := (h t List.mem_cons_self).s
    have := wtS_drawn l (fun x hx => h x (List.mem_cons_of_mem _ hx))
    omega
set_option maxHeartbeats 2000000 in
theorem l10text_any (w : World) (B : Nat) (hC : Cur w B) : Calls Tryz.prog 35 #[.pointer (some ⟨B, 0, none⟩)] w (StrPost B (fun l => l.length ≤ 30256) w) := by
  have hBl := hC.lt
  go_enter Tryz.func35, Tryz.ntmps35
  go_wp2_with fail
  refine (once_any w B 4 hC (by decide)).mono ?_
  rintro e w1 ⟨b, rfl, ho, hc⟩
  cases b
  · have HO1 := Lib.hid ho
    clear ho
    go_wp2_with fail
    refine (toks_draw w1 B hc).mono ?_
    rintro e w2 ⟨l, a, cap, hl5, hd, rfl, hown, ho2, hc2⟩
    have HO2 := Lib.hid (HO1.out.trans ho2)
    have HC2 := Lib.hid hc2
    have hjl := joinT_len2 l hd
    have hwt := wtS_drawn l hd
    have cj := jointok_spec l a cap w2 w2.heap.size hown.tkat (Nat.le_refl _) (by omega) (fun t ht => drawn_num (hd t ht))
    have HJ := Lib.hid (show (joinT l).length ≤ 30255 by omega)
    clear ho2 hc2 hd hown hjl hwt hc
    obtain ⟨J, hJ⟩ : ∃ J, J = joinT l := ⟨_, rfl⟩
    rw [← hJ] at cj HJ
    clear hJ
    go_wp2_with fail
    refine cj.mono ?_
    rintro e w3 ⟨rfl, b3⟩
    have HO3 := Lib.hid (HO2.out.then_below b3 HO2.out.size)
    have HC3 := Lib.hid (HC2.out.below b3 HC2.out.lt)
    clear cj b3
    go_wp2_with fail
    refine (once_any w3 B 4 HC3.out (by decide)).mono ?_
    rintro e w4 ⟨b, rfl, ho4, hc4⟩
    have HO4 := Lib.hid (HO3.out.trans ho4)
    have HC4 := Lib.hid hc4
    clear ho4 hc4
    cases b
    · go_wp2
      go_ret
      exact ⟨J, by have := HJ.out; omega, rfl, HO4.out, HC4.out⟩
    · obtain ⟨cp, w5, hcv, hR, hb5, _⟩ := conv_bytes w4 J
      have hc5 := HC4.out.below hb5 HC4.out.lt
      have cb := bent_any w5 B w4.heap.size 0 cp J hc5 (slice_cells hR).2 (by have := HJ.out; omega)
      have HO5 := Lib.hid (HO4.out.then_below hb5 HO4.out.size)
      clear hR hb5 hc5
      generalize (ByteArray.mk J.toArray) = s at *
      go_wp2_with fail
      refine cb.mono ?_
      rintro e w6 ⟨v6, l6, hl6, rfl, hn6, o6, ho6, hc6⟩
      have hcv6 := conv_str w6 v6 l6 (own_slc o6)
      have HO6 := Lib.hid (HO5.out.trans ho6)
      have HC6 := Lib.hid hc6
      have HL6 := Lib.hid (show l6.length ≤ 30256 by have h1 : l6.length ≤ J.length + 1 := hl6; have := HJ.out; omega)
      clear o6 ho6 hc6 hl6 cb hn6 hcv
      go_wp2
      go_ret
      exact ⟨l6, HL6.out, rfl, HO6.out, HC6.out⟩
  · have hd := str_lit w1 B [[], [32], [110, 117, 108], [116, 114, 117, 101, 102, 97, 108, 115, 101], [91, 49, 44, 50, 93], [123, 34, 97, 34, 58, 49, 125], [49, 101, 57, 57, 57], [49, 101, 57, 57, 57, 57], [45], [9, 91, 10, 93, 13, 32], [120], [49, 50, 51, 52, 53, 54, 55, 56, 57, 48, 49, 50, 51, 52, 53, 54, 55, 56]] 9 (fun l => l.length ≤ 30256) hc (by decide) (by decide) (by decide)
    go_wp2_with fail
    refine hd.mono ?_
    rintro e w2 ⟨l, hx, rfl, ho2, hc2⟩
    go_wp2
    go_ret
    exact ⟨_, hx, rfl, ho.trans ho2, hc2⟩
def TkText (w : World) (e : Ending) (w' : World) : Prop := ∃ l : List UInt8, l.length ≤ 30256 ∧ e = .returned (.string ⟨l.toArray⟩) ∧ Below w.heap.size w w'
def TkTextInt (w : World) (e : Ending) (w' : World) : Prop := ∃ (l : List UInt8) (a : Int), l.length ≤ 30256 ∧ isInt a ∧ e = .returned (.tuple #[.string ⟨l.toArray⟩, .int .i64 a]) ∧ Below w.heap.size w w'
theorem draw_tokens (a : Option Addr) (len cap : Nat) (w : World) (hC : CodeAt w a len) (hl : len ≤ 1048576) : Calls Tryz.prog 14 #[.slice a len cap] w (TkText w) := by
  go_enter Tryz.func14, Tryz.ntmps14
  go_wp2_with fail
  refine (new_any a len cap w hC hl).mono ?_
  rintro e w1 ⟨rfl, hb, hc, _⟩
  go_wp2_with fail
  refine (l10text_any w1 _ hc).mono ?_
  rintro e w2 ⟨l, hx, rfl, ho, hc2⟩
  go_wp2
  go_ret
  exact ⟨l, hx, rfl, below_only hb ho rfl⟩
theorem draw_signok (a : Option Addr) (len cap : Nat) (w : World) (hC : CodeAt w a len) (hl : len ≤ 1048576) : Calls Tryz.prog 20 #[.slice a len cap] w (TkText w) := by
  go_enter Tryz.func20, Tryz.ntmps20
  go_wp2_with fail
  refine (new_any a len cap w hC hl).mono ?_
  rintro e w1 ⟨rfl, hb, hc, _⟩
  have hd := str_lit w1 w.heap.size [[123], [125], [91], [93], [58], [44], [], [123, 125], [120]] 9 (fun l => l.length ≤ 30256) hc (by decide) (by decide) (by decide)
  go_wp2_with fail
  refine hd.mono ?_
  rintro e w2 ⟨l, hx, rfl, ho, hc2⟩
  go_wp2
  go_ret
  exact ⟨l, hx, rfl, below_only hb ho rfl⟩
theorem draw_readtoken (a : Option Addr) (len cap : Nat) (w : World) (hC : CodeAt w a len) (hl : len ≤ 1048576) : Calls Tryz.prog 16 #[.slice a len cap] w (TkTextInt w) := by
  go_enter Tryz.func16, Tryz.ntmps16
  go_wp2_with fail
  refine (new_any a len cap w hC hl).mono ?_
  rintro e w1 ⟨rfl, hb, hc, _⟩
  go_wp2_with fail
  refine (l10text_any w1 _ hc).mono ?_
  rintro e w2 ⟨l, hx, rfl, ho, hc2⟩
  have hd2 := int_lit w2 w.heap.size [0, 0, 0, 1, 2, 5, -1, 99] 3 isInt hc2 (by decide) (by decide) (by unfold isInt; decide)
  have HB := Lib.hid (below_only hb ho rfl)
  have HL := Lib.hid hx
  clear hb ho hc hx
  go_wp2_with fail
  refine hd2.mono ?_
  rintro e w3 ⟨x, hx, rfl, ho, hc3⟩
  have HB3 := Lib.hid (below_only HB.out ho rfl)
  have HX := Lib.hid hx
  clear hx ho hd2 hc2
  go_wp2
  go_ret2
  exact ⟨l, x, HL.out, HX.out, rfl, HB3.out⟩
theorem draw_skip (a : Option Addr) (len cap : Nat) (w : World) (hC : CodeAt w a len) (hl : len ≤ 1048576) : Calls Tryz.prog 19 #[.slice a len cap] w (TkTextInt w) := by
  go_enter Tryz.func19, Tryz.ntmps19
  go_wp2_with fail
  refine (new_any a len cap w hC hl).mono ?_
  rintro e w1 ⟨rfl, hb, hc, _⟩
  go_wp2_with fail
  refine (l10text_any w1 _ hc).mono ?_
  rintro e w2 ⟨l, hx, rfl, ho, hc2⟩
  have HB := Lib.hid (below_only hb ho rfl)
  have HL := Lib.hid hx
  clear hb ho hc hx
  go_wp2_with fail
  refine (below_any w2 _ 9 hc2 (by decide)).mono ?_
  rintro e w3 ⟨x, ⟨h0, h1⟩, rfl, ho, hc3⟩
  have HB3 := Lib.hid (below_only HB.out ho rfl)
  have HX := Lib.hid (show isInt (x - 1) from ⟨by omega, by omega⟩)
  have hx9 : x ≤ 9 := by omega
  clear ho hc2 h1
  go_wp2
  go_ret2
  exact ⟨l, x - 1, HL.out, HX.out, rfl, HB3.out⟩
theorem draw_jointokens (a : Option Addr) (len cap : Nat) (w : World) (hC : CodeAt w a len) (hl : len ≤ 1048576) : Calls Tryz.prog 6 #[.slice a len cap] w
    fun e w' => ∃ (l : List Tok) (b : Option Addr) (cp : Nat), l.length ≤ 5 ∧ (∀ t ∈ l, Drawn t) ∧ e = .returned (.slice b l.length cp) ∧ OwnT w' w.heap.size b cp l ∧ Below w.heap.size w w' := by
  go_enter Tryz.func6, Tryz.ntmps6
  go_wp2_with fail
  refine (new_any a len cap w hC hl).mono ?_
  rintro e w1 ⟨rfl, hb, hc, _⟩
  go_wp2_with fail
  refine (toks_draw w1 _ hc).mono ?_
  rintro e w2 ⟨l, b, cp, h5, hd, rfl, hown, ho, hc2⟩
  have HD := Lib.hid hd
  have HOW := Lib.hid (OwnT.base hown hb.size)
  have HB := Lib.hid (below_only hb ho rfl)
  clear hd hown hb ho hc hc2
  go_wp2
  go_ret
  exact ⟨l, b, cp, h5, HD.out, rfl, HOW.out, HB.out⟩
theorem draw_tokentext (a : Option Addr) (len cap : Nat) (w : World) (hC : CodeAt w a len) (hl : len ≤ 1048576) : Calls Tryz.prog 9 #[.slice a len cap] w
    fun e w' => ∃ t : Tok, t.s.length ≤ 1000 ∧ NumIn t ∧ e = .returned t.val ∧ Below w.heap.size w w' := by
  have HZ := Lib.hid (zt_new w 30)
  have HB0 := Lib.hid (vbox w (.cells #[.int .i64 0, .string ⟨#[]⟩, .int .i64 0, .int .i64 0] 30))
  have HS0 := Lib.hid (show w.heap.size < (w.alloc (.cells #[.int .i64 0, .string ⟨#[]⟩, .int .i64 0, .int .i64 0] 30)).heap.size by simp)
  have hC0 := hC.below (vbox w (.cells #[.int .i64 0, .string ⟨#[]⟩, .int .i64 0, .int .i64 0] 30))
  clear hC
  go_enter Tryz.func9, Tryz.ntmps9
  (go_upto_region 1 with fail)
  generalize w.alloc (.cells #[.int .i64 0, .string ⟨#[]⟩, .int .i64 0, .int .i64 0] 30) = w0 at *
  go_wp2_with fail
  refine (new_any a len cap w0 hC0 hl).mono ?_
  rintro e w1 ⟨rfl, hb, hc, _⟩
  have HZ1 := Lib.hid (HZ.out.blw hb)
  have HB1 := Lib.hid (HB0.out.trans (hb.mono HB0.out.size))
  have HS1 := Lib.hid (show w0.heap.size ≤ w1.heap.size from hb.size)
  clear hb hC0 HZ HB0
  go_wp2_with fail
  refine (tok_draw w1 _ hc).mono ?_
  rintro e w2 ⟨⟨k, st, n, x⟩, hd, rfl, ho, hc2⟩
  have HN := Lib.hid (drawn_num hd)
  have HST := Lib.hid hd.s
  have hne0 : w.heap.size ≠ w0.heap.size := by have := HS0.out; omega
  have HO2 := Lib.hid ho
  have HZ2 := Lib.hid ((HZ1.out.only ho hne0).blw (vbox w2 (.cells #[.int .i64 k, .string ⟨st.toArray⟩, .int .i64 n, .int .i64 x] 30)))
  have HC3 := Lib.hid (hc2.alloc (.cells #[.int .i64 k, .string ⟨st.toArray⟩, .int .i64 n, .int .i64 x] 30))
  have HO3 := Lib.hid (ho.alloc (.cells #[.int .i64 k, .string ⟨st.toArray⟩, .int .i64 n, .int .i64 x] 30))
  have T3 := Lib.hid (tc_new w2 ⟨k, st, n, x⟩ 30)
  have HF3 := Lib.hid (show ∀ o, (w2.alloc (.cells #[.int .i64 k, .string ⟨st.toArray⟩, .int .i64 n, .int .i64 x] 30)).frozen? ⟨w2.heap.size, o, none⟩ = false by intro o; simp [go_sem])
  have HLT : w0.heap.size < w2.heap.size := hc2.lt
  have HD2 := Lib.hid (show w2.heap.size < (w2.alloc (.cells #[.int .i64 k, .string ⟨st.toArray⟩, .int .i64 n, .int .i64 x] 30)).heap.size by simp)
  clear hd ho hc2 hc HZ1
  (go_upto_region 3 with fail)
  generalize w2.alloc (.cells #[.int .i64 k, .string ⟨st.toArray⟩, .int .i64 n, .int .i64 x] 30) = w3 at *
  go_wp2_with fail
  refine (once_any w3 _ 8 HC3.out (by decide)).mono ?_
  rintro e w4 ⟨b, rfl, ho4, hc4⟩
  have hneD : w2.heap.size ≠ w0.heap.size := by omega
  obtain ⟨z0, z1, z2, z3, zf⟩ := HZ2.out.only ho4 hne0
  have d0 := ho4.cell (p := ⟨w2.heap.size, 0, none⟩) hneD T3.out.c0
  have d1 := ho4.cell (p := ⟨w2.heap.size, 1, none⟩) hneD T3.out.c1
  have d2 := ho4.cell (p := ⟨w2.heap.size, 2, none⟩) hneD T3.out.c2
  have d3 := ho4.cell (p := ⟨w2.heap.size, 3, none⟩) hneD T3.out.c3
  have df : ∀ o, w4.frozen? ⟨w2.heap.size, o, none⟩ = false := fun o => (ho4.frozen (p := ⟨w2.heap.size, o, none⟩) hneD HD2.out).trans (HF3.out o)
  have HO4 := Lib.hid (HO3.out.trans ho4)
  have hneq : w.heap.size ≠ w2.heap.size := by have := HS0.out; omega
  have HC4 := Lib.hid hc4
  simp only at d0 d1 d2 d3
  clear ho4 hc4 HZ2 T3 HF3 HC3 HO3 HO2
  cases b
  · go_wp2
    refine bodyPost_ret (v := (⟨k, st, n, x⟩ : Tok).val) (by simp [results, Tryz.results9, go_sem, z0, z1, z2, z3]) rfl ⟨⟨k, st, n, x⟩, HST.out, HN.out, rfl, ?_⟩
    exact tk_below (HB1.out.trans (HO4.out.below w.heap.size (by have := HS0.out; omega) HB1.out.size)) (Nat.le_refl _) _ _ _ _
  · go_wp2_with fail
    refine (below_any w4 _ 7 HC4.out (by decide)).mono ?_
    rintro e w5 ⟨y, ⟨hy0, hy1⟩, rfl, ho5, hc5⟩
    replace z0 := ho5.cell (p := ⟨w.heap.size, 0, none⟩) hne0 z0
    replace z1 := ho5.cell (p := ⟨w.heap.size, 1, none⟩) hne0 z1
    replace z2 := ho5.cell (p := ⟨w.heap.size, 2, none⟩) hne0 z2
    replace z3 := ho5.cell (p := ⟨w.heap.size, 3, none⟩) hne0 z3
    have zf5 : ∀ o, w5.frozen? ⟨w.heap.size, o, none⟩ = false := fun o => (ho5.frozen (p := ⟨w.heap.size, o, none⟩) hne0 (by have h1 := HS0.out; have h2 := HS1.out; have h3 := HO4.out.size; show w.heap.size < w4.heap.size; omega)).trans (zf o)
    have df5 : ∀ o, w5.frozen? ⟨w2.heap.size, o, none⟩ = false := fun o => (ho5.frozen (p := ⟨w2.heap.size, o, none⟩) hneD (show w2.heap.size < w4.heap.size from cell_lt d0)).trans (df o)
    replace d0 := ho5.cell (p := ⟨w2.heap.size, 0, none⟩) hneD d0
    replace d1 := ho5.cell (p := ⟨w2.heap.size, 1, none⟩) hneD d1
    replace d2 := ho5.cell (p := ⟨w2.heap.size, 2, none⟩) hneD d2
    replace d3 := ho5.cell (p := ⟨w2.heap.size, 3, none⟩) hneD d3
    have HO5 := Lib.hid (HO4.out.trans ho5)
    clear ho5 hc5 zf df HO4
    go_wp2
    refine bodyPost_ret (v := (⟨y - 1, st, n, x⟩ : Tok).val) (by simp [results, Tryz.results9, go_sem, z0, z1, z2, z3, d0, d1, d2, d3]) rfl ⟨⟨y - 1, st, n, x⟩, HST.out, ⟨HN.out.n0, HN.out.n1, HN.out.x0, HN.out.x1⟩, rfl, ?_⟩
    have hb5 : Below w.heap.size w w5 := HB1.out.trans (HO5.out.below w.heap.size (by have := HS0.out; omega) HB1.out.size)
    exact tk_below (bset hb5 (by have h1 := HS0.out; omega)) (Nat.le_refl _) _ _ _ _
end Go.Proofs.YtelehfefhlgbkaaGreatDoor
/- The tokens of a text: how long their text is; no program but the bounds. -/
namespace Go.Proofs.YtelehfefhlgbkaaGreatDoor
open Go.RowKit
theorem quote_flat_len (rs : List Int) (h : ∀ r ∈ rs, okR r) : (quoteL (flat rs)).length ≤ 6 * rs.length + 2 := by
  have hr : runes (flat rs) = some rs := by
    rw [runes_flat]; congr 1; rw [List.filter_eq_self]; intro x hx; exact decide_eq_true (h x hx)
  rw [quoteL_some hr]
  have := escsL_len rs
  simp only [List.length_cons, List.length_append, List.length_nil]; omega
theorem itoa_low (n : Int) (k : Nat) (h : n.natAbs < 10 ^ (k + 1)) : (Lib.itoa n).length ≤ k + 2 := by
  have h := dec_len k n.natAbs h
  by_cases hn : n < 0
  · rw [itoa_lt hn, List.length_cons]; omega
  · rw [itoa_ge hn]; omega
theorem readN_bounds {l : List UInt8} {i : Nat} (hl : l.length ≤ 100000) : (readN l i).n.natAbs < 10 ^ 17 ∧ (readN l i).x.natAbs < 10 ^ 6 := by
  obtain ⟨d1, d2, _, d4, d5⟩ := parts_digs l i
  unfold readN numOf
  split
  · split
    · rename_i h17
      have h1 := val17 d1 h17.1
      have h2 := decVal_lt (parts l i).exp (fun c hc => by have := d2 c hc; unfold isD at this; unfold isDig; exact of_decide_eq_true this) 0
      have h3 : 10 ^ (parts l i).exp.length ≤ 10 ^ 3 := Nat.pow_le_pow_right (by decide) h17.2
      have h4 : decVal 0 (parts l i).exp < 1000 := by omega
      refine ⟨?_, ?_⟩
      · simp only; unfold sgnV; split <;> omega
      · simp only; unfold sgnV; split <;> omega
    · exact ⟨by simp, by simp⟩
  · exact ⟨by simp, by simp⟩
/-- what a token that is read takes of its text -/
theorem tok_size {l : List UInt8} {i : Nat} (hl : l.length ≤ 100000) (hi : i ≤ l.length) (hc : (readTok l i).code = 0) (hk : (readTok l i).t.k ≠ 0) :
    (tokText (readTok l i).t).length + 1 + 29 * i ≤ 29 * (readTok l i).next ∧ (readTok l i).t.s.length + 1 + 29 * i ≤ 29 * (readTok l i).next ∧ NumIn (readTok l i).t := by
  have hs := skE_ge l i
  have he := skE_le hi
  unfold readTok at hc hk ⊢
  generalize skE l i = j at *
  unfold tokAt at hc hk ⊢
  rcases Nat.lt_or_ge j l.length with g | g
  · rw [List.getElem?_eq_getElem g] at hc hk ⊢
    simp only at hc hk ⊢
    generalize l[j] = c at *
    unfold charR at hc hk ⊢
    split
    · rename_i hsg
      have ht : tokText ⟨1, [c], 0, 0⟩ = [c] := by unfold tokText; rw [if_pos (.inl rfl)]
      rw [ht]
      refine ⟨by simp; omega, by simp; omega, ⟨?_, ?_, ?_, ?_⟩⟩ <;> simp
    · rename_i hsg
      rw [if_neg hsg] at hc hk
      split
      · rename_i h34
        rw [if_pos h34] at hc hk
        unfold textR at hc hk ⊢
        cases hq : readQ l j with
        | none => rw [hq] at hc; cases hc
        | some p =>
          obtain ⟨rs, e⟩ := p
          simp only
          unfold readQ at hq
          split at hq
          · have hr := readAt_ok _ l _ e rs (Nat.le_refl _) hq
            have h1 := quote_flat_len rs hr.1
            have h2 := flat_len rs
            rw [tokText_text]
            refine ⟨by omega, by omega, ⟨?_, ?_, ?_, ?_⟩⟩ <;> simp
          · cases hq
      · rename_i h34
        rw [if_neg h34] at hc hk
        split
        · rename_i hn
          rw [if_pos hn] at hc hk
          have hok := tnum_ok (by omega) hc
          unfold numR at hc hk hok ⊢
          by_cases hcc : (readN l j).code = 0
          · rw [if_pos hcc] at hok ⊢
            obtain ⟨b1, b2⟩ := readN_bounds (i := j) hl
            simp only at hok ⊢
            have h1 := itoa_low (readN l j).n 16 b1
            have h2 := itoa_low (readN l j).x 5 b2
            rw [tokText_num]
            refine ⟨?_, by simp; omega, ⟨?_, ?_, ?_, ?_⟩⟩
            · split
              · omega
              · simp only [List.length_append, List.length_cons]; omega
            all_goals (simp only; omega)
          · rw [if_neg hcc] at hc; exact absurd hc hcc
        · rename_i hn
          rw [if_neg hn] at hc hk
          have hw := word_ok hc
          unfold wordR at hc hk hw ⊢
          split
          · have ht : tokText ⟨4, wNull, 0, 0⟩ = wNull := by unfold tokText; rw [if_pos (.inr rfl)]
            rw [ht]
            refine ⟨by simp [wNull]; omega, by simp [wNull]; omega, ⟨?_, ?_, ?_, ?_⟩⟩ <;> simp
          · rename_i h1
            rw [if_neg h1] at hc hk
            split
            · have ht : tokText ⟨4, wTrue, 0, 0⟩ = wTrue := by unfold tokText; rw [if_pos (.inr rfl)]
              rw [ht]
              refine ⟨by simp [wTrue]; omega, by simp [wTrue]; omega, ⟨?_, ?_, ?_, ?_⟩⟩ <;> simp
            · rename_i h2
              rw [if_neg h2] at hc hk
              split
              · have ht : tokText ⟨4, wFalse, 0, 0⟩ = wFalse := by unfold tokText; rw [if_pos (.inr rfl)]
                rw [ht]
                refine ⟨by simp [wFalse]; omega, by simp [wFalse]; omega, ⟨?_, ?_, ?_, ?_⟩⟩ <;> simp
              · rename_i h3
                rw [if_neg h3] at hc; cases hc
  · rw [List.getElem?_eq_none g] at hk; exact absurd rfl hk
theorem joinT_cons_len (t : Tok) (r : List Tok) : (joinT (t :: r)).length ≤ (tokText t).length + 1 + (joinT r).length := by
  cases r with
  | nil => rw [joinT_one]; omega
  | cons u r => rw [joinT_cons]; simp only [List.length_append, List.length_cons]; omega
theorem toks_size : ∀ (n : Nat) (l : List UInt8) (i : Nat), l.length - i ≤ n → l.length ≤ 100000 → i ≤ l.length →
    (joinT (toks l i).1).length + 29 * i ≤ 29 * l.length ∧ wtS (toks l i).1 + 29 * i ≤ 29 * l.length ∧ (∀ t ∈ (toks l i).1, GoodTok t ∧ NumIn t)
  | n, l, i, hn, hl, hi => by
    by_cases hc : (readTok l i).code = 0
    rotate_left
    · rw [toks_bad hc]; exact ⟨by rw [joinT_nil]; simp; omega, by simp [wtS]; omega, by simp⟩
    by_cases hk : (readTok l i).t.k = 0
    · rw [toks_end hc hk]; exact ⟨by rw [joinT_nil]; simp; omega, by simp [wtS]; omega, by simp⟩
    rcases readTok_ok hi hc with e | ⟨hg, h1, h2⟩
    · rw [e] at hk; exact absurd rfl hk
    have hz := tok_size hl hi hc hk
    rw [toks_step hc hk ⟨h1, h2⟩]
    cases n with
    | zero => omega
    | succ n =>
      have ih := toks_size n l (readTok l i).next (by omega) hl h2
      split
      · have hj := joinT_cons_len (readTok l i).t (toks l (readTok l i).next).1
        refine ⟨by simp only; omega, ?_, ?_⟩
        · simp only; rw [wtS_cons]; omega
        · intro t ht
          rcases List.mem_cons.1 ht with rfl | h
          · exact ⟨hg, hz.2.2⟩
          · exact ih.2.2 t h
      · exact ⟨by rw [joinT_nil]; simp; omega, by simp [wtS]; omega, by simp⟩
end Go.Proofs.YtelehfefhlgbkaaGreatDoor
/- Tokens that are equal; laws.sameTokens. -/
namespace Go.Proofs.YtelehfefhlgbkaaGreatDoor
open Go.RowKit
set_option maxRecDepth 100000
theorem tok_equal (k n x : Int) (s : List UInt8) (w : World) : (Op.equalIn 10000 30 (.agg #[.int .i64 k, .string ⟨s.toArray⟩, .int .i64 n, .int .i64 x]) (.agg #[.int .i64 k, .string ⟨s.toArray⟩, .int .i64 n, .int .i64 x])).run Tryz.prog w = .ok true w := by
  rw [show (10000 : Nat) = 9998 + 1 + 1 from rfl, run_equalIn_agg w (9998 + 1) 30 _ _ (by kernel_rfl) (by kernel_rfl)]
  simp [Op.eqFields, Program.fieldsOf, Tryz.underlying30, Tryz.underlying3, Tryz.underlying9, go_sem]
theorem tok_neq (k n x : Int) (s : List UInt8) (w : World) : (binOp .neq 30 (.agg #[.int .i64 k, .string ⟨s.toArray⟩, .int .i64 n, .int .i64 x]) (.agg #[.int .i64 k, .string ⟨s.toArray⟩, .int .i64 n, .int .i64 x])).run Tryz.prog w = .ok (.bool false) w := by
  rw [run_neq_struct, tok_equal]; rfl
theorem sametoks_yes (l : List Tok) (w : World) (N : Nat) (a b : Option Addr) (cap cap2 : Nat) (h : TkAt w N a cap l) (h2 : TkAt w N b cap2 l) (hN : N ≤ w.heap.size) (hl : l.length ≤ 9223372036854775807) :
    Calls Tryz.prog 13 #[.slice a l.length cap, .slice b l.length cap2] w fun e w' => e = .returned (.bool true) ∧ Below w.heap.size w w' := by
  have H := Lib.hid h
  have H2 := Lib.hid h2
  clear h h2
  go_enter Tryz.func13, Tryz.ntmps13
  go_wp2
  go_loopw [5] (fun i wr => ∃ i' : Nat, i = .int .i64 i' ∧ i' ≤ l.length ∧ Below w.heap.size w wr) (fun i _ => l.length - (intOf i).toNat)
  case atStart => exact ⟨0, rfl, Nat.zero_le _, Below.refl _ _⟩
  case round =>
    obtain ⟨i', rfl, hi', hb⟩ := hrel
    have HB := Lib.hid hb
    by_cases hlt : i' < l.length
    · obtain ⟨g, o, rfl, hgN, c0, c1, c2, c3⟩ := H.out.cell i' hlt
      obtain ⟨g2, o2, rfl, hgN2, d0, d1, d2, d3⟩ := H2.out.cell i' hlt
      replace c0 := (hb.cell (p := ⟨g, o + i' * 4, none⟩) (by show g < w.heap.size; omega)).trans c0
      replace c1 := (hb.cell (p := ⟨g, o + i' * 4 + 1, none⟩) (by show g < w.heap.size; omega)).trans c1
      replace c2 := (hb.cell (p := ⟨g, o + i' * 4 + 2, none⟩) (by show g < w.heap.size; omega)).trans c2
      replace c3 := (hb.cell (p := ⟨g, o + i' * 4 + 3, none⟩) (by show g < w.heap.size; omega)).trans c3
      replace d0 := (hb.cell (p := ⟨g2, o2 + i' * 4, none⟩) (by show g2 < w.heap.size; omega)).trans d0
      replace d1 := (hb.cell (p := ⟨g2, o2 + i' * 4 + 1, none⟩) (by show g2 < w.heap.size; omega)).trans d1
      replace d2 := (hb.cell (p := ⟨g2, o2 + i' * 4 + 2, none⟩) (by show g2 < w.heap.size; omega)).trans d2
      replace d3 := (hb.cell (p := ⟨g2, o2 + i' * 4 + 3, none⟩) (by show g2 < w.heap.size; omega)).trans d3
      obtain ⟨⟨k, st, n, x⟩, hs⟩ : ∃ s : Tok, s = l[i'] := ⟨_, rfl⟩
      rw [← hs] at c0 c1 c2 c3 d0 d1 d2 d3
      simp only at c0 c1 c2 c3 d0 d1 d2 d3
      have hq := fun W => tok_neq k n x st W
      clear hs hb
      go_wp2_with fail
      go_region
      go_wp2
      go_roundw
      case rel => exact ⟨i' + 1, by go_num, by omega, HB.out.drew⟩
      case measure => simp [intOf]; omega
    · go_wp2
      go_ret
      exact ⟨rfl, HB.out⟩
end Go.Proofs.YtelehfefhlgbkaaGreatDoor
