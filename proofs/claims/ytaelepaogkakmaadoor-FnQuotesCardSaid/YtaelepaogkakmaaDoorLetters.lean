/- The program's map from the letters behind a backslash to their characters. -/
import Derived.Test.YtaelepaogkakmaaDoorEscape
namespace Go.Proofs.YtaelepaogkakmaaDoor
open Go.RowKit Go.Maps
set_option maxRecDepth 100000
def invL (k : Int) : Option Int := if k = 34 then some 34 else if k = 92 then some 92 else if k = 98 then some 8 else if k = 116 then some 9 else if k = 110 then some 10 else if k = 102 then some 12 else if k = 114 then some 13 else none
def f2 (k : Int) : Option Int := if k = 47 then some 47 else invL k
theorem f2_unB (c : UInt8) : f2 (c.toNat : Int) = unB c := by
  have : ∀ n : Fin 256, f2 ((UInt8.ofNat n.val).toNat : Int) = unB (UInt8.ofNat n.val) := by decide +kernel
  have h := this ⟨c.toNat, UInt8.toNat_lt c⟩
  simpa using h
theorem f1_inv {n k : Int} (h : f1 n = some k) : invL k = some n ∧ k ≠ 47 ∧ 0 ≤ k ∧ k < 256 ∧ 0 ≤ n ∧ n < 128 := by
  unfold f1 at h
  rcases escB_cases n with ⟨rfl, e⟩ | ⟨rfl, e⟩ | ⟨rfl, e⟩ | ⟨rfl, e⟩ | ⟨rfl, e⟩ | ⟨rfl, e⟩ | ⟨rfl, e⟩ | ⟨_, _, _, _, _, _, _, e⟩
  all_goals (rw [e] at h; cases h)
  all_goals decide
theorem inv_f1 {n k : Int} (h : invL k = some n) : f1 n = some k := by
  unfold invL at h
  repeat' (split at h; · cases h; subst k; rfl)
  cases h
/-- what the map holds while the characters n with left n are still to come -/
def midF (left : Int → Bool) (k : Int) : Option Int := if k = 47 then some 47 else match invL k with
  | none => none
  | some n => if left n then none else some n
theorem mid_start : midF (fun n => (f1 n).isSome) = upd (fun _ => none) 47 47 := by
  funext k
  unfold midF upd
  by_cases h : k = 47
  · rw [if_pos h, if_pos h]
  · rw [if_neg h, if_neg h]
    cases hi : invL k with
    | none => rfl
    | some n => simp [inv_f1 hi]
theorem mid_end {left : Int → Bool} (h : ∀ n, left n = false) : midF left = f2 := by
  funext k
  unfold midF f2
  by_cases hk : k = 47
  · rw [if_pos hk, if_pos hk]
  · rw [if_neg hk, if_neg hk]
    cases hi : invL k with
    | none => rfl
    | some n => simp [h n]
theorem mid_step {left left' : Int → Bool} {x c : Int} (hx : f1 x = some c) (hl : ∀ n, left' n = (left n && decide (n ≠ x))) : upd (midF left) c x = midF left' := by
  obtain ⟨hi, h47, _⟩ := f1_inv hx
  funext k
  unfold upd
  by_cases hk : k = c
  · rw [if_pos hk]
    subst hk
    unfold midF
    rw [if_neg h47, hi]
    simp only
    rw [hl x]
    simp
  · rw [if_neg hk]
    unfold midF
    by_cases h47' : k = 47
    · rw [if_pos h47', if_pos h47']
    · rw [if_neg h47', if_neg h47']
      cases hik : invL k with
      | none => rfl
      | some n =>
        have hne : n ≠ x := by
          intro e; subst e
          have := inv_f1 hik
          rw [hx] at this
          injection this with this
          exact hk this.symm
        simp only
        rw [hl n, decide_eq_true hne, Bool.and_true]
/-- block b is the program's map of the letters behind a backslash -/
def MapU (w : World) (b : Nat) : Prop := MapI Tryd.prog 5 3 .u8 .i64 w b 8 f2
theorem MapU.kept {w w' : World} {b : Nat} {row : Option Nat} (h : MapU w b) (hg : w.grownBy w' row) (hne : some b ≠ row) : MapU w' b := MapI.kept h hg hne
theorem MapU.below {w w' : World} {b N : Nat} (h : MapU w b) (hb : Below N w w') (hN : b < N) : MapU w' b := MapI.below h hb hN
theorem MapU.lt {w : World} {b : Nat} (h : MapU w b) : b < w.heap.size := MapI.lt h
theorem zero64 (w : World) : (zeroValue 3).run Tryd.prog w = .ok (.int .i64 0) w := by kernel_rfl
theorem mapI_mono {P : Program} {K E : TypeId} {qk qe : IntKind} {w : World} {b n m : Nat} {f : Int → Option Int} (h : MapI P K E qk qe w b n f) (hm : n ≤ m) : MapI P K E qk qe w b m f := by
  obtain ⟨D, ho, hr⟩ := h
  exact ⟨D, ho.mono hm, hr⟩
theorem mapI_has {D : DataW Unit} {x c : Int} (hr : ReadsF .i64 .u8 D f1) (hat : ∀ zd, D.atKey (.int .i64 x) zd = .lit (.int .u8 c)) : f1 x = some c := by
  have h := (hr x).2 .nil
  rw [hat] at h
  cases hf : f1 x with
  | none => rw [hf] at h; cases h
  | some d => rw [hf] at h; simp only at h; injection h with h; injection h with _ h; rw [h]
theorem escaped_impl (w : World) : Calls Tryd.prog 38 #[] w fun e w' => ∃ b, e = .returned (.map (some b)) ∧ w.heap.size ≤ b ∧ MapU w' b ∧ Below w.heap.size w w' := by
  have hmm := @run_makeMap Tryd.prog
  have hown : MapI Tryd.prog 5 3 .u8 .i64 (w.alloc (.map #[] 0)) w.heap.size 0 (fun _ => none) := MapI.made w
  have hb := below_alloc w (.map #[] 0)
  have CL := Lib.hid (fun w => letters_impl w)
  go_enter Tryd.func38, Tryd.ntmps38
  go_wp2_with (first | (refine wpList_insert_I _ rfl _ _ _ _ rfl 5 3 .u8 .i64 Tryd.underlying5 Tryd.underlying3 Tryd.underlying49 _ _ _ rfl hown (by unfold maxLen; omega) _ _ rfl rfl (by decide) (by decide) ?_; intro w1 h1 g1; replace hb := hb.trans (grown_belowN g1 hb.size (fun k hk => by cases hk; exact Nat.le_refl _)); replace hown := h1; clear h1 g1) | fail)
  refine (CL.out _).mono ?_
  rintro e w2 ⟨b1, rfl, hb1, hM, hb2⟩
  have hown2 := MapI.below hown hb2 hown.lt
  have hB := hb.trans (hb2.mono hb.size)
  have hlt := hown.lt
  obtain ⟨D0, ho0, hr0⟩ := hM
  have hsz0 := ho0.size_le
  have HB := Lib.hid hB
  have HO := Lib.hid hown2
  have hne : w.heap.size < b1 := by omega
  clear hown hown2 hb hb2 hB hmm
  go_wp2_with (at_range; refine wpList_range_own _ rfl _ 42 rfl 3 5 (int_keyed Tryd.underlying3) Tryd.underlying42 _ b1 7 D0 rfl ho0 ?_; intro w3 hrg0 hg0 hs0)
  go_frame
  have hst : MapI Tryd.prog 5 3 .u8 .i64 w3 w.heap.size (8 - Maps.size D0) (midF (fun n => Maps.has D0 (.int .i64 n))) := by
    have e1 : (fun n : Int => Maps.has D0 (.int .i64 n)) = fun n => (f1 n).isSome := funext fun n => (hr0 n).1
    rw [e1, mid_start]
    exact mapI_mono (MapI.kept HO.out hg0 (by simp)) (by omega)
  have HST := Lib.hid hst
  have HB3 := Lib.hid (show Below w.heap.size w w3 from HB.out.grown hg0 HB.out.size (fun j hj => by cases hj))
  have hw2 : w.heap.size < w2.heap.size := HO.out.lt
  clear hst HO HB hg0
  go_loopw [2] (fun _ wr => ∃ (left : Lit → Bool) (cnt : Nat), wr.ranges Tryd.prog 3 (plainElem Tryd.prog 5) b1 w2.heap.size 7 D0 left cnt ∧ cnt ≤ 7 ∧ MapI Tryd.prog 5 3 .u8 .i64 wr w.heap.size (8 - cnt) (midF (fun n => left (.int .i64 n))) ∧ Below w.heap.size w wr)
    (fun _ wr => wr.rangeLeft b1 w2.heap.size)
  case atStart => exact ⟨_, _, hrg0, hsz0, HST.out, HB3.out⟩
  case round =>
    obtain ⟨left, cnt, hrg, hcs, hout, hnx⟩ := hrel
    go_wp2_with (first
      | (at_next; refine wpList_next_ranges_ii _ rfl _ rfl 3 5 .i64 .u8 (int_keyed Tryd.underlying3) Tryd.underlying3 Tryd.underlying5 b1 w2.heap.size 7 _ _ _ rfl hrg ?_ ?_)
      | fail)
    · intro hc0 hl0
      rw [mid_end (fun n => hl0 _)] at hout
      have HO := Lib.hid (mapI_mono hout (show 8 - cnt ≤ 8 by omega))
      clear hout hrg
      go_wp2
      go_ret
      exact ⟨_, rfl, Nat.le_refl _, HO.out, hnx⟩
    · intro x c w4 cnt1 hwx hwc hlx hat hrg1 hlt1 hg1 hs1 hen
      have hx := mapI_has hr0 hat
      have hfx := f1_inv hx
      have hout1 := MapI.kept hout hg1 (fun e => by have := Option.some.inj e; omega)
      have hw4 : w.heap.size < w4.heap.size := hout1.lt
      go_wp2_with (first
        | (at_mapUpdate; refine wpList_update_I _ rfl _ _ _ _ rfl 5 3 .u8 .i64 Tryd.underlying5 Tryd.underlying3 Tryd.underlying49 w.heap.size _ _ rfl hout1 (by unfold maxLen; omega) c x rfl rfl hwc hwx ?_; intro w5 hout2 hg2; go_frame)
        | fail)
      have hrg2 := hrg1.kept hg2 (fun e => by have := Option.some.inj e; omega) (fun e => by have := Option.some.inj e; omega)
      rw [mid_step (left' := fun n => (left (.int .i64 n) && !(Lit.int .i64 n).sameKey (.int .i64 x))) hx (fun n => by
        by_cases hnx : n = x
        · subst hnx; simp [Lit.sameKey]
        · have : (Lit.int .i64 n).sameKey (.int .i64 x) = false := Maps.sameKey_ne (by intro e; injection e with _ e; exact hnx e)
          rw [this]; simp [hnx])] at hout2
      go_roundw
      case rel =>
        exact ⟨_, cnt1, hrg2, by omega, mapI_mono hout2 (by omega), (hnx.grown hg1 hnx.size (fun j hj => by cases hj; omega)).grown hg2 (by omega) (fun j hj => by cases hj; exact Nat.le_refl _)⟩
      case measure => rw [hrg2.left_eq, hrg.left_eq]; exact hlt1
end Go.Proofs.YtaelepaogkakmaaDoor
