/- The bits of a number in binary: FltBits and BitsFlt of both sides. -/
import Derived.Test.YtblaaiggmhadfaaFltNew
import Derived.Test.YtblaaiggmhadfaaBitsMath
namespace Go.Proofs.Ytblaaiggmhadfaa
open Go.RowKit
set_option maxRecDepth 100000
theorem fltOk_neg (m e : Int) : fltOk (-m) e = fltOk m e := by
  have h : ∀ m, fltOk m e = true → fltOk (-m) e = true := fun m h => by
    by_cases hm : m = 0
    · subst hm; simpa using h
    · obtain ⟨h1, h2, h3, _, h5⟩ := fltOk_range h
      exact fltOk_of (by rw [Int.neg_tmod]; have := (h5 hm).1; omega) h1 (by rw [Int.natAbs_neg]; exact h3) (by rw [Int.natAbs_neg]; exact (h5 hm).2)
  rw [Bool.eq_iff_iff]
  exact ⟨fun k => by have := h _ k; rwa [Int.neg_neg] at this, h m⟩
theorem fltBits_pos {m e : Int} (h : fltOk m e = true) (hm : ¬ m < 0) : fltBits m e = 65536 * (e + 16) + m := by unfold fltBits; rw [if_pos h, if_neg hm]
theorem fltBits_neg {m e : Int} (h : fltOk m e = true) (hm : m < 0) : fltBits m e = 16777216 + 65536 * (e + 16) - m := by unfold fltBits; rw [if_pos h, if_pos hm]
def inW (n : Int) : Prop := -9223372036854775808 ≤ n ∧ n ≤ 9223372036854775807
set_option maxHeartbeats 1000000 in
theorem fltbits_pos (m e : Int) (w : World) (hm : ¬ m < 0) (hw : inW m) (he : inW e) : Calls Try.prog 14 #[.agg #[.int .i64 m, .int .i64 e]] w fun r w' => r = .returned (.int .i64 (fltBits m e)) ∧ Below w.heap.size w w' := by
  have ck := fun w1 => fltok_impl m e w1 hw.1 hw.2 he.1 he.2
  have hb0 := Lib.hid (fbox w (.cells #[.int .i64 m, .int .i64 e] 25))
  cases hok : fltOk m e
  · rw [fltBits_no hok]
    rw [hok] at ck
    clear hw he hok
    go_enter Try.func14, Try.ntmps14
    go_wp2_with fail
    refine (ck _).mono ?_
    rintro r w1 ⟨rfl, hb1⟩
    go_wp2
    go_ret
    exact ⟨rfl, hb0.out.trans (hb1.mono (by simp))⟩
  · rw [fltBits_pos hok hm]
    rw [hok] at ck
    obtain ⟨r0, r1, r2, _⟩ := fltOk_range hok
    have m1 : m ≤ 65535 := by omega
    have m0 : 0 ≤ m := by omega
    clear hw he hok r2
    go_enter Try.func14, Try.ntmps14
    go_wp2_with fail
    refine (ck _).mono ?_
    rintro r w1 ⟨rfl, hb1⟩
    have BB := Lib.hid (hb0.out.trans (hb1.mono (by simp)))
    obtain ⟨hcl, hfz⟩ := fcell hb1
    have d0 : w1.cell? ⟨w.heap.size, 0, none⟩ = some (.int .i64 m) := (hcl _ _ (by simp)).trans (by simp [go_sem])
    have d1 : w1.cell? ⟨w.heap.size, 1, none⟩ = some (.int .i64 e) := (hcl _ _ (by simp)).trans (by simp [go_sem])
    clear hcl hfz hb1
    go_wp2
    go_ret
    exact ⟨ret_int (by omega), BB.out⟩
set_option maxHeartbeats 1000000 in
theorem fltbits_impl (m e : Int) (w : World) (hw : inW m) (he : inW e) : Calls Try.prog 14 #[.agg #[.int .i64 m, .int .i64 e]] w fun r w' => r = .returned (.int .i64 (fltBits m e)) ∧ Below w.heap.size w w' := by
  by_cases hm : m < 0
  · have ck := fun w1 => fltok_impl m e w1 hw.1 hw.2 he.1 he.2
    have hb0 := Lib.hid (fbox w (.cells #[.int .i64 m, .int .i64 e] 25))
    cases hok : fltOk m e
    · rw [fltBits_no hok]
      rw [hok] at ck
      clear hw he hok
      go_enter Try.func14, Try.ntmps14
      go_wp2_with fail
      refine (ck _).mono ?_
      rintro r w1 ⟨rfl, hb1⟩
      go_wp2
      go_ret
      exact ⟨rfl, hb0.out.trans (hb1.mono (by simp))⟩
    · have cr := fun w1 => fltbits_pos (-m) e w1 (by omega) (by obtain ⟨_, _, r2, _⟩ := fltOk_range hok; unfold inW; omega) he
      have e1 : fltBits m e = 16777216 + fltBits (-m) e := by
        rw [fltBits_neg hok hm, fltBits_pos (by rw [fltOk_neg]; exact hok) (by omega)]; omega
      have hbd : 0 ≤ fltBits (-m) e ∧ fltBits (-m) e < 33554432 := by
        have := bits_back (m := -m) (e := e) (by rw [fltOk_neg]; exact hok)
        exact ⟨this.1, this.2.1⟩
      rw [e1]
      generalize fltBits (-m) e = N at *
      obtain ⟨n0, n1⟩ := hbd
      rw [hok] at ck
      obtain ⟨r0, r1, r2, _⟩ := fltOk_range hok
      have m1 : -65535 ≤ m := by omega
      clear hw he hok r2 e1
      go_enter Try.func14, Try.ntmps14
      go_wp2_with fail
      refine (ck _).mono ?_
      rintro r w1 ⟨rfl, hb1⟩
      have BB := Lib.hid (hb0.out.trans (hb1.mono (by simp)))
      obtain ⟨hcl, hfz⟩ := fcell hb1
      have d0 : w1.cell? ⟨w.heap.size, 0, none⟩ = some (.int .i64 m) := (hcl _ _ (by simp)).trans (by simp [go_sem])
      have d1 : w1.cell? ⟨w.heap.size, 1, none⟩ = some (.int .i64 e) := (hcl _ _ (by simp)).trans (by simp [go_sem])
      clear hcl hfz hb1
      go_wp2_with fail
      refine (cr _).mono ?_
      rintro r w3 ⟨rfl, hb3⟩
      go_wp2
      go_ret
      exact ⟨rfl, BB.out.trans (hb3.mono BB.out.size)⟩
  · exact fltbits_pos m e w hm hw he
set_option maxHeartbeats 1000000 in
theorem fltbits_spec (m e : Int) (w : World) (hw : inW m) (he : inW e) : Calls Try.prog 15 #[.agg #[.int .i64 m, .int .i64 e]] w fun r w' => r = .returned (.int .i64 (fltBits m e)) ∧ Below w.heap.size w w' := by
  have ck := fun w1 => fltok_spec m e w1 hw.1 hw.2 he.1 he.2
  have hb0 := Lib.hid (fbox w (.cells #[.int .i64 m, .int .i64 e] 25))
  cases hok : fltOk m e
  · rw [fltBits_no hok]
    rw [hok] at ck
    clear hw he hok
    go_enter Try.func15, Try.ntmps15
    go_wp2_with fail
    refine (ck _).mono ?_
    rintro r w1 ⟨rfl, hb1⟩
    go_wp2
    go_ret
    exact ⟨rfl, hb0.out.trans (hb1.mono (by simp))⟩
  · obtain ⟨r0, r1, r2, _⟩ := fltOk_range hok
    have m0 : -65535 ≤ m := by omega
    have m1 : m ≤ 65535 := by omega
    by_cases hm : m < 0
    · rw [fltBits_neg hok hm]
      rw [hok] at ck
      clear hw he hok r2
      go_enter Try.func15, Try.ntmps15
      go_wp2_with fail
      refine (ck _).mono ?_
      rintro r w1 ⟨rfl, hb1⟩
      have BB := Lib.hid (hb0.out.trans (hb1.mono (by simp)))
      obtain ⟨hcl, hfz⟩ := fcell hb1
      have d0 : w1.cell? ⟨w.heap.size, 0, none⟩ = some (.int .i64 m) := (hcl _ _ (by simp)).trans (by simp [go_sem])
      have d1 : w1.cell? ⟨w.heap.size, 1, none⟩ = some (.int .i64 e) := (hcl _ _ (by simp)).trans (by simp [go_sem])
      clear hcl hfz hb1
      go_wp2
      go_ret
      exact ⟨ret_int (by omega), BB.out⟩
    · rw [fltBits_pos hok hm]
      rw [hok] at ck
      clear hw he hok r2
      go_enter Try.func15, Try.ntmps15
      go_wp2_with fail
      refine (ck _).mono ?_
      rintro r w1 ⟨rfl, hb1⟩
      have BB := Lib.hid (hb0.out.trans (hb1.mono (by simp)))
      obtain ⟨hcl, hfz⟩ := fcell hb1
      have d0 : w1.cell? ⟨w.heap.size, 0, none⟩ = some (.int .i64 m) := (hcl _ _ (by simp)).trans (by simp [go_sem])
      have d1 : w1.cell? ⟨w.heap.size, 1, none⟩ = some (.int .i64 e) := (hcl _ _ (by simp)).trans (by simp [go_sem])
      clear hcl hfz hb1
      go_wp2
      go_ret
      exact ⟨ret_int (by omega), BB.out⟩
/-- what BitsFlt hands on -/
def IsBits (n M E : Int) (ok : Bool) : Prop := if 0 ≤ n ∧ n ≤ 33554431 then IsFlt (bitsM n) (bitsE n) M E ok else M = 0 ∧ E = 0 ∧ ok = false
theorem isBits_uniq {n M E M' E' : Int} {a b : Bool} (h : IsBits n M E a) (k : IsBits n M' E' b) : M' = M ∧ E' = E ∧ b = a := by
  unfold IsBits at h k
  split at h
  · rename_i g
    rw [if_pos g] at k
    exact isFlt_uniq h k
  · rename_i g
    rw [if_neg g] at k
    obtain ⟨rfl, rfl, rfl⟩ := h
    exact k
def BitsPost (n : Int) (w : World) (r : Ending) (w' : World) : Prop := ∃ (M E : Int) (ok : Bool), r = .returned (.tuple #[.agg #[.int .i64 M, .int .i64 E], .bool ok]) ∧ IsBits n M E ok ∧ Below w.heap.size w w'
end Go.Proofs.Ytblaaiggmhadfaa
