/- What FltText of the program and of the model returns: the text of the same decimal number. -/
import Derived.Test.YtjfjbocaplpdfaaDoorDecText
import Derived.Test.YtjfjbocaplpdfaaDoorFltDecS
import Derived.Test.YtjfjbocaplpdfaaDoorLessFlt
import Derived.Test.YtjfjbocaplpdfaaDoorTabs
namespace Go.Proofs.YtjfjbocaplpdfaaDoor
open Go.RowKit
def fltText (m e : Int) : List UInt8 := if fltOk m e = true then decText (decFN m e) (decFX m e) else []
theorem fltText_bad {m e : Int} (h : fltOk m e = false) : fltText m e = [] := by unfold fltText; rw [h]; rfl
theorem fltText_ok {m e : Int} (h : fltOk m e = true) : fltText m e = decText (decFN m e) (decFX m e) := by unfold fltText; rw [if_pos h]
set_option maxRecDepth 100000 in
set_option maxHeartbeats 1000000 in
theorem flttext_impl (m e : Int) (w : World) (h0 : -9223372036854775808 ≤ m) (h1 : m ≤ 9223372036854775807) (k0 : -9223372036854775808 ≤ e) (k1 : e ≤ 9223372036854775807) (htab : Lib.TabIs Tryd.prog w "internal/strconv.uint64pow10" .u64 Lib.pow10Tab) :
    Calls Tryd.prog 17 #[.agg #[.int .i64 m, .int .i64 e]] w fun r w' => r = .returned (.string ⟨(fltText m e).toArray⟩) ∧ Below w.heap.size w w' := by
  have cok := fun w1 => fltok_impl m e w1 h0 h1 k0 k1
  cases hv : fltOk m e
  · rw [hv] at cok
    rw [fltText_bad hv]
    clear h0 h1 k0 k1 htab
    go_enter Tryd.func17, Tryd.ntmps17
    go_wp2_with fail
    refine (cok _).mono ?_
    rintro r w1 ⟨rfl, hb⟩
    go_wp2
    go_ret
    exact ⟨rfl, (fbox _ _).trans (hb.mono (by simp))⟩
  · rw [hv] at cok
    rw [fltText_ok hv]
    have cd := fun w1 => fltdec_impl m e w1 h0 h1 k0 k1
    have ctx := fun w1 (hb : Below w.heap.size w w1) => dectext_impl (decFN m e) (decFX m e) w1 (dec_int m e).1 (dec_int m e).2 (var_below hb htab)
    unfold FDecPost at cd
    generalize decText (decFN m e) (decFX m e) = T at *
    generalize decFN m e = N at *
    generalize decFX m e = X at *
    clear h0 h1 k0 k1 htab hv
    go_enter Tryd.func17, Tryd.ntmps17
    go_wp2_with fail
    refine (cok _).mono ?_
    rintro r w1 ⟨rfl, hb⟩
    have d0 : w1.cell? ⟨w.heap.size, 0, none⟩ = some (.int .i64 m) := (hb.cell (p := ⟨w.heap.size, 0, none⟩) (by simp)).trans (by simp [go_sem])
    have d1 : w1.cell? ⟨w.heap.size, 1, none⟩ = some (.int .i64 e) := (hb.cell (p := ⟨w.heap.size, 1, none⟩) (by simp)).trans (by simp [go_sem])
    have hB := (fbox w _).trans (hb.mono (by simp))
    clear hb cok
    go_wp2_with fail
    refine (cd _).mono ?_
    rintro r w2 ⟨rfl, hb2⟩
    have hB2 := hB.trans (hb2.mono hB.size)
    clear hb2 cd
    go_wp2_with fail
    refine (ctx _ hB2).mono ?_
    rintro r w3 ⟨rfl, hb3⟩
    have hB3 := hB2.trans (hb3.mono hB2.size)
    go_wp2
    go_ret
    exact ⟨rfl, hB3⟩
set_option maxRecDepth 100000 in
set_option maxHeartbeats 1000000 in
theorem flttext_spec (m e : Int) (w : World) (h0 : -9223372036854775808 ≤ m) (h1 : m ≤ 9223372036854775807) (k0 : -9223372036854775808 ≤ e) (k1 : e ≤ 9223372036854775807) :
    Calls Tryd.prog 18 #[.agg #[.int .i64 m, .int .i64 e]] w fun r w' => r = .returned (.string ⟨(fltText m e).toArray⟩) ∧ Below w.heap.size w w' := by
  have cok := fun w1 => fltok_spec m e w1 h0 h1 k0 k1
  cases hv : fltOk m e
  · rw [hv] at cok
    rw [fltText_bad hv]
    clear h0 h1 k0 k1
    go_enter Tryd.func18, Tryd.ntmps18
    go_wp2_with fail
    refine (cok _).mono ?_
    rintro r w1 ⟨rfl, hb⟩
    go_wp2
    go_ret
    exact ⟨rfl, (fbox _ _).trans (hb.mono (by simp))⟩
  · rw [hv] at cok
    rw [fltText_ok hv]
    have cd := fun w1 => fltdec_spec m e w1 h0 h1 k0 k1
    have ctx := fun w1 => dectext_spec (decFN m e) (decFX m e) w1 (dec_int m e).1 (dec_int m e).2
    unfold FDecPost at cd
    generalize decText (decFN m e) (decFX m e) = T at *
    generalize decFN m e = N at *
    generalize decFX m e = X at *
    clear h0 h1 k0 k1 hv
    go_enter Tryd.func18, Tryd.ntmps18
    go_wp2_with fail
    refine (cok _).mono ?_
    rintro r w1 ⟨rfl, hb⟩
    have d0 : w1.cell? ⟨w.heap.size, 0, none⟩ = some (.int .i64 m) := (hb.cell (p := ⟨w.heap.size, 0, none⟩) (by simp)).trans (by simp [go_sem])
    have d1 : w1.cell? ⟨w.heap.size, 1, none⟩ = some (.int .i64 e) := (hb.cell (p := ⟨w.heap.size, 1, none⟩) (by simp)).trans (by simp [go_sem])
    have hB := (fbox w _).trans (hb.mono (by simp))
    clear hb cok
    go_wp2_with fail
    refine (cd _).mono ?_
    rintro r w2 ⟨rfl, hb2⟩
    have hB2 := hB.trans (hb2.mono hB.size)
    clear hb2 cd
    go_wp2_with fail
    refine (ctx _).mono ?_
    rintro r w3 ⟨rfl, hb3⟩
    have hB3 := hB2.trans (hb3.mono hB2.size)
    go_wp2
    go_ret
    exact ⟨rfl, hB3⟩
end Go.Proofs.YtjfjbocaplpdfaaDoor
