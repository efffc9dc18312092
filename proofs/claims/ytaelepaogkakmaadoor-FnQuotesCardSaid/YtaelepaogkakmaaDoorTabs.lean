/- What a row's list of package-level variables gives: the library's table holds its numbers, the two errors of strconv are set. -/
import Derived.Test.YtaelepaogkakmaaDoorRows
import Derived.Lib.LaidTab
import Derived.Lib.ItoaNum
import Derived.Stop.LaidErr
import Derived.MakeChecks
import Derived.Shelf.Strconv.ErrVarAll
namespace Go.Proofs.YtaelepaogkakmaaDoor
theorem gPow : Tryd.prog.globalNamed "internal/strconv.uint64pow10" = some 5 := by kernel_rfl
theorem gPowType : (Tryd.prog.globals[5]?).map (·.type) = some 104 := by kernel_rfl
theorem cellsPow : Tryd.prog.cellsOf 104 = 20 := by kernel_rfl
theorem cellsU64 : Tryd.prog.cellsOf 60 = 1 := by kernel_rfl
theorem tabs_pow10 {a b : String × DataW Unit} {r : List (String × DataW Unit)} {W : World} (h : laidMet Tryd.prog (a :: b :: ("internal/strconv.uint64pow10", Rows.laid_internal_strconv_uint64pow10) :: r) W) : Lib.TabIs Tryd.prog W "internal/strconv.uint64pow10" .u64 Lib.pow10Tab :=
  Lib.tabIs_of_head (rest := r) gPow gPowType Tryd.underlying104 Tryd.underlying60 cellsU64 cellsPow h.tail.tail
theorem gES : Tryd.prog.globalNamed "strconv.ErrSyntax" = some 0 := by kernel_rfl
theorem gER : Tryd.prog.globalNamed "strconv.ErrRange" = some 1 := by kernel_rfl
theorem gESType : (Tryd.prog.globals[0]?).map (·.type) = some 62 := by kernel_rfl
theorem gERType : (Tryd.prog.globals[1]?).map (·.type) = some 62 := by kernel_rfl
theorem cellsErr : Tryd.prog.cellsOf 96 = 1 := by kernel_rfl
theorem cellsStr : Tryd.prog.cellsOf 9 = 1 := by kernel_rfl
theorem starStr : "*" ++ "errors.errorString" = "*errors.errorString" := by decide
theorem rowErr (u : TypeId) (h : Tryd.prog.typeName? 3 u = some "*errors.errorString") : u = 94 :=
  typeName_ptr_named (nm := "errors.errorString") (by rw [starStr]; kernel_rfl) (by kernel_rfl) (by decide) u (by rw [starStr]; exact h)
theorem errs_of {a b c : String × DataW Unit} {r : List (String × DataW Unit)} {W : World} (h : laidMet Tryd.prog (a :: b :: c :: ("strconv.ErrRange", Rows.laid_strconv_ErrRange) :: ("strconv.ErrSyntax", Rows.laid_strconv_ErrSyntax) :: r) W) :
    (∃ ps, W.var? Tryd.prog "strconv.ErrSyntax" = some #[.iface 94 ps]) ∧ (∃ pr, W.var? Tryd.prog "strconv.ErrRange" = some #[.iface 94 pr]) := by
  have h1 := h.tail.tail.tail
  obtain ⟨a0, _, hv0, _⟩ := laid_sentinel h1 gER gERType Tryd.underlying62 rowErr Tryd.underlying94 Tryd.underlying96 rfl rfl Tryd.underlying9 cellsErr cellsStr
  obtain ⟨a1, _, hv1, _⟩ := laid_sentinel h1.tail gES gESType Tryd.underlying62 rowErr Tryd.underlying94 Tryd.underlying96 rfl rfl Tryd.underlying9 cellsErr cellsStr
  exact ⟨⟨_, hv1⟩, ⟨_, hv0⟩⟩
end Go.Proofs.YtaelepaogkakmaaDoor
