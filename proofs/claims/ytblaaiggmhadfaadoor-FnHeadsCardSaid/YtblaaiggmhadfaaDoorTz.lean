/- math/bits.TrailingZeros at the widths: one, two, four and eight; the library's table. -/
import Derived.Test.YtblaaiggmhadfaaDoorRows
import Derived.Lib.LaidTab
import Derived.Lib.TrailingZeros
import Derived.MakeChecks
import Derived.Stop.LaidErr
import Derived.WalkKit
import Derived.IntWalk
import Derived.Laws.Bits64b
namespace Go.Proofs.YtblaaiggmhadfaaDoor
open Go.RowKit
set_option maxRecDepth 100000
/-- what is wanted of the table -/
structure Tz (w : World) : Prop where
  c0 : w.cell? ⟨1, 0, none⟩ = some (.int .u8 0)
  c1 : w.cell? ⟨1, 1, none⟩ = some (.int .u8 1)
  c3 : w.cell? ⟨1, 3, none⟩ = some (.int .u8 2)
  c7 : w.cell? ⟨1, 7, none⟩ = some (.int .u8 3)
theorem tz_lt {w : World} {p : Addr} {v : Value} (hc : w.cell? p = some v) : p.block < w.heap.size := by
  rcases Nat.lt_or_ge p.block w.heap.size with h' | h'
  · exact h'
  · simp [World.cell?, Array.getElem?_eq_none h'] at hc
theorem Tz.below {w w' : World} (h : Tz w) (hb : Below w.heap.size w w') : Tz w' :=
  ⟨(hb.cell (p := ⟨_, 0, none⟩) (tz_lt h.c0)).trans h.c0, (hb.cell (p := ⟨_, 1, none⟩) (tz_lt h.c1)).trans h.c1, (hb.cell (p := ⟨_, 3, none⟩) (tz_lt h.c3)).trans h.c3, (hb.cell (p := ⟨_, 7, none⟩) (tz_lt h.c7)).trans h.c7⟩
theorem gTz : Tryd.prog.globalNamed "math/bits.deBruijn64tab" = some 1 := by kernel_rfl
theorem gTzType : (Tryd.prog.globals[1]?).map (·.type) = some 77 := by kernel_rfl
theorem cellsTz : Tryd.prog.cellsOf 77 = 64 := by kernel_rfl
theorem cellsU8 : Tryd.prog.cellsOf 5 = 1 := by kernel_rfl
def tzTab : List Int := Lib.deBruijn64tab.map Int.ofNat
theorem tabs_tz {W : World} (h : laidMet Tryd.prog [("math/bits.deBruijn32tab", Rows.laid_math_bits_deBruijn32tab), ("math/bits.deBruijn64tab", Rows.laid_math_bits_deBruijn64tab)] W) : Tz W := by
  have e2 : (Rows.laid_math_bits_deBruijn64tab : DataW Unit) = Lib.tabData .u8 tzTab := by kernel_rfl
  rw [e2] at h
  have ht := Lib.tabIs_of_head (rest := []) gTz gTzType Tryd.underlying77 Tryd.underlying5 cellsU8 cellsTz h.tail
  exact ⟨ht.cell gTz 0 (by decide), ht.cell gTz 1 (by decide), ht.cell gTz 3 (by decide), ht.cell gTz 7 (by decide)⟩
theorem tz64 {w : World} (h : Tz w) {x k : Int} (hx : (x = 1 ∧ k = 0) ∨ (x = 2 ∧ k = 1) ∨ (x = 4 ∧ k = 2) ∨ (x = 8 ∧ k = 3)) : Calls Tryd.prog 59 #[.int .u64 x] w fun e w' => e = .returned (.int .i64 k) ∧ w = w' := by
  obtain ⟨c0, c1, c3, c7⟩ := h
  have a1 : bits .and .u64 1 (IntKind.u64.wrap (-1)) = 1 := by decide
  have a2 : bits .and .u64 2 (IntKind.u64.wrap (-2)) = 2 := by decide
  have a4 : bits .and .u64 4 (IntKind.u64.wrap (-4)) = 4 := by decide
  have a8 : bits .and .u64 8 (IntKind.u64.wrap (-8)) = 8 := by decide
  rcases hx with ⟨rfl, rfl⟩ | ⟨rfl, rfl⟩ | ⟨rfl, rfl⟩ | ⟨rfl, rfl⟩
  all_goals
    go_enter Tryd.func59, Tryd.ntmps59
    go_wp2
    go_ret
    exact ⟨rfl, rfl⟩
theorem tz_any {w : World} (h : Tz w) {x k : Int} (hx : (x = 1 ∧ k = 0) ∨ (x = 2 ∧ k = 1) ∨ (x = 4 ∧ k = 2) ∨ (x = 8 ∧ k = 3)) : Calls Tryd.prog 55 #[.int .u64 x] w fun e w' => e = .returned (.int .i64 k) ∧ w = w' := by
  have c := tz64 h hx
  clear h hx
  go_enter Tryd.func55, Tryd.ntmps55
  go_wp2_with fail
  refine c.mono ?_
  rintro e w' ⟨rfl, rfl⟩
  go_wp2
  go_ret
  exact ⟨rfl, rfl⟩
end Go.Proofs.YtblaaiggmhadfaaDoor
