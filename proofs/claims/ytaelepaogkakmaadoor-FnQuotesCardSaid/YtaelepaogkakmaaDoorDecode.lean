/- The library's decoder at given bytes; the program's GetRune for every place; what the row's list of variables gives. -/
import Derived.Test.YtaelepaogkakmaaDoorGetAny
import Derived.Test.YtaelepaogkakmaaDoorShelf
import Derived.Lib.LaidU8T
import Derived.MakeChecks
namespace Go.Proofs.YtaelepaogkakmaaDoor
open Go.RowKit
def Tabs (w : World) : Prop := Lib.Utf8Tabs 3 4 w
theorem Tabs.below {w w' : World} (h : Tabs w) (hb : Below w.heap.size w w') : Tabs w' := Utf8Tabs_below h hb
def U8ren : Go.Shelf.Ren := ⟨fun n => n, fun | 5 => 5 | 119 => 89 | 138 => 91 | 139 => 92 | n => n, fun | 3 => 3 | 4 => 4 | n => n⟩
theorem size_m (l : List UInt8) : (ByteArray.mk l.toArray).size = l.length := by simp [ByteArray.size]
theorem dec_drop0 (l : List UInt8) (i : Nat) : dec (l.drop i) 0 = dec l i := by
  have hb : ∀ j, byteN (l.drop i) j = byteN l (i + j) := byteN_drop l i
  rw [dec_eq, dec_eq, hb, hb, hb, hb]
  simp only [List.length_drop, Nat.zero_add, Nat.sub_zero, Nat.add_zero]
end Go.Proofs.YtaelepaogkakmaaDoor
