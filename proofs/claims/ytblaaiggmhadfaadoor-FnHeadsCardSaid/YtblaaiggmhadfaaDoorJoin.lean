/- Two pieces behind each other in new memory: what the program's joined hands on. -/
import Derived.Test.YtblaaiggmhadfaaDoorMem
import Derived.Test.YtblaaiggmhadfaaDoorFresh
import Derived.WalkKit
import Derived.Lib.Hide
import Derived.Outline
import Derived.ProofKit
import Derived.Laws.AppendOwnNone
namespace Go.Proofs.YtblaaiggmhadfaaDoor
open Go.RowKit
theorem joined_any (w : World) (v u : Value) (l m : List UInt8) (hv : Sl w v (bv l)) (hu : Slc w u (bv m)) (hl : l.length ≤ 1099511627776) (hm : m.length ≤ 1099511627776) :
    Calls Tryd.prog 27 #[v, u] w (Fresh w (l ++ m)) := by
  obtain ⟨i0, hi, hz0, hz1, hz2⟩ := info_parts byteInfo'
  obtain ⟨b, o, cap, rfl, hc⟩ := hv
  rw [bv_length] at *
  have hsum : ((l.length : Int) + m.length) = ((l.length + m.length : Nat) : Int) := by omega
  have HS := Lib.hid hsum
  have hlz : (l.length : Int) ≤ 1099511627776 := by omega
  have hmz : (m.length : Int) ≤ 1099511627776 := by omega
  clear hsum
  have cl : ∀ w1, Below w.heap.size w w1 → ∀ j x, (bv l)[j]? = some x → w1.cell? ((⟨b, o, none⟩ : Addr).add j) = some x := by
    intro w1 hb j x hx
    rw [addr_add, hb.cell (p := ⟨b, o + j, none⟩) (cell_lt (hc j x hx))]
    exact hc j x hx
  have CL := Lib.hid cl
  clear cl hc
  rcases hu with ⟨rfl, hu⟩ | ⟨b2, o2, cap2, rfl, hc2⟩
  · obtain rfl : m = [] := by cases m with | nil => rfl | cons x m => simp [bv] at hu
    go_enter Tryd.func27, Tryd.ntmps27
    go_wp2_with (at_make; refine wpList_make_own _ rfl _ _ _ rfl w.heap.size 5 i0 (.int .u8 0) 1 Tryd.underlying22 hi hz0 hz1 _ _ _ l.length rfl rfl (by simp) ?b2 ?b3 ?b4 ?_)
    case b2 => rw [hz2]; omega
    case b3 => unfold maxLen; omega
    case b4 => exact Nat.le_refl _
    intro w1 hown1 hgrow1
    have B1 := Lib.hid (grown_below0 hgrow1 (by simp))
    clear hgrow1
    go_wp2_with (at_builtin; refine wpList_append_own _ rfl _ _ 22 rfl w.heap.size 5 i0 (.int .u8 0) 1 1 Tryd.underlying22 hi hz0 hz1 hz2 rfl (by decide) _ _ _ rfl hown1 ⟨b, o, none⟩ l.length cap (bv l) rfl (by simp) (CL.out _ B1.out) (bv_cell l) ?c3 ?c4 ?c5 ?_)
    case c3 => unfold maxLen; omega
    case c4 => omega
    case c5 => exact B1.out.size
    intro v2 w2 hown2 hgrow2 hnil2
    have hown2 : w2.ownsRow w.heap.size 5 1 v2 l.length (bv l) := by simpa using hown2
    have B2 := Lib.hid (B1.out.trans (grown_belowN hgrow2 B1.out.size (by simp [Value.ownBlock])))
    have HN := Lib.hid hnil2
    clear hgrow2 hnil2 hown1
    go_wp2_with (at_builtin; refine wpList_append_own_none rfl _ _ 22 rfl w.heap.size 5 i0 1 Tryd.underlying22 hi _ _ _ rfl hown2 rfl ?_)
    go_wp2
    go_ret
    refine ⟨_, rfl, HN.out, ?_, B2.out⟩
    rw [List.append_nil]
    exact hown2
  · rw [bv_length] at *
    have HC2 := Lib.hid hc2
    clear hc2
    have C2 := Lib.hid (fun w1 (hb : Below w.heap.size w w1) (j : Nat) (x : Value) (hx : (bv m)[j]? = some x) => (by rw [addr_add, hb.cell (p := ⟨b2, o2 + j, none⟩) (cell_lt (HC2.out j x hx))]; exact HC2.out j x hx : w1.cell? ((⟨b2, o2, none⟩ : Addr).add j) = some x))
    clear HC2
    go_enter Tryd.func27, Tryd.ntmps27
    go_wp2_with (at_make; refine wpList_make_own _ rfl _ _ _ rfl w.heap.size 5 i0 (.int .u8 0) 1 Tryd.underlying22 hi hz0 hz1 _ _ _ (l.length + m.length) rfl rfl HS.out ?b2 ?b3 ?b4 ?_)
    case b2 => rw [hz2]; omega
    case b3 => unfold maxLen; omega
    case b4 => exact Nat.le_refl _
    intro w1 hown1 hgrow1
    have B1 := Lib.hid (grown_below0 hgrow1 (by simp))
    clear hgrow1
    go_wp2_with (at_builtin; refine wpList_append_own _ rfl _ _ 22 rfl w.heap.size 5 i0 (.int .u8 0) 1 1 Tryd.underlying22 hi hz0 hz1 hz2 rfl (by decide) _ _ _ rfl hown1 ⟨b, o, none⟩ l.length cap (bv l) rfl (by simp) (CL.out _ B1.out) (bv_cell l) ?c3 ?c4 ?c5 ?_)
    case c3 => unfold maxLen; omega
    case c4 => omega
    case c5 => exact B1.out.size
    intro v2 w2 hown2 hgrow2 hnil2
    have hown2 : w2.ownsRow w.heap.size 5 1 v2 l.length (bv l) := by simpa using hown2
    have B2 := Lib.hid (B1.out.trans (grown_belowN hgrow2 B1.out.size (by simp [Value.ownBlock])))
    have HN := Lib.hid hnil2
    have HB := Lib.hid (fun k hk => (hown2.lt k hk).1)
    clear hgrow2 hnil2 hown1
    go_wp2_with (at_builtin; refine wpList_append_own _ rfl _ _ 22 rfl w.heap.size 5 i0 (.int .u8 0) 1 1 Tryd.underlying22 hi hz0 hz1 hz2 rfl (by decide) _ _ _ rfl hown2 ⟨b2, o2, none⟩ m.length cap2 (bv m) rfl (by simp) (C2.out _ B2.out) (bv_cell m) ?c3 ?c4 ?c5 ?_)
    case c3 => unfold maxLen; omega
    case c4 => omega
    case c5 => exact B2.out.size
    intro v3 w3 hown3 hgrow3 hnil3
    have B3 := Lib.hid (B2.out.trans (grown_belowN hgrow3 B2.out.size HB.out))
    have HN3 := Lib.hid (show v3 ≠ .slice none 0 0 from fun e => HN.out (by simp [e] at hnil3; simp [hnil3]))
    clear hgrow3 hnil3
    go_wp2
    go_ret
    refine ⟨_, rfl, HN3.out, ?_, B3.out⟩
    rw [List.length_append, bv_append]
    exact hown3
end Go.Proofs.YtblaaiggmhadfaaDoor
