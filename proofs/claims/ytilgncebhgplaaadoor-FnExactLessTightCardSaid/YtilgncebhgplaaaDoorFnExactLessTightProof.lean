/- For every input the law FnExactLessTight returns true and its arguments read afterwards as they read before; beside what the row states there is no condition. -/
import Derived.Test.YtilgncebhgplaaaDoorCards
import Derived.Test.YtilgncebhgplaaaDoorTie
import Derived.WalkKit
import Derived.ProofKit
import Derived.OpenShut
import Derived.SizedLaws
import Derived.Carry
import Derived.Deep.DeepHandedRow
import Derived.Deep.DeepWitnessRowRef
import Derived.LaidMore
import Derived.Lib.LaidTab
import Derived.Stop.LaidErr
import Derived.Test.YtilgncebhgplaaaDoorG0
import Derived.Test.YtilgncebhgplaaaDoorG1
import Derived.Test.YtilgncebhgplaaaDoorG18
import Derived.Test.YtilgncebhgplaaaDoorG10
import Derived.Deep.RegionHeld3

namespace Go.Proofs.YtilgncebhgplaaaDoor.fnExactLessTight
open Go.ChangeShapes Go.WideShapes Go.ChangeAt Go.RowKit
open Go.ChangeMaps (open_string shut_string)
set_option linter.unusedVariables false

theorem own : ownKnob Tryd.prog.godebug = none := by kernel_rfl
theorem laidOut : laidOutB Tryd.prog = true := by kernel_rfl

set_option maxHeartbeats 1000000 in
theorem big1 (T : AT) (U : AT) (w : World) (hinT : T.In w w.heap.size) (hwfT : T.pt.Wf) (hinU : U.In w w.heap.size) (hwfU : U.pt.Wf) (hTz : Tz w)  (hzT : ¬ T.pt.sz ≤ 1048576) : Calls Tryd.prog 6 #[T.val, U.val] w fun e w' => e = .returned (.bool true) ∧ Below w.heap.size w w' := by
  have HSZT := Lib.hid (fun (w1 : World) (hb : Below w.heap.size w w1) => szVal_any T hwfT w1 w.heap.size (1048576) (hinT.blw hb (Nat.le_refl _)) hb.size (by omega))
  have HRT : Hid (szR T.pt.sz (1048576) = -1) := Lib.hid (by unfold szR; rw [if_neg hzT])
  clear hTz
  clear hinT hwfT hinU hwfU hzT
  show Calls Tryd.prog 6 #[.agg #[.int .i64 T.k, .int .i64 T.n, .int .i64 T.x, .string ⟨T.s.toArray⟩, .slice T.a T.l.length T.cap], .agg #[.int .i64 U.k, .int .i64 U.n, .int .i64 U.x, .string ⟨U.s.toArray⟩, .slice U.a U.l.length U.cap]] w _
  go_enter Tryd.func6, Tryd.ntmps6
  go_wp2_with fail
  have hbox : Below w.heap.size w ((w.alloc (.cells #[.int .i64 T.k, .int .i64 T.n, .int .i64 T.x, .string ⟨T.s.toArray⟩, .slice T.a T.l.length T.cap] 24)).alloc (.cells #[.int .i64 U.k, .int .i64 U.n, .int .i64 U.x, .string ⟨U.s.toArray⟩, .slice U.a U.l.length U.cap] 24)) := boxes2 w (.cells #[.int .i64 T.k, .int .i64 T.n, .int .i64 T.x, .string ⟨T.s.toArray⟩, .slice T.a T.l.length T.cap] 24) (.cells #[.int .i64 U.k, .int .i64 U.n, .int .i64 U.x, .string ⟨U.s.toArray⟩, .slice U.a U.l.length U.cap] 24)
  have hc : ((w.alloc (.cells #[.int .i64 T.k, .int .i64 T.n, .int .i64 T.x, .string ⟨T.s.toArray⟩, .slice T.a T.l.length T.cap] 24)).alloc (.cells #[.int .i64 U.k, .int .i64 U.n, .int .i64 U.x, .string ⟨U.s.toArray⟩, .slice U.a U.l.length U.cap] 24)).cell? ⟨w.heap.size, 0, none⟩ = some (.int .i64 T.k) ∧ ((w.alloc (.cells #[.int .i64 T.k, .int .i64 T.n, .int .i64 T.x, .string ⟨T.s.toArray⟩, .slice T.a T.l.length T.cap] 24)).alloc (.cells #[.int .i64 U.k, .int .i64 U.n, .int .i64 U.x, .string ⟨U.s.toArray⟩, .slice U.a U.l.length U.cap] 24)).cell? ⟨w.heap.size, 1, none⟩ = some (.int .i64 T.n) ∧ ((w.alloc (.cells #[.int .i64 T.k, .int .i64 T.n, .int .i64 T.x, .string ⟨T.s.toArray⟩, .slice T.a T.l.length T.cap] 24)).alloc (.cells #[.int .i64 U.k, .int .i64 U.n, .int .i64 U.x, .string ⟨U.s.toArray⟩, .slice U.a U.l.length U.cap] 24)).cell? ⟨w.heap.size, 2, none⟩ = some (.int .i64 T.x) ∧ ((w.alloc (.cells #[.int .i64 T.k, .int .i64 T.n, .int .i64 T.x, .string ⟨T.s.toArray⟩, .slice T.a T.l.length T.cap] 24)).alloc (.cells #[.int .i64 U.k, .int .i64 U.n, .int .i64 U.x, .string ⟨U.s.toArray⟩, .slice U.a U.l.length U.cap] 24)).cell? ⟨w.heap.size, 3, none⟩ = some (.string ⟨T.s.toArray⟩) ∧ ((w.alloc (.cells #[.int .i64 T.k, .int .i64 T.n, .int .i64 T.x, .string ⟨T.s.toArray⟩, .slice T.a T.l.length T.cap] 24)).alloc (.cells #[.int .i64 U.k, .int .i64 U.n, .int .i64 U.x, .string ⟨U.s.toArray⟩, .slice U.a U.l.length U.cap] 24)).cell? ⟨w.heap.size, 4, none⟩ = some (.slice T.a T.l.length T.cap) := by refine ⟨?_, ?_, ?_, ?_, ?_⟩ <;> simp [go_sem]
  obtain ⟨c0, c1, c2, c3, c4⟩ := hc
  have hd : ((w.alloc (.cells #[.int .i64 T.k, .int .i64 T.n, .int .i64 T.x, .string ⟨T.s.toArray⟩, .slice T.a T.l.length T.cap] 24)).alloc (.cells #[.int .i64 U.k, .int .i64 U.n, .int .i64 U.x, .string ⟨U.s.toArray⟩, .slice U.a U.l.length U.cap] 24)).cell? ⟨w.heap.size + 1, 0, none⟩ = some (.int .i64 U.k) ∧ ((w.alloc (.cells #[.int .i64 T.k, .int .i64 T.n, .int .i64 T.x, .string ⟨T.s.toArray⟩, .slice T.a T.l.length T.cap] 24)).alloc (.cells #[.int .i64 U.k, .int .i64 U.n, .int .i64 U.x, .string ⟨U.s.toArray⟩, .slice U.a U.l.length U.cap] 24)).cell? ⟨w.heap.size + 1, 1, none⟩ = some (.int .i64 U.n) ∧ ((w.alloc (.cells #[.int .i64 T.k, .int .i64 T.n, .int .i64 T.x, .string ⟨T.s.toArray⟩, .slice T.a T.l.length T.cap] 24)).alloc (.cells #[.int .i64 U.k, .int .i64 U.n, .int .i64 U.x, .string ⟨U.s.toArray⟩, .slice U.a U.l.length U.cap] 24)).cell? ⟨w.heap.size + 1, 2, none⟩ = some (.int .i64 U.x) ∧ ((w.alloc (.cells #[.int .i64 T.k, .int .i64 T.n, .int .i64 T.x, .string ⟨T.s.toArray⟩, .slice T.a T.l.length T.cap] 24)).alloc (.cells #[.int .i64 U.k, .int .i64 U.n, .int .i64 U.x, .string ⟨U.s.toArray⟩, .slice U.a U.l.length U.cap] 24)).cell? ⟨w.heap.size + 1, 3, none⟩ = some (.string ⟨U.s.toArray⟩) ∧ ((w.alloc (.cells #[.int .i64 T.k, .int .i64 T.n, .int .i64 T.x, .string ⟨T.s.toArray⟩, .slice T.a T.l.length T.cap] 24)).alloc (.cells #[.int .i64 U.k, .int .i64 U.n, .int .i64 U.x, .string ⟨U.s.toArray⟩, .slice U.a U.l.length U.cap] 24)).cell? ⟨w.heap.size + 1, 4, none⟩ = some (.slice U.a U.l.length U.cap) := by refine ⟨?_, ?_, ?_, ?_, ?_⟩ <;> simp [go_sem]
  obtain ⟨d0, d1, d2, d3, d4⟩ := hd
  generalize ((w.alloc (.cells #[.int .i64 T.k, .int .i64 T.n, .int .i64 T.x, .string ⟨T.s.toArray⟩, .slice T.a T.l.length T.cap] 24)).alloc (.cells #[.int .i64 U.k, .int .i64 U.n, .int .i64 U.x, .string ⟨U.s.toArray⟩, .slice U.a U.l.length U.cap] 24)) = w0 at *
  have HB0 := Lib.hid hbox
  clear hbox
  refine (HSZT.out _ HB0.out).mono ?_
  rintro e w1 ⟨rfl, hb1⟩
  have HB1 := Lib.hid (HB0.out.trans (hb1.mono HB0.out.size))
  replace c0 := keep_below hb1 c0
  replace c1 := keep_below hb1 c1
  replace c2 := keep_below hb1 c2
  replace c3 := keep_below hb1 c3
  replace c4 := keep_below hb1 c4
  replace d0 := keep_below hb1 d0
  replace d1 := keep_below hb1 d1
  replace d2 := keep_below hb1 d2
  replace d3 := keep_below hb1 d3
  replace d4 := keep_below hb1 d4
  clear hb1
  rw [HRT.out]
  go_wp2
  go_ret
  exact ⟨rfl, HB1.out⟩
set_option maxHeartbeats 1000000 in
theorem big2 (T : AT) (U : AT) (w : World) (hinT : T.In w w.heap.size) (hwfT : T.pt.Wf) (hinU : U.In w w.heap.size) (hwfU : U.pt.Wf) (hTz : Tz w) (hzT : T.pt.sz ≤ 1048576) (hzU : ¬ U.pt.sz ≤ 1048576 - T.pt.sz) : Calls Tryd.prog 6 #[T.val, U.val] w fun e w' => e = .returned (.bool true) ∧ Below w.heap.size w w' := by
  have HSZT := Lib.hid (fun (w1 : World) (hb : Below w.heap.size w w1) => szVal_any T hwfT w1 w.heap.size (1048576) (hinT.blw hb (Nat.le_refl _)) hb.size (by omega))
  have HRT : Hid (szR T.pt.sz (1048576) = ((1048576 - T.pt.sz : Nat) : Int)) := Lib.hid (by unfold szR; rw [if_pos hzT]; omega)
  have hnegT : ¬ (((1048576 - T.pt.sz : Nat) : Int) < 0) := by omega
  have HSZU := Lib.hid (fun (w1 : World) (hb : Below w.heap.size w w1) => szVal_any U hwfU w1 w.heap.size (1048576 - T.pt.sz) (hinU.blw hb (Nat.le_refl _)) hb.size (by omega))
  have HRU : Hid (szR U.pt.sz (1048576 - T.pt.sz) = -1) := Lib.hid (by unfold szR; rw [if_neg hzU])
  clear hTz
  clear hinT hwfT hinU hwfU hzT hzU
  generalize 1048576 - T.pt.sz = leftT at *
  show Calls Tryd.prog 6 #[.agg #[.int .i64 T.k, .int .i64 T.n, .int .i64 T.x, .string ⟨T.s.toArray⟩, .slice T.a T.l.length T.cap], .agg #[.int .i64 U.k, .int .i64 U.n, .int .i64 U.x, .string ⟨U.s.toArray⟩, .slice U.a U.l.length U.cap]] w _
  go_enter Tryd.func6, Tryd.ntmps6
  go_wp2_with fail
  have hbox : Below w.heap.size w ((w.alloc (.cells #[.int .i64 T.k, .int .i64 T.n, .int .i64 T.x, .string ⟨T.s.toArray⟩, .slice T.a T.l.length T.cap] 24)).alloc (.cells #[.int .i64 U.k, .int .i64 U.n, .int .i64 U.x, .string ⟨U.s.toArray⟩, .slice U.a U.l.length U.cap] 24)) := boxes2 w (.cells #[.int .i64 T.k, .int .i64 T.n, .int .i64 T.x, .string ⟨T.s.toArray⟩, .slice T.a T.l.length T.cap] 24) (.cells #[.int .i64 U.k, .int .i64 U.n, .int .i64 U.x, .string ⟨U.s.toArray⟩, .slice U.a U.l.length U.cap] 24)
  have hc : ((w.alloc (.cells #[.int .i64 T.k, .int .i64 T.n, .int .i64 T.x, .string ⟨T.s.toArray⟩, .slice T.a T.l.length T.cap] 24)).alloc (.cells #[.int .i64 U.k, .int .i64 U.n, .int .i64 U.x, .string ⟨U.s.toArray⟩, .slice U.a U.l.length U.cap] 24)).cell? ⟨w.heap.size, 0, none⟩ = some (.int .i64 T.k) ∧ ((w.alloc (.cells #[.int .i64 T.k, .int .i64 T.n, .int .i64 T.x, .string ⟨T.s.toArray⟩, .slice T.a T.l.length T.cap] 24)).alloc (.cells #[.int .i64 U.k, .int .i64 U.n, .int .i64 U.x, .string ⟨U.s.toArray⟩, .slice U.a U.l.length U.cap] 24)).cell? ⟨w.heap.size, 1, none⟩ = some (.int .i64 T.n) ∧ ((w.alloc (.cells #[.int .i64 T.k, .int .i64 T.n, .int .i64 T.x, .string ⟨T.s.toArray⟩, .slice T.a T.l.length T.cap] 24)).alloc (.cells #[.int .i64 U.k, .int .i64 U.n, .int .i64 U.x, .string ⟨U.s.toArray⟩, .slice U.a U.l.length U.cap] 24)).cell? ⟨w.heap.size, 2, none⟩ = some (.int .i64 T.x) ∧ ((w.alloc (.cells #[.int .i64 T.k, .int .i64 T.n, .int .i64 T.x, .string ⟨T.s.toArray⟩, .slice T.a T.l.length T.cap] 24)).alloc (.cells #[.int .i64 U.k, .int .i64 U.n, .int .i64 U.x, .string ⟨U.s.toArray⟩, .slice U.a U.l.length U.cap] 24)).cell? ⟨w.heap.size, 3, none⟩ = some (.string ⟨T.s.toArray⟩) ∧ ((w.alloc (.cells #[.int .i64 T.k, .int .i64 T.n, .int .i64 T.x, .string ⟨T.s.toArray⟩, .slice T.a T.l.length T.cap] 24)).alloc (.cells #[.int .i64 U.k, .int .i64 U.n, .int .i64 U.x, .string ⟨U.s.toArray⟩, .slice U.a U.l.length U.cap] 24)).cell? ⟨w.heap.size, 4, none⟩ = some (.slice T.a T.l.length T.cap) := by refine ⟨?_, ?_, ?_, ?_, ?_⟩ <;> simp [go_sem]
  obtain ⟨c0, c1, c2, c3, c4⟩ := hc
  have hd : ((w.alloc (.cells #[.int .i64 T.k, .int .i64 T.n, .int .i64 T.x, .string ⟨T.s.toArray⟩, .slice T.a T.l.length T.cap] 24)).alloc (.cells #[.int .i64 U.k, .int .i64 U.n, .int .i64 U.x, .string ⟨U.s.toArray⟩, .slice U.a U.l.length U.cap] 24)).cell? ⟨w.heap.size + 1, 0, none⟩ = some (.int .i64 U.k) ∧ ((w.alloc (.cells #[.int .i64 T.k, .int .i64 T.n, .int .i64 T.x, .string ⟨T.s.toArray⟩, .slice T.a T.l.length T.cap] 24)).alloc (.cells #[.int .i64 U.k, .int .i64 U.n, .int .i64 U.x, .string ⟨U.s.toArray⟩, .slice U.a U.l.length U.cap] 24)).cell? ⟨w.heap.size + 1, 1, none⟩ = some (.int .i64 U.n) ∧ ((w.alloc (.cells #[.int .i64 T.k, .int .i64 T.n, .int .i64 T.x, .string ⟨T.s.toArray⟩, .slice T.a T.l.length T.cap] 24)).alloc (.cells #[.int .i64 U.k, .int .i64 U.n, .int .i64 U.x, .string ⟨U.s.toArray⟩, .slice U.a U.l.length U.cap] 24)).cell? ⟨w.heap.size + 1, 2, none⟩ = some (.int .i64 U.x) ∧ ((w.alloc (.cells #[.int .i64 T.k, .int .i64 T.n, .int .i64 T.x, .string ⟨T.s.toArray⟩, .slice T.a T.l.length T.cap] 24)).alloc (.cells #[.int .i64 U.k, .int .i64 U.n, .int .i64 U.x, .string ⟨U.s.toArray⟩, .slice U.a U.l.length U.cap] 24)).cell? ⟨w.heap.size + 1, 3, none⟩ = some (.string ⟨U.s.toArray⟩) ∧ ((w.alloc (.cells #[.int .i64 T.k, .int .i64 T.n, .int .i64 T.x, .string ⟨T.s.toArray⟩, .slice T.a T.l.length T.cap] 24)).alloc (.cells #[.int .i64 U.k, .int .i64 U.n, .int .i64 U.x, .string ⟨U.s.toArray⟩, .slice U.a U.l.length U.cap] 24)).cell? ⟨w.heap.size + 1, 4, none⟩ = some (.slice U.a U.l.length U.cap) := by refine ⟨?_, ?_, ?_, ?_, ?_⟩ <;> simp [go_sem]
  obtain ⟨d0, d1, d2, d3, d4⟩ := hd
  generalize ((w.alloc (.cells #[.int .i64 T.k, .int .i64 T.n, .int .i64 T.x, .string ⟨T.s.toArray⟩, .slice T.a T.l.length T.cap] 24)).alloc (.cells #[.int .i64 U.k, .int .i64 U.n, .int .i64 U.x, .string ⟨U.s.toArray⟩, .slice U.a U.l.length U.cap] 24)) = w0 at *
  have HB0 := Lib.hid hbox
  clear hbox
  refine (HSZT.out _ HB0.out).mono ?_
  rintro e w1 ⟨rfl, hb1⟩
  have HB1 := Lib.hid (HB0.out.trans (hb1.mono HB0.out.size))
  replace c0 := keep_below hb1 c0
  replace c1 := keep_below hb1 c1
  replace c2 := keep_below hb1 c2
  replace c3 := keep_below hb1 c3
  replace c4 := keep_below hb1 c4
  replace d0 := keep_below hb1 d0
  replace d1 := keep_below hb1 d1
  replace d2 := keep_below hb1 d2
  replace d3 := keep_below hb1 d3
  replace d4 := keep_below hb1 d4
  clear hb1
  rw [HRT.out]
  go_wp2_with fail
  refine (HSZU.out _ HB1.out).mono ?_
  rintro e w2 ⟨rfl, hb2⟩
  have HB2 := Lib.hid (HB1.out.trans (hb2.mono HB1.out.size))
  replace c0 := keep_below hb2 c0
  replace c1 := keep_below hb2 c1
  replace c2 := keep_below hb2 c2
  replace c3 := keep_below hb2 c3
  replace c4 := keep_below hb2 c4
  replace d0 := keep_below hb2 d0
  replace d1 := keep_below hb2 d1
  replace d2 := keep_below hb2 d2
  replace d3 := keep_below hb2 d3
  replace d4 := keep_below hb2 d4
  clear hb2
  rw [HRU.out]
  go_wp2
  go_ret
  exact ⟨rfl, HB2.out⟩
set_option maxHeartbeats 4000000 in
set_option maxRecDepth 100000 in
theorem main (T : AT) (U : AT) (w : World) (hinT : T.In w w.heap.size) (hwfT : T.pt.Wf) (hinU : U.In w w.heap.size) (hwfU : U.pt.Wf) (hTz : Tz w) (hzT : T.pt.sz ≤ 1048576) (hzU : U.pt.sz ≤ 1048576 - T.pt.sz) : Calls Tryd.prog 6 #[T.val, U.val] w fun e w' => e = .returned (.bool true) ∧ Below w.heap.size w w' := by
  have HSZT := Lib.hid (fun (w1 : World) (hb : Below w.heap.size w w1) => szVal_any T hwfT w1 w.heap.size (1048576) (hinT.blw hb (Nat.le_refl _)) hb.size (by omega))
  have HRT : Hid (szR T.pt.sz (1048576) = ((1048576 - T.pt.sz : Nat) : Int)) := Lib.hid (by unfold szR; rw [if_pos hzT]; omega)
  have hnegT : ¬ (((1048576 - T.pt.sz : Nat) : Int) < 0) := by omega
  have HSZU := Lib.hid (fun (w1 : World) (hb : Below w.heap.size w w1) => szVal_any U hwfU w1 w.heap.size (1048576 - T.pt.sz) (hinU.blw hb (Nat.le_refl _)) hb.size (by omega))
  have HRU : Hid (szR U.pt.sz (1048576 - T.pt.sz) = ((1048576 - T.pt.sz - U.pt.sz : Nat) : Int)) := Lib.hid (by unfold szR; rw [if_pos hzU]; omega)
  have hnegU : ¬ (((1048576 - T.pt.sz - U.pt.sz : Nat) : Int) < 0) := by omega
  have hsT : T.pt.sz ≤ 1048576 := by omega
  have HTVT := Lib.hid (fun (w1 : World) (hb : Below w.heap.size w w1) => toVal_any T hwfT hsT w1 w.heap.size (hinT.blw hb (Nat.le_refl _)) hb.size)
  have HEQT := Lib.hid (fun (T' U' : AT) (hp : T'.pt = T.pt) (hu : U'.pt = T.pt) (w1 : World) (hi : T'.In w1 w1.heap.size) (hj : U'.In w1 w1.heap.size) => eqVal_any T' (by rw [hp]; exact hwfT) U' w1 w1.heap.size (by rw [hp, hu]) hi hj (Nat.le_refl _))
  have hsU : U.pt.sz ≤ 1048576 := by omega
  have HTVU := Lib.hid (fun (w1 : World) (hb : Below w.heap.size w w1) => toVal_any U hwfU hsU w1 w.heap.size (hinU.blw hb (Nat.le_refl _)) hb.size)
  have HEQU := Lib.hid (fun (T' U' : AT) (hp : T'.pt = U.pt) (hu : U'.pt = U.pt) (w1 : World) (hi : T'.In w1 w1.heap.size) (hj : U'.In w1 w1.heap.size) => eqVal_any T' (by rw [hp]; exact hwfU) U' w1 w1.heap.size (by rw [hp, hu]) hi hj (Nat.le_refl _))
  have HTZ := Lib.hid hTz
  clear hTz
  obtain ⟨tot, htot⟩ : ∃ tot, tot = bltB (T.pt.tight hdFor) (U.pt.tight hdFor) := ⟨_, rfl⟩
  have HCS := Lib.hid (fun (T' U' : AT) (hp : T'.pt = T.pt) (hu : U'.pt = U.pt) (w1 : World) (hi : T'.In w1 w1.heap.size) (hj : U'.In w1 w1.heap.size) => (lesstight_spec T' U' w1 w1.heap.size hi hj (Nat.le_refl _) (by rw [hp]; exact hwfT) (by rw [hu]; exact hwfU) (by rw [hp]; omega) (by rw [hu]; omega)).mono (fun e w' h => (⟨by rw [h.1, hp, hu, ← htot], h.2⟩ : e = .returned (.bool tot) ∧ Below w1.heap.size w1 w')))
  have HCI := Lib.hid (fun (T' U' : AT) (hp : T'.pt = T.pt) (hu : U'.pt = U.pt) (w1 : World) (hi : T'.In w1 w1.heap.size) (hj : U'.In w1 w1.heap.size) (hbw : Below w.heap.size w w1) => (lesstight_impl T' U' w1 w1.heap.size hi hj (Nat.le_refl _) (HTZ.out.below hbw) (by rw [hp]; exact hwfT) (by rw [hu]; exact hwfU) (by rw [hp]; omega) (by rw [hu]; omega)).mono (fun e w' h => (⟨by rw [h.1, hp, hu, ← htot], h.2⟩ : e = .returned (.bool tot) ∧ Below w1.heap.size w1 w')))
  clear htot
  clear hinT hwfT hzT hsT hinU hwfU hzU hsU
  generalize 1048576 - T.pt.sz - U.pt.sz = leftU at *
  generalize 1048576 - T.pt.sz = leftT at *
  show Calls Tryd.prog 6 #[.agg #[.int .i64 T.k, .int .i64 T.n, .int .i64 T.x, .string ⟨T.s.toArray⟩, .slice T.a T.l.length T.cap], .agg #[.int .i64 U.k, .int .i64 U.n, .int .i64 U.x, .string ⟨U.s.toArray⟩, .slice U.a U.l.length U.cap]] w _
  go_enter Tryd.func6, Tryd.ntmps6
  go_wp2_with fail
  have hbox : Below w.heap.size w ((w.alloc (.cells #[.int .i64 T.k, .int .i64 T.n, .int .i64 T.x, .string ⟨T.s.toArray⟩, .slice T.a T.l.length T.cap] 24)).alloc (.cells #[.int .i64 U.k, .int .i64 U.n, .int .i64 U.x, .string ⟨U.s.toArray⟩, .slice U.a U.l.length U.cap] 24)) := boxes2 w (.cells #[.int .i64 T.k, .int .i64 T.n, .int .i64 T.x, .string ⟨T.s.toArray⟩, .slice T.a T.l.length T.cap] 24) (.cells #[.int .i64 U.k, .int .i64 U.n, .int .i64 U.x, .string ⟨U.s.toArray⟩, .slice U.a U.l.length U.cap] 24)
  have hc : ((w.alloc (.cells #[.int .i64 T.k, .int .i64 T.n, .int .i64 T.x, .string ⟨T.s.toArray⟩, .slice T.a T.l.length T.cap] 24)).alloc (.cells #[.int .i64 U.k, .int .i64 U.n, .int .i64 U.x, .string ⟨U.s.toArray⟩, .slice U.a U.l.length U.cap] 24)).cell? ⟨w.heap.size, 0, none⟩ = some (.int .i64 T.k) ∧ ((w.alloc (.cells #[.int .i64 T.k, .int .i64 T.n, .int .i64 T.x, .string ⟨T.s.toArray⟩, .slice T.a T.l.length T.cap] 24)).alloc (.cells #[.int .i64 U.k, .int .i64 U.n, .int .i64 U.x, .string ⟨U.s.toArray⟩, .slice U.a U.l.length U.cap] 24)).cell? ⟨w.heap.size, 1, none⟩ = some (.int .i64 T.n) ∧ ((w.alloc (.cells #[.int .i64 T.k, .int .i64 T.n, .int .i64 T.x, .string ⟨T.s.toArray⟩, .slice T.a T.l.length T.cap] 24)).alloc (.cells #[.int .i64 U.k, .int .i64 U.n, .int .i64 U.x, .string ⟨U.s.toArray⟩, .slice U.a U.l.length U.cap] 24)).cell? ⟨w.heap.size, 2, none⟩ = some (.int .i64 T.x) ∧ ((w.alloc (.cells #[.int .i64 T.k, .int .i64 T.n, .int .i64 T.x, .string ⟨T.s.toArray⟩, .slice T.a T.l.length T.cap] 24)).alloc (.cells #[.int .i64 U.k, .int .i64 U.n, .int .i64 U.x, .string ⟨U.s.toArray⟩, .slice U.a U.l.length U.cap] 24)).cell? ⟨w.heap.size, 3, none⟩ = some (.string ⟨T.s.toArray⟩) ∧ ((w.alloc (.cells #[.int .i64 T.k, .int .i64 T.n, .int .i64 T.x, .string ⟨T.s.toArray⟩, .slice T.a T.l.length T.cap] 24)).alloc (.cells #[.int .i64 U.k, .int .i64 U.n, .int .i64 U.x, .string ⟨U.s.toArray⟩, .slice U.a U.l.length U.cap] 24)).cell? ⟨w.heap.size, 4, none⟩ = some (.slice T.a T.l.length T.cap) := by refine ⟨?_, ?_, ?_, ?_, ?_⟩ <;> simp [go_sem]
  obtain ⟨c0, c1, c2, c3, c4⟩ := hc
  have hd : ((w.alloc (.cells #[.int .i64 T.k, .int .i64 T.n, .int .i64 T.x, .string ⟨T.s.toArray⟩, .slice T.a T.l.length T.cap] 24)).alloc (.cells #[.int .i64 U.k, .int .i64 U.n, .int .i64 U.x, .string ⟨U.s.toArray⟩, .slice U.a U.l.length U.cap] 24)).cell? ⟨w.heap.size + 1, 0, none⟩ = some (.int .i64 U.k) ∧ ((w.alloc (.cells #[.int .i64 T.k, .int .i64 T.n, .int .i64 T.x, .string ⟨T.s.toArray⟩, .slice T.a T.l.length T.cap] 24)).alloc (.cells #[.int .i64 U.k, .int .i64 U.n, .int .i64 U.x, .string ⟨U.s.toArray⟩, .slice U.a U.l.length U.cap] 24)).cell? ⟨w.heap.size + 1, 1, none⟩ = some (.int .i64 U.n) ∧ ((w.alloc (.cells #[.int .i64 T.k, .int .i64 T.n, .int .i64 T.x, .string ⟨T.s.toArray⟩, .slice T.a T.l.length T.cap] 24)).alloc (.cells #[.int .i64 U.k, .int .i64 U.n, .int .i64 U.x, .string ⟨U.s.toArray⟩, .slice U.a U.l.length U.cap] 24)).cell? ⟨w.heap.size + 1, 2, none⟩ = some (.int .i64 U.x) ∧ ((w.alloc (.cells #[.int .i64 T.k, .int .i64 T.n, .int .i64 T.x, .string ⟨T.s.toArray⟩, .slice T.a T.l.length T.cap] 24)).alloc (.cells #[.int .i64 U.k, .int .i64 U.n, .int .i64 U.x, .string ⟨U.s.toArray⟩, .slice U.a U.l.length U.cap] 24)).cell? ⟨w.heap.size + 1, 3, none⟩ = some (.string ⟨U.s.toArray⟩) ∧ ((w.alloc (.cells #[.int .i64 T.k, .int .i64 T.n, .int .i64 T.x, .string ⟨T.s.toArray⟩, .slice T.a T.l.length T.cap] 24)).alloc (.cells #[.int .i64 U.k, .int .i64 U.n, .int .i64 U.x, .string ⟨U.s.toArray⟩, .slice U.a U.l.length U.cap] 24)).cell? ⟨w.heap.size + 1, 4, none⟩ = some (.slice U.a U.l.length U.cap) := by refine ⟨?_, ?_, ?_, ?_, ?_⟩ <;> simp [go_sem]
  obtain ⟨d0, d1, d2, d3, d4⟩ := hd
  generalize ((w.alloc (.cells #[.int .i64 T.k, .int .i64 T.n, .int .i64 T.x, .string ⟨T.s.toArray⟩, .slice T.a T.l.length T.cap] 24)).alloc (.cells #[.int .i64 U.k, .int .i64 U.n, .int .i64 U.x, .string ⟨U.s.toArray⟩, .slice U.a U.l.length U.cap] 24)) = w0 at *
  have HB0 := Lib.hid hbox
  clear hbox
  refine (HSZT.out _ HB0.out).mono ?_
  rintro e w1 ⟨rfl, hb1⟩
  have HB1 := Lib.hid (HB0.out.trans (hb1.mono HB0.out.size))
  replace c0 := keep_below hb1 c0
  replace c1 := keep_below hb1 c1
  replace c2 := keep_below hb1 c2
  replace c3 := keep_below hb1 c3
  replace c4 := keep_below hb1 c4
  replace d0 := keep_below hb1 d0
  replace d1 := keep_below hb1 d1
  replace d2 := keep_below hb1 d2
  replace d3 := keep_below hb1 d3
  replace d4 := keep_below hb1 d4
  clear hb1
  rw [HRT.out]
  go_wp2_with fail
  refine (HSZU.out _ HB1.out).mono ?_
  rintro e w2 ⟨rfl, hb2⟩
  have HB2 := Lib.hid (HB1.out.trans (hb2.mono HB1.out.size))
  replace c0 := keep_below hb2 c0
  replace c1 := keep_below hb2 c1
  replace c2 := keep_below hb2 c2
  replace c3 := keep_below hb2 c3
  replace c4 := keep_below hb2 c4
  replace d0 := keep_below hb2 d0
  replace d1 := keep_below hb2 d1
  replace d2 := keep_below hb2 d2
  replace d3 := keep_below hb2 d3
  replace d4 := keep_below hb2 d4
  clear hb2
  rw [HRU.out]
  go_wp2_with fail
  have hbel := HB2.out
  go_region_held3 (fun W' => W'.cell? ⟨w.heap.size, 0, none⟩ = some (.int .i64 T.k) ∧ W'.cell? ⟨w.heap.size, 1, none⟩ = some (.int .i64 T.n) ∧ W'.cell? ⟨w.heap.size, 2, none⟩ = some (.int .i64 T.x) ∧ W'.cell? ⟨w.heap.size, 3, none⟩ = some (.string ⟨T.s.toArray⟩) ∧ W'.cell? ⟨w.heap.size, 4, none⟩ = some (.slice T.a T.l.length T.cap) ∧ W'.cell? ⟨w.heap.size + 1, 0, none⟩ = some (.int .i64 U.k) ∧ W'.cell? ⟨w.heap.size + 1, 1, none⟩ = some (.int .i64 U.n) ∧ W'.cell? ⟨w.heap.size + 1, 2, none⟩ = some (.int .i64 U.x) ∧ W'.cell? ⟨w.heap.size + 1, 3, none⟩ = some (.string ⟨U.s.toArray⟩) ∧ W'.cell? ⟨w.heap.size + 1, 4, none⟩ = some (.slice U.a U.l.length U.cap) ∧ Below w.heap.size w W') ((refine ⟨?_, ?_, ?_, ?_, ?_, ?_, ?_, ?_, ?_, ?_, ?_⟩ <;> first | assumption | (refine Below.drew ?_; assumption) | (refine AT.Own.drew ?_; assumption) | exact keep_below (by assumption) (by assumption) | exact below_tr (by assumption) (by assumption) | exact own_blw (by assumption) (by assumption))) ((first | (go_at_call 11; go_split_ands; ((with_reducible refine (HTVT.out _ (by assumption)).mono ?_); rintro e ua ⟨Ya, hpua, rfl, houa, hnua, hbua⟩; have HOua := Lib.hid houa; have HPua := Lib.hid hpua; clear houa hnua hpua)) | (go_at_call 11; go_split_ands; ((with_reducible refine (HTVU.out _ (by assumption)).mono ?_); rintro e ub ⟨Yb, hpub, rfl, houb, hnub, hbub⟩; have HOub := Lib.hid houb; have HPub := Lib.hid hpub; clear houb hnub hpub)) | (go_at_call 22; go_split_ands; refine (HCS.out Ya Yb HPua.out HPub.out _ (HOua.out.blw (by assumption)).in HOub.out.in).mono ?_; rintro e wa ⟨rfl, hbwa⟩)))
  go_split_ands
  replace c0 : wa.cell? ⟨w.heap.size, 0, none⟩ = some (.int .i64 T.k) := by assumption
  replace c1 : wa.cell? ⟨w.heap.size, 1, none⟩ = some (.int .i64 T.n) := by assumption
  replace c2 : wa.cell? ⟨w.heap.size, 2, none⟩ = some (.int .i64 T.x) := by assumption
  replace c3 : wa.cell? ⟨w.heap.size, 3, none⟩ = some (.string ⟨T.s.toArray⟩) := by assumption
  replace c4 : wa.cell? ⟨w.heap.size, 4, none⟩ = some (.slice T.a T.l.length T.cap) := by assumption
  replace d0 : wa.cell? ⟨w.heap.size + 1, 0, none⟩ = some (.int .i64 U.k) := by assumption
  replace d1 : wa.cell? ⟨w.heap.size + 1, 1, none⟩ = some (.int .i64 U.n) := by assumption
  replace d2 : wa.cell? ⟨w.heap.size + 1, 2, none⟩ = some (.int .i64 U.x) := by assumption
  replace d3 : wa.cell? ⟨w.heap.size + 1, 3, none⟩ = some (.string ⟨U.s.toArray⟩) := by assumption
  replace d4 : wa.cell? ⟨w.heap.size + 1, 4, none⟩ = some (.slice U.a U.l.length U.cap) := by assumption
  have HB3 : Hid (Below w.heap.size w wa) := Lib.hid (by assumption)
  clear hbel
  go_wp2_with fail
  refine (HTVT.out _ HB3.out).mono ?_
  rintro e w4 ⟨X0, hp4, rfl, ho4, hn4, hb4⟩
  have HB4 := Lib.hid (HB3.out.trans (hb4.mono HB3.out.size))
  replace c0 := keep_below hb4 c0
  replace c1 := keep_below hb4 c1
  replace c2 := keep_below hb4 c2
  replace c3 := keep_below hb4 c3
  replace c4 := keep_below hb4 c4
  replace d0 := keep_below hb4 d0
  replace d1 := keep_below hb4 d1
  replace d2 := keep_below hb4 d2
  replace d3 := keep_below hb4 d3
  replace d4 := keep_below hb4 d4
  have HPX0 := Lib.hid hp4
  have HOX0_4 := Lib.hid (ho4.base HB3.out.size)
  have HNX0 := Lib.hid hn4
  clear hp4 ho4 hn4
  clear hb4
  have hv5 := vbox w4 (.cells #[.int .i64 X0.k, .int .i64 X0.n, .int .i64 X0.x, .string ⟨X0.s.toArray⟩, .slice X0.a X0.l.length X0.cap] 29)
  have HB5 := Lib.hid (HB4.out.trans (hv5.mono HB4.out.size))
  replace c0 := keep_below hv5 c0
  replace c1 := keep_below hv5 c1
  replace c2 := keep_below hv5 c2
  replace c3 := keep_below hv5 c3
  replace c4 := keep_below hv5 c4
  replace d0 := keep_below hv5 d0
  replace d1 := keep_below hv5 d1
  replace d2 := keep_below hv5 d2
  replace d3 := keep_below hv5 d3
  replace d4 := keep_below hv5 d4
  have HOX0_5 := Lib.hid (HOX0_4.out.blw hv5)
  clear HOX0_4
  obtain ⟨p0, p1, p2, p3, p4⟩ := vcells5 w4 X0 29
  clear hv5
  go_wp2_with fail
  generalize (w4.alloc (.cells #[.int .i64 X0.k, .int .i64 X0.n, .int .i64 X0.x, .string ⟨X0.s.toArray⟩, .slice X0.a X0.l.length X0.cap] 29)) = w5 at *
  refine (HTVU.out _ HB5.out).mono ?_
  rintro e w6 ⟨X1, hp6, rfl, ho6, hn6, hb6⟩
  have HB6 := Lib.hid (HB5.out.trans (hb6.mono HB5.out.size))
  replace c0 := keep_below hb6 c0
  replace c1 := keep_below hb6 c1
  replace c2 := keep_below hb6 c2
  replace c3 := keep_below hb6 c3
  replace c4 := keep_below hb6 c4
  replace d0 := keep_below hb6 d0
  replace d1 := keep_below hb6 d1
  replace d2 := keep_below hb6 d2
  replace d3 := keep_below hb6 d3
  replace d4 := keep_below hb6 d4
  replace p0 := keep_below hb6 p0
  replace p1 := keep_below hb6 p1
  replace p2 := keep_below hb6 p2
  replace p3 := keep_below hb6 p3
  replace p4 := keep_below hb6 p4
  have HOX0_6 := Lib.hid (HOX0_5.out.blw hb6)
  clear HOX0_5
  have HPX1 := Lib.hid hp6
  have HOX1_6 := Lib.hid (ho6.base HB5.out.size)
  have HNX1 := Lib.hid hn6
  clear hp6 ho6 hn6
  clear hb6
  have hv7 := vbox w6 (.cells #[.int .i64 X1.k, .int .i64 X1.n, .int .i64 X1.x, .string ⟨X1.s.toArray⟩, .slice X1.a X1.l.length X1.cap] 29)
  have HB7 := Lib.hid (HB6.out.trans (hv7.mono HB6.out.size))
  replace c0 := keep_below hv7 c0
  replace c1 := keep_below hv7 c1
  replace c2 := keep_below hv7 c2
  replace c3 := keep_below hv7 c3
  replace c4 := keep_below hv7 c4
  replace d0 := keep_below hv7 d0
  replace d1 := keep_below hv7 d1
  replace d2 := keep_below hv7 d2
  replace d3 := keep_below hv7 d3
  replace d4 := keep_below hv7 d4
  replace p0 := keep_below hv7 p0
  replace p1 := keep_below hv7 p1
  replace p2 := keep_below hv7 p2
  replace p3 := keep_below hv7 p3
  replace p4 := keep_below hv7 p4
  have HOX0_7 := Lib.hid (HOX0_6.out.blw hv7)
  clear HOX0_6
  have HOX1_7 := Lib.hid (HOX1_6.out.blw hv7)
  clear HOX1_6
  obtain ⟨q0, q1, q2, q3, q4⟩ := vcells5 w6 X1 29
  clear hv7
  go_wp2_with fail
  generalize (w6.alloc (.cells #[.int .i64 X1.k, .int .i64 X1.n, .int .i64 X1.x, .string ⟨X1.s.toArray⟩, .slice X1.a X1.l.length X1.cap] 29)) = w7 at *
  refine (HCI.out X0 X1 HPX0.out HPX1.out _ HOX0_7.out.in HOX1_7.out.in HB7.out).mono ?_
  rintro e w8 ⟨rfl, hb8⟩
  have HB8 := Lib.hid (HB7.out.trans (hb8.mono HB7.out.size))
  replace c0 := keep_below hb8 c0
  replace c1 := keep_below hb8 c1
  replace c2 := keep_below hb8 c2
  replace c3 := keep_below hb8 c3
  replace c4 := keep_below hb8 c4
  replace d0 := keep_below hb8 d0
  replace d1 := keep_below hb8 d1
  replace d2 := keep_below hb8 d2
  replace d3 := keep_below hb8 d3
  replace d4 := keep_below hb8 d4
  replace p0 := keep_below hb8 p0
  replace p1 := keep_below hb8 p1
  replace p2 := keep_below hb8 p2
  replace p3 := keep_below hb8 p3
  replace p4 := keep_below hb8 p4
  replace q0 := keep_below hb8 q0
  replace q1 := keep_below hb8 q1
  replace q2 := keep_below hb8 q2
  replace q3 := keep_below hb8 q3
  replace q4 := keep_below hb8 q4
  have HOX0_8 := Lib.hid (HOX0_7.out.blw hb8)
  clear HOX0_7
  have HOX1_8 := Lib.hid (HOX1_7.out.blw hb8)
  clear HOX1_7
  clear hb8
  go_wp2_with fail
  have hownX0 := HOX0_8.out
  have hownX1 := HOX1_8.out
  have hbel := HB8.out
  go_region_held3 (fun W' => W'.cell? ⟨w.heap.size, 0, none⟩ = some (.int .i64 T.k) ∧ W'.cell? ⟨w.heap.size, 1, none⟩ = some (.int .i64 T.n) ∧ W'.cell? ⟨w.heap.size, 2, none⟩ = some (.int .i64 T.x) ∧ W'.cell? ⟨w.heap.size, 3, none⟩ = some (.string ⟨T.s.toArray⟩) ∧ W'.cell? ⟨w.heap.size, 4, none⟩ = some (.slice T.a T.l.length T.cap) ∧ W'.cell? ⟨w.heap.size + 1, 0, none⟩ = some (.int .i64 U.k) ∧ W'.cell? ⟨w.heap.size + 1, 1, none⟩ = some (.int .i64 U.n) ∧ W'.cell? ⟨w.heap.size + 1, 2, none⟩ = some (.int .i64 U.x) ∧ W'.cell? ⟨w.heap.size + 1, 3, none⟩ = some (.string ⟨U.s.toArray⟩) ∧ W'.cell? ⟨w.heap.size + 1, 4, none⟩ = some (.slice U.a U.l.length U.cap) ∧ W'.cell? ⟨w4.heap.size, 0, none⟩ = some (.int .i64 X0.k) ∧ W'.cell? ⟨w4.heap.size, 1, none⟩ = some (.int .i64 X0.n) ∧ W'.cell? ⟨w4.heap.size, 2, none⟩ = some (.int .i64 X0.x) ∧ W'.cell? ⟨w4.heap.size, 3, none⟩ = some (.string ⟨X0.s.toArray⟩) ∧ W'.cell? ⟨w4.heap.size, 4, none⟩ = some (.slice X0.a X0.l.length X0.cap) ∧ W'.cell? ⟨w6.heap.size, 0, none⟩ = some (.int .i64 X1.k) ∧ W'.cell? ⟨w6.heap.size, 1, none⟩ = some (.int .i64 X1.n) ∧ W'.cell? ⟨w6.heap.size, 2, none⟩ = some (.int .i64 X1.x) ∧ W'.cell? ⟨w6.heap.size, 3, none⟩ = some (.string ⟨X1.s.toArray⟩) ∧ W'.cell? ⟨w6.heap.size, 4, none⟩ = some (.slice X1.a X1.l.length X1.cap) ∧ Below w.heap.size w W' ∧ X0.Own W' w.heap.size ∧ X1.Own W' w.heap.size) ((refine ⟨?_, ?_, ?_, ?_, ?_, ?_, ?_, ?_, ?_, ?_, ?_, ?_, ?_, ?_, ?_, ?_, ?_, ?_, ?_, ?_, ?_, ?_, ?_⟩ <;> first | assumption | (refine Below.drew ?_; assumption) | (refine AT.Own.drew ?_; assumption) | exact keep_below (by assumption) (by assumption) | exact below_tr (by assumption) (by assumption) | exact own_blw (by assumption) (by assumption))) ((first | (go_at_call 11; go_split_ands; ((with_reducible refine (HTVT.out _ (by assumption)).mono ?_); rintro e u1 ⟨Y1, hpu1, rfl, hou1, hnu1, hbu1⟩; have HOu1 := Lib.hid hou1; have HPu1 := Lib.hid hpu1; clear hou1 hnu1 hpu1)) | (go_at_call 13; go_split_ands; refine (HEQT.out X0 Y1 HPX0.out HPu1.out _ (AT.Own.in (by assumption)) HOu1.out.in).mono ?_; rintro e v1 ⟨rfl, hbv1⟩)))
  go_split_ands
  replace c0 : v1.cell? ⟨w.heap.size, 0, none⟩ = some (.int .i64 T.k) := by assumption
  replace c1 : v1.cell? ⟨w.heap.size, 1, none⟩ = some (.int .i64 T.n) := by assumption
  replace c2 : v1.cell? ⟨w.heap.size, 2, none⟩ = some (.int .i64 T.x) := by assumption
  replace c3 : v1.cell? ⟨w.heap.size, 3, none⟩ = some (.string ⟨T.s.toArray⟩) := by assumption
  replace c4 : v1.cell? ⟨w.heap.size, 4, none⟩ = some (.slice T.a T.l.length T.cap) := by assumption
  replace d0 : v1.cell? ⟨w.heap.size + 1, 0, none⟩ = some (.int .i64 U.k) := by assumption
  replace d1 : v1.cell? ⟨w.heap.size + 1, 1, none⟩ = some (.int .i64 U.n) := by assumption
  replace d2 : v1.cell? ⟨w.heap.size + 1, 2, none⟩ = some (.int .i64 U.x) := by assumption
  replace d3 : v1.cell? ⟨w.heap.size + 1, 3, none⟩ = some (.string ⟨U.s.toArray⟩) := by assumption
  replace d4 : v1.cell? ⟨w.heap.size + 1, 4, none⟩ = some (.slice U.a U.l.length U.cap) := by assumption
  replace p0 : v1.cell? ⟨w4.heap.size, 0, none⟩ = some (.int .i64 X0.k) := by assumption
  replace p1 : v1.cell? ⟨w4.heap.size, 1, none⟩ = some (.int .i64 X0.n) := by assumption
  replace p2 : v1.cell? ⟨w4.heap.size, 2, none⟩ = some (.int .i64 X0.x) := by assumption
  replace p3 : v1.cell? ⟨w4.heap.size, 3, none⟩ = some (.string ⟨X0.s.toArray⟩) := by assumption
  replace p4 : v1.cell? ⟨w4.heap.size, 4, none⟩ = some (.slice X0.a X0.l.length X0.cap) := by assumption
  replace q0 : v1.cell? ⟨w6.heap.size, 0, none⟩ = some (.int .i64 X1.k) := by assumption
  replace q1 : v1.cell? ⟨w6.heap.size, 1, none⟩ = some (.int .i64 X1.n) := by assumption
  replace q2 : v1.cell? ⟨w6.heap.size, 2, none⟩ = some (.int .i64 X1.x) := by assumption
  replace q3 : v1.cell? ⟨w6.heap.size, 3, none⟩ = some (.string ⟨X1.s.toArray⟩) := by assumption
  replace q4 : v1.cell? ⟨w6.heap.size, 4, none⟩ = some (.slice X1.a X1.l.length X1.cap) := by assumption
  have HB9 : Hid (Below w.heap.size w v1) := Lib.hid (by assumption)
  have HOX0_9 : Hid (X0.Own v1 w.heap.size) := Lib.hid (by assumption)
  have HOX1_9 : Hid (X1.Own v1 w.heap.size) := Lib.hid (by assumption)
  clear hbel hownX0 hownX1
  go_wp2_with fail
  have hownX0 := HOX0_9.out
  have hownX1 := HOX1_9.out
  have hbel := HB9.out
  go_region_held3 (fun W' => W'.cell? ⟨w.heap.size, 0, none⟩ = some (.int .i64 T.k) ∧ W'.cell? ⟨w.heap.size, 1, none⟩ = some (.int .i64 T.n) ∧ W'.cell? ⟨w.heap.size, 2, none⟩ = some (.int .i64 T.x) ∧ W'.cell? ⟨w.heap.size, 3, none⟩ = some (.string ⟨T.s.toArray⟩) ∧ W'.cell? ⟨w.heap.size, 4, none⟩ = some (.slice T.a T.l.length T.cap) ∧ W'.cell? ⟨w.heap.size + 1, 0, none⟩ = some (.int .i64 U.k) ∧ W'.cell? ⟨w.heap.size + 1, 1, none⟩ = some (.int .i64 U.n) ∧ W'.cell? ⟨w.heap.size + 1, 2, none⟩ = some (.int .i64 U.x) ∧ W'.cell? ⟨w.heap.size + 1, 3, none⟩ = some (.string ⟨U.s.toArray⟩) ∧ W'.cell? ⟨w.heap.size + 1, 4, none⟩ = some (.slice U.a U.l.length U.cap) ∧ W'.cell? ⟨w4.heap.size, 0, none⟩ = some (.int .i64 X0.k) ∧ W'.cell? ⟨w4.heap.size, 1, none⟩ = some (.int .i64 X0.n) ∧ W'.cell? ⟨w4.heap.size, 2, none⟩ = some (.int .i64 X0.x) ∧ W'.cell? ⟨w4.heap.size, 3, none⟩ = some (.string ⟨X0.s.toArray⟩) ∧ W'.cell? ⟨w4.heap.size, 4, none⟩ = some (.slice X0.a X0.l.length X0.cap) ∧ W'.cell? ⟨w6.heap.size, 0, none⟩ = some (.int .i64 X1.k) ∧ W'.cell? ⟨w6.heap.size, 1, none⟩ = some (.int .i64 X1.n) ∧ W'.cell? ⟨w6.heap.size, 2, none⟩ = some (.int .i64 X1.x) ∧ W'.cell? ⟨w6.heap.size, 3, none⟩ = some (.string ⟨X1.s.toArray⟩) ∧ W'.cell? ⟨w6.heap.size, 4, none⟩ = some (.slice X1.a X1.l.length X1.cap) ∧ Below w.heap.size w W' ∧ X0.Own W' w.heap.size ∧ X1.Own W' w.heap.size) ((refine ⟨?_, ?_, ?_, ?_, ?_, ?_, ?_, ?_, ?_, ?_, ?_, ?_, ?_, ?_, ?_, ?_, ?_, ?_, ?_, ?_, ?_, ?_, ?_⟩ <;> first | assumption | (refine Below.drew ?_; assumption) | (refine AT.Own.drew ?_; assumption) | exact keep_below (by assumption) (by assumption) | exact below_tr (by assumption) (by assumption) | exact own_blw (by assumption) (by assumption))) ((first | (go_at_call 11; go_split_ands; ((with_reducible refine (HTVU.out _ (by assumption)).mono ?_); rintro e u2 ⟨Y2, hpu2, rfl, hou2, hnu2, hbu2⟩; have HOu2 := Lib.hid hou2; have HPu2 := Lib.hid hpu2; clear hou2 hnu2 hpu2)) | (go_at_call 13; go_split_ands; refine (HEQU.out X1 Y2 HPX1.out HPu2.out _ (AT.Own.in (by assumption)) HOu2.out.in).mono ?_; rintro e v2 ⟨rfl, hbv2⟩)))
  go_split_ands
  replace c0 : v2.cell? ⟨w.heap.size, 0, none⟩ = some (.int .i64 T.k) := by assumption
  replace c1 : v2.cell? ⟨w.heap.size, 1, none⟩ = some (.int .i64 T.n) := by assumption
  replace c2 : v2.cell? ⟨w.heap.size, 2, none⟩ = some (.int .i64 T.x) := by assumption
  replace c3 : v2.cell? ⟨w.heap.size, 3, none⟩ = some (.string ⟨T.s.toArray⟩) := by assumption
  replace c4 : v2.cell? ⟨w.heap.size, 4, none⟩ = some (.slice T.a T.l.length T.cap) := by assumption
  replace d0 : v2.cell? ⟨w.heap.size + 1, 0, none⟩ = some (.int .i64 U.k) := by assumption
  replace d1 : v2.cell? ⟨w.heap.size + 1, 1, none⟩ = some (.int .i64 U.n) := by assumption
  replace d2 : v2.cell? ⟨w.heap.size + 1, 2, none⟩ = some (.int .i64 U.x) := by assumption
  replace d3 : v2.cell? ⟨w.heap.size + 1, 3, none⟩ = some (.string ⟨U.s.toArray⟩) := by assumption
  replace d4 : v2.cell? ⟨w.heap.size + 1, 4, none⟩ = some (.slice U.a U.l.length U.cap) := by assumption
  replace p0 : v2.cell? ⟨w4.heap.size, 0, none⟩ = some (.int .i64 X0.k) := by assumption
  replace p1 : v2.cell? ⟨w4.heap.size, 1, none⟩ = some (.int .i64 X0.n) := by assumption
  replace p2 : v2.cell? ⟨w4.heap.size, 2, none⟩ = some (.int .i64 X0.x) := by assumption
  replace p3 : v2.cell? ⟨w4.heap.size, 3, none⟩ = some (.string ⟨X0.s.toArray⟩) := by assumption
  replace p4 : v2.cell? ⟨w4.heap.size, 4, none⟩ = some (.slice X0.a X0.l.length X0.cap) := by assumption
  replace q0 : v2.cell? ⟨w6.heap.size, 0, none⟩ = some (.int .i64 X1.k) := by assumption
  replace q1 : v2.cell? ⟨w6.heap.size, 1, none⟩ = some (.int .i64 X1.n) := by assumption
  replace q2 : v2.cell? ⟨w6.heap.size, 2, none⟩ = some (.int .i64 X1.x) := by assumption
  replace q3 : v2.cell? ⟨w6.heap.size, 3, none⟩ = some (.string ⟨X1.s.toArray⟩) := by assumption
  replace q4 : v2.cell? ⟨w6.heap.size, 4, none⟩ = some (.slice X1.a X1.l.length X1.cap) := by assumption
  have HB10 : Hid (Below w.heap.size w v2) := Lib.hid (by assumption)
  have HOX0_10 : Hid (X0.Own v2 w.heap.size) := Lib.hid (by assumption)
  have HOX1_10 : Hid (X1.Own v2 w.heap.size) := Lib.hid (by assumption)
  clear hbel hownX0 hownX1
  go_wp2
  go_ret
  exact ⟨rfl, HB10.out⟩
theorem walk (T : AT) (U : AT) (w : World) (hinT : T.In w w.heap.size) (hwfT : T.pt.Wf) (hinU : U.In w w.heap.size) (hwfU : U.pt.Wf) (hTz : Tz w) : Calls Tryd.prog 6 #[T.val, U.val] w fun e w' => e = .returned (.bool true) ∧ Below w.heap.size w w' := by
  by_cases hzT : T.pt.sz ≤ 1048576
  case neg => exact big1 T U w hinT hwfT hinU hwfU hTz hzT
  by_cases hzU : U.pt.sz ≤ 1048576 - T.pt.sz
  case neg => exact big2 T U w hinT hwfT hinU hwfU hTz hzT hzU
  exact main T U w hinT hwfT hinU hwfU hTz hzT hzU

set_option maxRecDepth 100000 in
theorem contract (H : Type) (enc : TypeId × Value → H) (W : World) (base : Nat) (args : Array Value) (ds gs : List (DataW H)) (before : List MemPlace)
    (hval : ∀ (j : Nat) t v, Tryd.f6.params[j]? = some t → args[j]? = some v → Value.okWide Tryd.prog W .any base t v)
    (hW : DataW.Whole enc Tryd.prog Tryd.f6.params.toList Rows.fnExactLessTightSpec.vars false W args.toList ds gs before)
    (hcond : ∀ k, (OpenSpec.ofChange Rows.fnExactLessTightSpec).cond = some k → k H (ds ++ gs) = true)
    (hsz : (DataW.weightsEach Tryd.prog (Tryd.f6.params.toList ++ (OpenSpec.ofChange Rows.fnExactLessTightSpec).bare.plain.varTypes Tryd.prog) (ds ++ gs)).all (· ≤ reachBytes) = true)
    (hL : laidMetH Tryd.prog Rows.fnExactLessTightRow.laid W) :
    Calls Tryd.prog 6 args W fun e W' => ∃ v, e = .returned v ∧ Rows.fnExactLessTightSpec.post enc Tryd.prog Tryd.f6 false true false false W args v W' := by
  have hW' := hW
  have hlt := hW'.lt
  obtain ⟨p, q, hA0, hV, rfl, hfz, hnd⟩ := hW
  have hA : DataW.TrodAll enc Tryd.prog W 0 (fun _ => true) true Tryd.f6.params.toList args.toList ds p := hA0
  rw [Tryd.params6] at hA hval hsz
  obtain ⟨v0, vs0, d0, ds0, p0, q0, hargs, rfl, rfl, h0, r0⟩ := trodAll_cons hA
  obtain ⟨v1, vs1, d1, ds1, p1, q1, rfl, rfl, rfl, h1, r1⟩ := trodAll_cons r0
  obtain ⟨rfl, rfl, rfl⟩ := trodAll_nil r1
  obtain rfl : args = #[v0, v1] := by cases args; simp_all
  obtain ⟨rfl, rfl⟩ := trodVars_none hV
  simp only [List.append_nil] at hW' hlt
  have hlt0 : ∀ x ∈ p0, x.block < W.heap.size := fun x hx => hlt x (by simp [hx])
  have hlt1 : ∀ x ∈ p1, x.block < W.heap.size := fun x hx => hlt x (by simp [hx])
  have hk0 := h0
  have hk1 := h1
  obtain ⟨T0, rfl, hin0, hwf0⟩ := open_val (hval 0 24 v0 rfl rfl) h0
  obtain ⟨T1, rfl, hin1, hwf1⟩ := open_val (hval 1 24 v1 rfl rfl) h1
  clear hA0 hA
  have fin : ∀ W' : World, Below W.heap.size W W' → Rows.fnExactLessTightSpec.post enc Tryd.prog Tryd.f6 false true false false W _ (.bool true) W' := fun W' hb =>
    ⟨_, _, _, [], _, [], hW', trodAll_mk1 (shut_bool Tryd.underlying4 _), (trodAll_cons_mk (Below.trod laidOut (by kernel_rfl) (of_decide_eq_true (by kernel_rfl)) hk0 hb hlt0) (trodAll_cons_mk (Below.trod laidOut (by kernel_rfl) (of_decide_eq_true (by kernel_rfl)) hk1 hb hlt1) trodAll_mk0)), rfl, hb.frame _, fun h => by cases h⟩
  refine Calls.mono (R := fun e w' => e = .returned (.bool true) ∧ Below W.heap.size W w') ?_ (fun e W' h => ⟨_, h.1, fin W' h.2⟩)
  clear fin
  exact walk T0 T1 W hin0 hwf0 hin1 hwf1 (tabs_tz hL)

theorem laid_met (os : Os) : laidMet Tryd.prog Rows.fnExactLessTightRow.laid (((World.doorLaid Tryd.prog 4000 os)).forCall (fun _ _ => 0) ⟨#[], #[.agg #[.int .i64 0, .int .i64 0, .int .i64 0, .string ⟨#[]⟩, .slice none 0 0], .agg #[.int .i64 0, .int .i64 0, .int .i64 0, .string ⟨#[]⟩, .slice none 0 0]], []⟩).memory :=
  (laidMet_of_run' 8 (by kernel_rfl) (by kernel_rfl))
theorem reads (os : Os) {H : Type} (enc : TypeId × Value → H) : ∃ places, DataW.whole enc Tryd.prog (((World.doorLaid Tryd.prog 4000 os)).forCall (fun _ _ => 0) ⟨#[], #[.agg #[.int .i64 0, .int .i64 0, .int .i64 0, .string ⟨#[]⟩, .slice none 0 0], .agg #[.int .i64 0, .int .i64 0, .int .i64 0, .string ⟨#[]⟩, .slice none 0 0]], []⟩).memory Tryd.f6.params.toList Rows.fnExactLessTightSpec.vars false (#[.agg #[.int .i64 0, .int .i64 0, .int .i64 0, .string ⟨#[]⟩, .slice none 0 0], .agg #[.int .i64 0, .int .i64 0, .int .i64 0, .string ⟨#[]⟩, .slice none 0 0]] : Array Value).toList 8 = some ([.agg [.lit (.int .i64 0), .lit (.int .i64 0), .lit (.int .i64 0), .lit (.string []), .nil], .agg [.lit (.int .i64 0), .lit (.int .i64 0), .lit (.int .i64 0), .lit (.string []), .nil]], [], places) :=
  ⟨[], by kernel_rfl⟩

set_option maxRecDepth 100000 in
theorem lifted (os : Os) (started : os.Started) (H : Type) (enc : TypeId × Value → H) (F : Stop.Interp) :
    ReturnsInHanded {} Tryd.checked os 6 .any ((OpenSpec.ofChange Rows.fnExactLessTightSpec).preRow enc Tryd.prog Tryd.f6 Rows.fnExactLessTightRow.domain false Rows.fnExactLessTightRow.laid) (((OpenSpec.ofChange Rows.fnExactLessTightSpec).at F).post enc Tryd.prog Tryd.f6 false true false false) := by
  obtain ⟨places, hx⟩ := reads os enc
  refine returnsInHanded_of_row (C := Tryd.checked) (s := OpenSpec.ofChange Rows.fnExactLessTightSpec) own started (by kernel_rfl) Tryd.func6
    (witness_row_atRef (enc := enc) (C := Tryd.checked) false (World.doorLaid Tryd.prog 4000 os) #[.agg #[.int .i64 0, .int .i64 0, .int .i64 0, .string ⟨#[]⟩, .slice none 0 0], .agg #[.int .i64 0, .int .i64 0, .int .i64 0, .string ⟨#[]⟩, .slice none 0 0]] rfl (by kernel_rfl) (by kernel_rfl) (by kernel_rfl)
      (OpenSpec.preRow_of_cond 8 hx (by kernel_rfl) (fun k hk => by cases hk) (by kernel_rfl) (laid_met os))) ?_
  intro W base args ds gs before hval hW _ hcond hsz hL _ _
  exact contract H enc W base args ds gs before hval hW hcond hsz hL

theorem said : Rows.FnExactLessTightSaid :=
  OpenClaim.holds_of_cond 6 Tryd.f6 rfl rfl rfl rfl rfl rfl rfl ⟨rfl, rfl, rfl, rfl, rfl⟩ rfl rfl rfl rfl rfl (by kernel_rfl) Tryd.func6 (by kernel_rfl)
    (of_decide_eq_true (by kernel_rfl)) (by unfold Func.isWrapper; first | (rw [if_pos (by decide +kernel)]; kernel_rfl) | (rw [if_neg (by decide +kernel)]; exact ⟨rfl, rfl⟩))
    (fun os started H enc _ F => by rw [OpenClaim.pre_eq_preRow]; exact lifted os started H enc F)

theorem plain (f : FuncId) (fn : Func) (hf : Tryd.pinned.checked.prog.funcNamed Rows.fnExactLessTightRow.func = some f) (hfn : Tryd.pinned.checked.prog.funcs[f]? = some fn) :
    true = Tryd.pinned.checked.prog.looks [] ∧ ∀ (j : Nat) t, fn.params[j]? = some t → Tryd.pinned.checked.prog.wantsStandIn t = false := by
  obtain rfl : f = 6 := Option.some.inj ((show Tryd.prog.funcNamed Rows.fnExactLessTightRow.func = some 6 by kernel_rfl).symm.trans hf) |>.symm
  obtain rfl : fn = Tryd.f6 := (Option.some.inj (Tryd.func6.symm.trans hfn)).symm
  refine ⟨by kernel_rfl, fun j t ht => ?_⟩
  rw [Tryd.params6] at ht
  have hm : t ∈ [24, 24] := by simpa using Array.mem_of_getElem? ht
  have hall : ([24, 24].all fun u => !Tryd.prog.wantsStandIn u) = true := by kernel_rfl
  exact (show Tryd.prog.wantsStandIn t = false by simpa using List.all_eq_true.1 hall t hm)

theorem proved : Rows.FnExactLessTightCardSaid :=
  Claim7.holds_tied_plain_at .later [] _ _ _ _ said (fun _ h => by cases h) (by kernel_rfl) (fun _ h => by cases h) fnExactLessTight_row_tie rfl ⟨rfl, rfl⟩ (by kernel_rfl) rfl plain (by kernel_rfl)
#print axioms proved
end Go.Proofs.YtilgncebhgplaaaDoor.fnExactLessTight
