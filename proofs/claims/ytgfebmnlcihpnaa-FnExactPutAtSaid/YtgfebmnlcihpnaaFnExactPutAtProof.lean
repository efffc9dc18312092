/- For every input the law FnExactPutAt returns true and its arguments read afterwards as they read before; beside what the row states there is no condition. -/
import Derived.Test.YtgfebmnlcihpnaaRows
import Derived.WalkKit
import Derived.ProofKit
import Derived.OpenShut
import Derived.SizedLaws
import Derived.Carry
import Derived.Deep.DeepHandedRow


import Derived.Lib.LaidTab
import Derived.Stop.LaidErr
import Derived.Test.YtgfebmnlcihpnaaSz
import Derived.Test.YtgfebmnlcihpnaaOpen
import Derived.Test.YtgfebmnlcihpnaaOpenStep
import Derived.Test.YtgfebmnlcihpnaaToVal
import Derived.Test.YtgfebmnlcihpnaaEqVal
import Derived.Test.YtgfebmnlcihpnaaKeepVal
import Derived.Test.YtgfebmnlcihpnaaMarkLaw
import Derived.Test.YtgfebmnlcihpnaaStepRow
import Derived.Test.YtgfebmnlcihpnaaPutSpec
import Derived.Test.YtgfebmnlcihpnaaPutImpl
import Derived.Test.YtgfebmnlcihpnaaMarkTwo
import Derived.Deep.DeepCutAuto
import Derived.Deep.RegionHeld3

namespace Go.Proofs.Ytgfebmnlcihpnaa.fnExactPutAt
open Go.ChangeShapes Go.WideShapes Go.ChangeAt Go.RowKit
open Go.ChangeMaps (open_string shut_string)
set_option linter.unusedVariables false

theorem own : ownKnob Try.prog.godebug = none := by kernel_rfl
theorem laidOut : laidOutB Try.prog = true := by kernel_rfl

set_option maxHeartbeats 1000000 in
theorem big1 (T : AT) (lP : List St) (aP : Option Addr) (capP : Nat) (U : AT) (w : World) (hinT : T.In w w.heap.size) (hwfT : T.pt.Wf) (hsP : SAt w w.heap.size aP capP lP) (hlP : lP.length ≤ 9223372036854775807) (hinU : U.In w w.heap.size) (hwfU : U.pt.Wf)  (hzT : ¬ T.pt.sz ≤ 1048576) : Calls Try.prog 13 #[T.val, .slice aP lP.length capP, U.val] w fun e w' => e = .returned (.bool true) ∧ Below w.heap.size w w' := by
  have HSZT := Lib.hid (fun (w1 : World) (hb : Below w.heap.size w w1) => szVal_any T hwfT w1 w.heap.size (1048576) (hinT.blw hb (Nat.le_refl _)) hb.size (by omega))
  have HRT : Hid (szR T.pt.sz (1048576) = -1) := Lib.hid (by unfold szR; rw [if_neg hzT])
  clear hinT hwfT hsP hlP hinU hwfU hzT
  show Calls Try.prog 13 #[.agg #[.int .i64 T.k, .int .i64 T.n, .int .i64 T.x, .string ⟨T.s.toArray⟩, .slice T.a T.l.length T.cap], .slice aP lP.length capP, .agg #[.int .i64 U.k, .int .i64 U.n, .int .i64 U.x, .string ⟨U.s.toArray⟩, .slice U.a U.l.length U.cap]] w _
  go_enter Try.func13, Try.ntmps13
  go_wp2_with fail
  have hbox : Below w.heap.size w ((w.alloc (.cells #[.int .i64 T.k, .int .i64 T.n, .int .i64 T.x, .string ⟨T.s.toArray⟩, .slice T.a T.l.length T.cap] 57)).alloc (.cells #[.int .i64 U.k, .int .i64 U.n, .int .i64 U.x, .string ⟨U.s.toArray⟩, .slice U.a U.l.length U.cap] 57)) := boxes2 w (.cells #[.int .i64 T.k, .int .i64 T.n, .int .i64 T.x, .string ⟨T.s.toArray⟩, .slice T.a T.l.length T.cap] 57) (.cells #[.int .i64 U.k, .int .i64 U.n, .int .i64 U.x, .string ⟨U.s.toArray⟩, .slice U.a U.l.length U.cap] 57)
  have hc : ((w.alloc (.cells #[.int .i64 T.k, .int .i64 T.n, .int .i64 T.x, .string ⟨T.s.toArray⟩, .slice T.a T.l.length T.cap] 57)).alloc (.cells #[.int .i64 U.k, .int .i64 U.n, .int .i64 U.x, .string ⟨U.s.toArray⟩, .slice U.a U.l.length U.cap] 57)).cell? ⟨w.heap.size, 0, none⟩ = some (.int .i64 T.k) ∧ ((w.alloc (.cells #[.int .i64 T.k, .int .i64 T.n, .int .i64 T.x, .string ⟨T.s.toArray⟩, .slice T.a T.l.length T.cap] 57)).alloc (.cells #[.int .i64 U.k, .int .i64 U.n, .int .i64 U.x, .string ⟨U.s.toArray⟩, .slice U.a U.l.length U.cap] 57)).cell? ⟨w.heap.size, 1, none⟩ = some (.int .i64 T.n) ∧ ((w.alloc (.cells #[.int .i64 T.k, .int .i64 T.n, .int .i64 T.x, .string ⟨T.s.toArray⟩, .slice T.a T.l.length T.cap] 57)).alloc (.cells #[.int .i64 U.k, .int .i64 U.n, .int .i64 U.x, .string ⟨U.s.toArray⟩, .slice U.a U.l.length U.cap] 57)).cell? ⟨w.heap.size, 2, none⟩ = some (.int .i64 T.x) ∧ ((w.alloc (.cells #[.int .i64 T.k, .int .i64 T.n, .int .i64 T.x, .string ⟨T.s.toArray⟩, .slice T.a T.l.length T.cap] 57)).alloc (.cells #[.int .i64 U.k, .int .i64 U.n, .int .i64 U.x, .string ⟨U.s.toArray⟩, .slice U.a U.l.length U.cap] 57)).cell? ⟨w.heap.size, 3, none⟩ = some (.string ⟨T.s.toArray⟩) ∧ ((w.alloc (.cells #[.int .i64 T.k, .int .i64 T.n, .int .i64 T.x, .string ⟨T.s.toArray⟩, .slice T.a T.l.length T.cap] 57)).alloc (.cells #[.int .i64 U.k, .int .i64 U.n, .int .i64 U.x, .string ⟨U.s.toArray⟩, .slice U.a U.l.length U.cap] 57)).cell? ⟨w.heap.size, 4, none⟩ = some (.slice T.a T.l.length T.cap) := by refine ⟨?_, ?_, ?_, ?_, ?_⟩ <;> simp [go_sem]
  obtain ⟨c0, c1, c2, c3, c4⟩ := hc
  have hd : ((w.alloc (.cells #[.int .i64 T.k, .int .i64 T.n, .int .i64 T.x, .string ⟨T.s.toArray⟩, .slice T.a T.l.length T.cap] 57)).alloc (.cells #[.int .i64 U.k, .int .i64 U.n, .int .i64 U.x, .string ⟨U.s.toArray⟩, .slice U.a U.l.length U.cap] 57)).cell? ⟨w.heap.size + 1, 0, none⟩ = some (.int .i64 U.k) ∧ ((w.alloc (.cells #[.int .i64 T.k, .int .i64 T.n, .int .i64 T.x, .string ⟨T.s.toArray⟩, .slice T.a T.l.length T.cap] 57)).alloc (.cells #[.int .i64 U.k, .int .i64 U.n, .int .i64 U.x, .string ⟨U.s.toArray⟩, .slice U.a U.l.length U.cap] 57)).cell? ⟨w.heap.size + 1, 1, none⟩ = some (.int .i64 U.n) ∧ ((w.alloc (.cells #[.int .i64 T.k, .int .i64 T.n, .int .i64 T.x, .string ⟨T.s.toArray⟩, .slice T.a T.l.length T.cap] 57)).alloc (.cells #[.int .i64 U.k, .int .i64 U.n, .int .i64 U.x, .string ⟨U.s.toArray⟩, .slice U.a U.l.length U.cap] 57)).cell? ⟨w.heap.size + 1, 2, none⟩ = some (.int .i64 U.x) ∧ ((w.alloc (.cells #[.int .i64 T.k, .int .i64 T.n, .int .i64 T.x, .string ⟨T.s.toArray⟩, .slice T.a T.l.length T.cap] 57)).alloc (.cells #[.int .i64 U.k, .int .i64 U.n, .int .i64 U.x, .string ⟨U.s.toArray⟩, .slice U.a U.l.length U.cap] 57)).cell? ⟨w.heap.size + 1, 3, none⟩ = some (.string ⟨U.s.toArray⟩) ∧ ((w.alloc (.cells #[.int .i64 T.k, .int .i64 T.n, .int .i64 T.x, .string ⟨T.s.toArray⟩, .slice T.a T.l.length T.cap] 57)).alloc (.cells #[.int .i64 U.k, .int .i64 U.n, .int .i64 U.x, .string ⟨U.s.toArray⟩, .slice U.a U.l.length U.cap] 57)).cell? ⟨w.heap.size + 1, 4, none⟩ = some (.slice U.a U.l.length U.cap) := by refine ⟨?_, ?_, ?_, ?_, ?_⟩ <;> simp [go_sem]
  obtain ⟨d0, d1, d2, d3, d4⟩ := hd
  generalize ((w.alloc (.cells #[.int .i64 T.k, .int .i64 T.n, .int .i64 T.x, .string ⟨T.s.toArray⟩, .slice T.a T.l.length T.cap] 57)).alloc (.cells #[.int .i64 U.k, .int .i64 U.n, .int .i64 U.x, .string ⟨U.s.toArray⟩, .slice U.a U.l.length U.cap] 57)) = w0 at *
  have HB0 := Lib.hid hbox
  clear hbox
  refine (HSZT.out _ HB0.out).mono ?_
  rintro e w1 ⟨rfl, hb1⟩
  have HB1 := Lib.hid (HB0.out.trans (hb1.mono HB0.out.size))
  replace c0 := keep_below hb1 c0
  replace c1 := keep_below hb1 c1
  replace c2 := keep_below hb1 c2
  replace c3 := keep_below hb1 c3
  replace c4 := keep_below hb1 c4
  replace d0 := keep_below hb1 d0
  replace d1 := keep_below hb1 d1
  replace d2 := keep_below hb1 d2
  replace d3 := keep_below hb1 d3
  replace d4 := keep_below hb1 d4
  clear hb1
  rw [HRT.out]
  go_wp2
  go_ret
  exact ⟨rfl, HB1.out⟩
set_option maxHeartbeats 1000000 in
theorem big2 (T : AT) (lP : List St) (aP : Option Addr) (capP : Nat) (U : AT) (w : World) (hinT : T.In w w.heap.size) (hwfT : T.pt.Wf) (hsP : SAt w w.heap.size aP capP lP) (hlP : lP.length ≤ 9223372036854775807) (hinU : U.In w w.heap.size) (hwfU : U.pt.Wf) (hzT : T.pt.sz ≤ 1048576) (hzP : ¬ lP.length ≤ 1048576 - T.pt.sz) : Calls Try.prog 13 #[T.val, .slice aP lP.length capP, U.val] w fun e w' => e = .returned (.bool true) ∧ Below w.heap.size w w' := by
  have HSZT := Lib.hid (fun (w1 : World) (hb : Below w.heap.size w w1) => szVal_any T hwfT w1 w.heap.size (1048576) (hinT.blw hb (Nat.le_refl _)) hb.size (by omega))
  have HRT : Hid (szR T.pt.sz (1048576) = ((1048576 - T.pt.sz : Nat) : Int)) := Lib.hid (by unfold szR; rw [if_pos hzT]; omega)
  have hnegT : ¬ (((1048576 - T.pt.sz : Nat) : Int) < 0) := by omega
  have HSZP := Lib.hid (fun (w1 : World) (hb : Below w.heap.size w w1) => szStepS_any lP aP capP (1048576 - T.pt.sz) w1 hlP (by omega))
  have HRP : Hid (szR lP.length (1048576 - T.pt.sz) = -1) := Lib.hid (by unfold szR; rw [if_neg hzP])
  clear hinT hwfT hsP hlP hinU hwfU hzT hzP
  generalize 1048576 - T.pt.sz = leftT at *
  show Calls Try.prog 13 #[.agg #[.int .i64 T.k, .int .i64 T.n, .int .i64 T.x, .string ⟨T.s.toArray⟩, .slice T.a T.l.length T.cap], .slice aP lP.length capP, .agg #[.int .i64 U.k, .int .i64 U.n, .int .i64 U.x, .string ⟨U.s.toArray⟩, .slice U.a U.l.length U.cap]] w _
  go_enter Try.func13, Try.ntmps13
  go_wp2_with fail
  have hbox : Below w.heap.size w ((w.alloc (.cells #[.int .i64 T.k, .int .i64 T.n, .int .i64 T.x, .string ⟨T.s.toArray⟩, .slice T.a T.l.length T.cap] 57)).alloc (.cells #[.int .i64 U.k, .int .i64 U.n, .int .i64 U.x, .string ⟨U.s.toArray⟩, .slice U.a U.l.length U.cap] 57)) := boxes2 w (.cells #[.int .i64 T.k, .int .i64 T.n, .int .i64 T.x, .string ⟨T.s.toArray⟩, .slice T.a T.l.length T.cap] 57) (.cells #[.int .i64 U.k, .int .i64 U.n, .int .i64 U.x, .string ⟨U.s.toArray⟩, .slice U.a U.l.length U.cap] 57)
  have hc : ((w.alloc (.cells #[.int .i64 T.k, .int .i64 T.n, .int .i64 T.x, .string ⟨T.s.toArray⟩, .slice T.a T.l.length T.cap] 57)).alloc (.cells #[.int .i64 U.k, .int .i64 U.n, .int .i64 U.x, .string ⟨U.s.toArray⟩, .slice U.a U.l.length U.cap] 57)).cell? ⟨w.heap.size, 0, none⟩ = some (.int .i64 T.k) ∧ ((w.alloc (.cells #[.int .i64 T.k, .int .i64 T.n, .int .i64 T.x, .string ⟨T.s.toArray⟩, .slice T.a T.l.length T.cap] 57)).alloc (.cells #[.int .i64 U.k, .int .i64 U.n, .int .i64 U.x, .string ⟨U.s.toArray⟩, .slice U.a U.l.length U.cap] 57)).cell? ⟨w.heap.size, 1, none⟩ = some (.int .i64 T.n) ∧ ((w.alloc (.cells #[.int .i64 T.k, .int .i64 T.n, .int .i64 T.x, .string ⟨T.s.toArray⟩, .slice T.a T.l.length T.cap] 57)).alloc (.cells #[.int .i64 U.k, .int .i64 U.n, .int .i64 U.x, .string ⟨U.s.toArray⟩, .slice U.a U.l.length U.cap] 57)).cell? ⟨w.heap.size, 2, none⟩ = some (.int .i64 T.x) ∧ ((w.alloc (.cells #[.int .i64 T.k, .int .i64 T.n, .int .i64 T.x, .string ⟨T.s.toArray⟩, .slice T.a T.l.length T.cap] 57)).alloc (.cells #[.int .i64 U.k, .int .i64 U.n, .int .i64 U.x, .string ⟨U.s.toArray⟩, .slice U.a U.l.length U.cap] 57)).cell? ⟨w.heap.size, 3, none⟩ = some (.string ⟨T.s.toArray⟩) ∧ ((w.alloc (.cells #[.int .i64 T.k, .int .i64 T.n, .int .i64 T.x, .string ⟨T.s.toArray⟩, .slice T.a T.l.length T.cap] 57)).alloc (.cells #[.int .i64 U.k, .int .i64 U.n, .int .i64 U.x, .string ⟨U.s.toArray⟩, .slice U.a U.l.length U.cap] 57)).cell? ⟨w.heap.size, 4, none⟩ = some (.slice T.a T.l.length T.cap) := by refine ⟨?_, ?_, ?_, ?_, ?_⟩ <;> simp [go_sem]
  obtain ⟨c0, c1, c2, c3, c4⟩ := hc
  have hd : ((w.alloc (.cells #[.int .i64 T.k, .int .i64 T.n, .int .i64 T.x, .string ⟨T.s.toArray⟩, .slice T.a T.l.length T.cap] 57)).alloc (.cells #[.int .i64 U.k, .int .i64 U.n, .int .i64 U.x, .string ⟨U.s.toArray⟩, .slice U.a U.l.length U.cap] 57)).cell? ⟨w.heap.size + 1, 0, none⟩ = some (.int .i64 U.k) ∧ ((w.alloc (.cells #[.int .i64 T.k, .int .i64 T.n, .int .i64 T.x, .string ⟨T.s.toArray⟩, .slice T.a T.l.length T.cap] 57)).alloc (.cells #[.int .i64 U.k, .int .i64 U.n, .int .i64 U.x, .string ⟨U.s.toArray⟩, .slice U.a U.l.length U.cap] 57)).cell? ⟨w.heap.size + 1, 1, none⟩ = some (.int .i64 U.n) ∧ ((w.alloc (.cells #[.int .i64 T.k, .int .i64 T.n, .int .i64 T.x, .string ⟨T.s.toArray⟩, .slice T.a T.l.length T.cap] 57)).alloc (.cells #[.int .i64 U.k, .int .i64 U.n, .int .i64 U.x, .string ⟨U.s.toArray⟩, .slice U.a U.l.length U.cap] 57)).cell? ⟨w.heap.size + 1, 2, none⟩ = some (.int .i64 U.x) ∧ ((w.alloc (.cells #[.int .i64 T.k, .int .i64 T.n, .int .i64 T.x, .string ⟨T.s.toArray⟩, .slice T.a T.l.length T.cap] 57)).alloc (.cells #[.int .i64 U.k, .int .i64 U.n, .int .i64 U.x, .string ⟨U.s.toArray⟩, .slice U.a U.l.length U.cap] 57)).cell? ⟨w.heap.size + 1, 3, none⟩ = some (.string ⟨U.s.toArray⟩) ∧ ((w.alloc (.cells #[.int .i64 T.k, .int .i64 T.n, .int .i64 T.x, .string ⟨T.s.toArray⟩, .slice T.a T.l.length T.cap] 57)).alloc (.cells #[.int .i64 U.k, .int .i64 U.n, .int .i64 U.x, .string ⟨U.s.toArray⟩, .slice U.a U.l.length U.cap] 57)).cell? ⟨w.heap.size + 1, 4, none⟩ = some (.slice U.a U.l.length U.cap) := by refine ⟨?_, ?_, ?_, ?_, ?_⟩ <;> simp [go_sem]
  obtain ⟨d0, d1, d2, d3, d4⟩ := hd
  generalize ((w.alloc (.cells #[.int .i64 T.k, .int .i64 T.n, .int .i64 T.x, .string ⟨T.s.toArray⟩, .slice T.a T.l.length T.cap] 57)).alloc (.cells #[.int .i64 U.k, .int .i64 U.n, .int .i64 U.x, .string ⟨U.s.toArray⟩, .slice U.a U.l.length U.cap] 57)) = w0 at *
  have HB0 := Lib.hid hbox
  clear hbox
  refine (HSZT.out _ HB0.out).mono ?_
  rintro e w1 ⟨rfl, hb1⟩
  have HB1 := Lib.hid (HB0.out.trans (hb1.mono HB0.out.size))
  replace c0 := keep_below hb1 c0
  replace c1 := keep_below hb1 c1
  replace c2 := keep_below hb1 c2
  replace c3 := keep_below hb1 c3
  replace c4 := keep_below hb1 c4
  replace d0 := keep_below hb1 d0
  replace d1 := keep_below hb1 d1
  replace d2 := keep_below hb1 d2
  replace d3 := keep_below hb1 d3
  replace d4 := keep_below hb1 d4
  clear hb1
  rw [HRT.out]
  go_wp2_with fail
  refine (HSZP.out _ HB1.out).mono ?_
  rintro e w2 ⟨rfl, hb2⟩
  have HB2 := Lib.hid (HB1.out.trans (hb2.mono HB1.out.size))
  replace c0 := keep_below hb2 c0
  replace c1 := keep_below hb2 c1
  replace c2 := keep_below hb2 c2
  replace c3 := keep_below hb2 c3
  replace c4 := keep_below hb2 c4
  replace d0 := keep_below hb2 d0
  replace d1 := keep_below hb2 d1
  replace d2 := keep_below hb2 d2
  replace d3 := keep_below hb2 d3
  replace d4 := keep_below hb2 d4
  clear hb2
  rw [HRP.out]
  go_wp2
  go_ret
  exact ⟨rfl, HB2.out⟩
set_option maxHeartbeats 1000000 in
theorem big3 (T : AT) (lP : List St) (aP : Option Addr) (capP : Nat) (U : AT) (w : World) (hinT : T.In w w.heap.size) (hwfT : T.pt.Wf) (hsP : SAt w w.heap.size aP capP lP) (hlP : lP.length ≤ 9223372036854775807) (hinU : U.In w w.heap.size) (hwfU : U.pt.Wf) (hzT : T.pt.sz ≤ 1048576) (hzP : lP.length ≤ 1048576 - T.pt.sz) (hzU : ¬ U.pt.sz ≤ 1048576 - T.pt.sz - lP.length) : Calls Try.prog 13 #[T.val, .slice aP lP.length capP, U.val] w fun e w' => e = .returned (.bool true) ∧ Below w.heap.size w w' := by
  have HSZT := Lib.hid (fun (w1 : World) (hb : Below w.heap.size w w1) => szVal_any T hwfT w1 w.heap.size (1048576) (hinT.blw hb (Nat.le_refl _)) hb.size (by omega))
  have HRT : Hid (szR T.pt.sz (1048576) = ((1048576 - T.pt.sz : Nat) : Int)) := Lib.hid (by unfold szR; rw [if_pos hzT]; omega)
  have hnegT : ¬ (((1048576 - T.pt.sz : Nat) : Int) < 0) := by omega
  have HSZP := Lib.hid (fun (w1 : World) (hb : Below w.heap.size w w1) => szStepS_any lP aP capP (1048576 - T.pt.sz) w1 hlP (by omega))
  have HRP : Hid (szR lP.length (1048576 - T.pt.sz) = ((1048576 - T.pt.sz - lP.length : Nat) : Int)) := Lib.hid (by unfold szR; rw [if_pos hzP]; omega)
  have hnegP : ¬ (((1048576 - T.pt.sz - lP.length : Nat) : Int) < 0) := by omega
  have HSZU := Lib.hid (fun (w1 : World) (hb : Below w.heap.size w w1) => szVal_any U hwfU w1 w.heap.size (1048576 - T.pt.sz - lP.length) (hinU.blw hb (Nat.le_refl _)) hb.size (by omega))
  have HRU : Hid (szR U.pt.sz (1048576 - T.pt.sz - lP.length) = -1) := Lib.hid (by unfold szR; rw [if_neg hzU])
  clear hinT hwfT hsP hlP hinU hwfU hzT hzP hzU
  generalize 1048576 - T.pt.sz - lP.length = leftP at *
  generalize 1048576 - T.pt.sz = leftT at *
  show Calls Try.prog 13 #[.agg #[.int .i64 T.k, .int .i64 T.n, .int .i64 T.x, .string ⟨T.s.toArray⟩, .slice T.a T.l.length T.cap], .slice aP lP.length capP, .agg #[.int .i64 U.k, .int .i64 U.n, .int .i64 U.x, .string ⟨U.s.toArray⟩, .slice U.a U.l.length U.cap]] w _
  go_enter Try.func13, Try.ntmps13
  go_wp2_with fail
  have hbox : Below w.heap.size w ((w.alloc (.cells #[.int .i64 T.k, .int .i64 T.n, .int .i64 T.x, .string ⟨T.s.toArray⟩, .slice T.a T.l.length T.cap] 57)).alloc (.cells #[.int .i64 U.k, .int .i64 U.n, .int .i64 U.x, .string ⟨U.s.toArray⟩, .slice U.a U.l.length U.cap] 57)) := boxes2 w (.cells #[.int .i64 T.k, .int .i64 T.n, .int .i64 T.x, .string ⟨T.s.toArray⟩, .slice T.a T.l.length T.cap] 57) (.cells #[.int .i64 U.k, .int .i64 U.n, .int .i64 U.x, .string ⟨U.s.toArray⟩, .slice U.a U.l.length U.cap] 57)
  have hc : ((w.alloc (.cells #[.int .i64 T.k, .int .i64 T.n, .int .i64 T.x, .string ⟨T.s.toArray⟩, .slice T.a T.l.length T.cap] 57)).alloc (.cells #[.int .i64 U.k, .int .i64 U.n, .int .i64 U.x, .string ⟨U.s.toArray⟩, .slice U.a U.l.length U.cap] 57)).cell? ⟨w.heap.size, 0, none⟩ = some (.int .i64 T.k) ∧ ((w.alloc (.cells #[.int .i64 T.k, .int .i64 T.n, .int .i64 T.x, .string ⟨T.s.toArray⟩, .slice T.a T.l.length T.cap] 57)).alloc (.cells #[.int .i64 U.k, .int .i64 U.n, .int .i64 U.x, .string ⟨U.s.toArray⟩, .slice U.a U.l.length U.cap] 57)).cell? ⟨w.heap.size, 1, none⟩ = some (.int .i64 T.n) ∧ ((w.alloc (.cells #[.int .i64 T.k, .int .i64 T.n, .int .i64 T.x, .string ⟨T.s.toArray⟩, .slice T.a T.l.length T.cap] 57)).alloc (.cells #[.int .i64 U.k, .int .i64 U.n, .int .i64 U.x, .string ⟨U.s.toArray⟩, .slice U.a U.l.length U.cap] 57)).cell? ⟨w.heap.size, 2, none⟩ = some (.int .i64 T.x) ∧ ((w.alloc (.cells #[.int .i64 T.k, .int .i64 T.n, .int .i64 T.x, .string ⟨T.s.toArray⟩, .slice T.a T.l.length T.cap] 57)).alloc (.cells #[.int .i64 U.k, .int .i64 U.n, .int .i64 U.x, .string ⟨U.s.toArray⟩, .slice U.a U.l.length U.cap] 57)).cell? ⟨w.heap.size, 3, none⟩ = some (.string ⟨T.s.toArray⟩) ∧ ((w.alloc (.cells #[.int .i64 T.k, .int .i64 T.n, .int .i64 T.x, .string ⟨T.s.toArray⟩, .slice T.a T.l.length T.cap] 57)).alloc (.cells #[.int .i64 U.k, .int .i64 U.n, .int .i64 U.x, .string ⟨U.s.toArray⟩, .slice U.a U.l.length U.cap] 57)).cell? ⟨w.heap.size, 4, none⟩ = some (.slice T.a T.l.length T.cap) := by refine ⟨?_, ?_, ?_, ?_, ?_⟩ <;> simp [go_sem]
  obtain ⟨c0, c1, c2, c3, c4⟩ := hc
  have hd : ((w.alloc (.cells #[.int .i64 T.k, .int .i64 T.n, .int .i64 T.x, .string ⟨T.s.toArray⟩, .slice T.a T.l.length T.cap] 57)).alloc (.cells #[.int .i64 U.k, .int .i64 U.n, .int .i64 U.x, .string ⟨U.s.toArray⟩, .slice U.a U.l.length U.cap] 57)).cell? ⟨w.heap.size + 1, 0, none⟩ = some (.int .i64 U.k) ∧ ((w.alloc (.cells #[.int .i64 T.k, .int .i64 T.n, .int .i64 T.x, .string ⟨T.s.toArray⟩, .slice T.a T.l.length T.cap] 57)).alloc (.cells #[.int .i64 U.k, .int .i64 U.n, .int .i64 U.x, .string ⟨U.s.toArray⟩, .slice U.a U.l.length U.cap] 57)).cell? ⟨w.heap.size + 1, 1, none⟩ = some (.int .i64 U.n) ∧ ((w.alloc (.cells #[.int .i64 T.k, .int .i64 T.n, .int .i64 T.x, .string ⟨T.s.toArray⟩, .slice T.a T.l.length T.cap] 57)).alloc (.cells #[.int .i64 U.k, .int .i64 U.n, .int .i64 U.x, .string ⟨U.s.toArray⟩, .slice U.a U.l.length U.cap] 57)).cell? ⟨w.heap.size + 1, 2, none⟩ = some (.int .i64 U.x) ∧ ((w.alloc (.cells #[.int .i64 T.k, .int .i64 T.n, .int .i64 T.x, .string ⟨T.s.toArray⟩, .slice T.a T.l.length T.cap] 57)).alloc (.cells #[.int .i64 U.k, .int .i64 U.n, .int .i64 U.x, .string ⟨U.s.toArray⟩, .slice U.a U.l.length U.cap] 57)).cell? ⟨w.heap.size + 1, 3, none⟩ = some (.string ⟨U.s.toArray⟩) ∧ ((w.alloc (.cells #[.int .i64 T.k, .int .i64 T.n, .int .i64 T.x, .string ⟨T.s.toArray⟩, .slice T.a T.l.length T.cap] 57)).alloc (.cells #[.int .i64 U.k, .int .i64 U.n, .int .i64 U.x, .string ⟨U.s.toArray⟩, .slice U.a U.l.length U.cap] 57)).cell? ⟨w.heap.size + 1, 4, none⟩ = some (.slice U.a U.l.length U.cap) := by refine ⟨?_, ?_, ?_, ?_, ?_⟩ <;> simp [go_sem]
  obtain ⟨d0, d1, d2, d3, d4⟩ := hd
  generalize ((w.alloc (.cells #[.int .i64 T.k, .int .i64 T.n, .int .i64 T.x, .string ⟨T.s.toArray⟩, .slice T.a T.l.length T.cap] 57)).alloc (.cells #[.int .i64 U.k, .int .i64 U.n, .int .i64 U.x, .string ⟨U.s.toArray⟩, .slice U.a U.l.length U.cap] 57)) = w0 at *
  have HB0 := Lib.hid hbox
  clear hbox
  refine (HSZT.out _ HB0.out).mono ?_
  rintro e w1 ⟨rfl, hb1⟩
  have HB1 := Lib.hid (HB0.out.trans (hb1.mono HB0.out.size))
  replace c0 := keep_below hb1 c0
  replace c1 := keep_below hb1 c1
  replace c2 := keep_below hb1 c2
  replace c3 := keep_below hb1 c3
  replace c4 := keep_below hb1 c4
  replace d0 := keep_below hb1 d0
  replace d1 := keep_below hb1 d1
  replace d2 := keep_below hb1 d2
  replace d3 := keep_below hb1 d3
  replace d4 := keep_below hb1 d4
  clear hb1
  rw [HRT.out]
  go_wp2_with fail
  refine (HSZP.out _ HB1.out).mono ?_
  rintro e w2 ⟨rfl, hb2⟩
  have HB2 := Lib.hid (HB1.out.trans (hb2.mono HB1.out.size))
  replace c0 := keep_below hb2 c0
  replace c1 := keep_below hb2 c1
  replace c2 := keep_below hb2 c2
  replace c3 := keep_below hb2 c3
  replace c4 := keep_below hb2 c4
  replace d0 := keep_below hb2 d0
  replace d1 := keep_below hb2 d1
  replace d2 := keep_below hb2 d2
  replace d3 := keep_below hb2 d3
  replace d4 := keep_below hb2 d4
  clear hb2
  rw [HRP.out]
  go_wp2_with fail
  refine (HSZU.out _ HB2.out).mono ?_
  rintro e w3 ⟨rfl, hb3⟩
  have HB3 := Lib.hid (HB2.out.trans (hb3.mono HB2.out.size))
  replace c0 := keep_below hb3 c0
  replace c1 := keep_below hb3 c1
  replace c2 := keep_below hb3 c2
  replace c3 := keep_below hb3 c3
  replace c4 := keep_below hb3 c4
  replace d0 := keep_below hb3 d0
  replace d1 := keep_below hb3 d1
  replace d2 := keep_below hb3 d2
  replace d3 := keep_below hb3 d3
  replace d4 := keep_below hb3 d4
  clear hb3
  rw [HRU.out]
  go_wp2
  go_ret
  exact ⟨rfl, HB3.out⟩
set_option maxHeartbeats 16000000 in
set_option maxRecDepth 100000 in
theorem main (T : AT) (lP : List St) (aP : Option Addr) (capP : Nat) (U : AT) (w : World) (hinT : T.In w w.heap.size) (hwfT : T.pt.Wf) (hsP : SAt w w.heap.size aP capP lP) (hlP : lP.length ≤ 9223372036854775807) (hinU : U.In w w.heap.size) (hwfU : U.pt.Wf) (hzT : T.pt.sz ≤ 1048576) (hzP : lP.length ≤ 1048576 - T.pt.sz) (hzU : U.pt.sz ≤ 1048576 - T.pt.sz - lP.length) : Calls Try.prog 13 #[T.val, .slice aP lP.length capP, U.val] w fun e w' => e = .returned (.bool true) ∧ Below w.heap.size w w' := by
  have HSZT := Lib.hid (fun (w1 : World) (hb : Below w.heap.size w w1) => szVal_any T hwfT w1 w.heap.size (1048576) (hinT.blw hb (Nat.le_refl _)) hb.size (by omega))
  have HRT : Hid (szR T.pt.sz (1048576) = ((1048576 - T.pt.sz : Nat) : Int)) := Lib.hid (by unfold szR; rw [if_pos hzT]; omega)
  have hnegT : ¬ (((1048576 - T.pt.sz : Nat) : Int) < 0) := by omega
  have HSZP := Lib.hid (fun (w1 : World) (hb : Below w.heap.size w w1) => szStepS_any lP aP capP (1048576 - T.pt.sz) w1 hlP (by omega))
  have HRP : Hid (szR lP.length (1048576 - T.pt.sz) = ((1048576 - T.pt.sz - lP.length : Nat) : Int)) := Lib.hid (by unfold szR; rw [if_pos hzP]; omega)
  have hnegP : ¬ (((1048576 - T.pt.sz - lP.length : Nat) : Int) < 0) := by omega
  have HSZU := Lib.hid (fun (w1 : World) (hb : Below w.heap.size w w1) => szVal_any U hwfU w1 w.heap.size (1048576 - T.pt.sz - lP.length) (hinU.blw hb (Nat.le_refl _)) hb.size (by omega))
  have HRU : Hid (szR U.pt.sz (1048576 - T.pt.sz - lP.length) = ((1048576 - T.pt.sz - lP.length - U.pt.sz : Nat) : Int)) := Lib.hid (by unfold szR; rw [if_pos hzU]; omega)
  have hnegU : ¬ (((1048576 - T.pt.sz - lP.length - U.pt.sz : Nat) : Int) < 0) := by omega
  have hsT : T.pt.sz ≤ 1048576 := by omega
  have HTVT := Lib.hid (fun (w1 : World) (hb : Below w.heap.size w w1) => toVal_any T hwfT hsT w1 w.heap.size (hinT.blw hb (Nat.le_refl _)) hb.size)
  have HEQT := Lib.hid (fun (T' U' : AT) (hp : T'.pt = T.pt) (hu : U'.pt = T.pt) (w1 : World) (hi : T'.In w1 w1.heap.size) (hj : U'.In w1 w1.heap.size) => eqVal_any T' (by rw [hp]; exact hwfT) U' w1 w1.heap.size (by rw [hp, hu]) hi hj (Nat.le_refl _))
  have HCAT : Hid (∀ X : AT, X.pt = T.pt → X.pt.cnt ≤ 2097152) := Lib.hid (fun X hX => by rw [hX]; have := cnt_le_sz T.pt; omega)
  have HCBT : Hid (∀ X : AT, X.pt = T.pt → PT.cntL (AT.ptL X.l) = PT.cntL (AT.ptL T.l)) := Lib.hid (fun X hX => by have h1 := cnt_eq X; have h2 := cnt_eq T; rw [hX] at h1; omega)
  have hz2P : lP.length ≤ 1048576 := by omega
  have HTVP := Lib.hid (fun (w1 : World) (hb : Below w.heap.size w w1) => toSteps_row w1 w.heap.size aP capP lP (hsP.below hb (Nat.le_refl _)) hb.size hz2P)
  have HEQP := Lib.hid (fun (P Q : SR) (hP : P.l = lP) (hQ : Q.l = lP) (w1 : World) (h : SAt w1 w1.heap.size P.a P.cap P.l) (h2 : SAt w1 w1.heap.size Q.a Q.cap Q.l) => eqsteps_row P Q lP hP hQ hlP w1 h h2)
  have HCAP : Hid (∀ X : SR, X.l = lP → X.l.length ≤ 1048576) := Lib.hid (fun X hX => by rw [hX]; exact hz2P)
  have HCBP : Hid (∀ X : SR, X.l = lP → X.l.length = lP.length) := Lib.hid (fun X hX => by rw [hX])
  have hsU : U.pt.sz ≤ 1048576 := by omega
  have HTVU := Lib.hid (fun (w1 : World) (hb : Below w.heap.size w w1) => toVal_any U hwfU hsU w1 w.heap.size (hinU.blw hb (Nat.le_refl _)) hb.size)
  have HEQU := Lib.hid (fun (T' U' : AT) (hp : T'.pt = U.pt) (hu : U'.pt = U.pt) (w1 : World) (hi : T'.In w1 w1.heap.size) (hj : U'.In w1 w1.heap.size) => eqVal_any T' (by rw [hp]; exact hwfU) U' w1 w1.heap.size (by rw [hp, hu]) hi hj (Nat.le_refl _))
  have HCAU : Hid (∀ X : AT, X.pt = U.pt → X.pt.cnt ≤ 2097152) := Lib.hid (fun X hX => by rw [hX]; have := cnt_le_sz U.pt; omega)
  have HCBU : Hid (∀ X : AT, X.pt = U.pt → PT.cntL (AT.ptL X.l) = PT.cntL (AT.ptL U.l)) := Lib.hid (fun X hX => by have h1 := cnt_eq X; have h2 := cnt_eq U; rw [hX] at h1; omega)
  obtain ⟨p, bv, hp⟩ : ∃ p bv, (p, bv) = putR T.pt (PT.putO lP T.pt U.pt) := ⟨_, _, rfl⟩
  have HCS := Lib.hid (fun (X0 : AT) (X1 : SR) (X2 : AT) (hX0 : X0.pt = T.pt) (hX1 : X1.l = lP) (hX2 : X2.pt = U.pt) (w1 : World) (ho0 : X0.In w1 w1.heap.size) (ho1 : SAt w1 w1.heap.size X1.a X1.cap X1.l) (ho2 : X2.In w1 w1.heap.size) => (show Calls Try.prog 61 #[X0.val, X1.val, X2.val] w1 (LookPost w1 (p, bv)) from by
    have h := putat_spec X1.l X1.a X1.cap X0 X2 w1 w1.heap.size ho0 ho2 ho1 (by rw [hX0]; exact hsT) (by rw [hX2]; exact hsU) (by rw [hX1]; exact hz2P) (Nat.le_refl _); have e : putR X0.pt (PT.putO X1.l X0.pt X2.pt) = (p, bv) := by rw [hX0, hX1, hX2, hp]
    rw [e] at h; exact h))
  have HCI := Lib.hid (fun (X0 : AT) (X1 : SR) (X2 : AT) (hX0 : X0.pt = T.pt) (hX1 : X1.l = lP) (hX2 : X2.pt = U.pt) (w1 : World) (B0 : Nat) (ho0 : X0.Own w1 B0) (ho1 : SAt w1 w1.heap.size X1.a X1.cap X1.l) (B2 : Nat) (ho2 : X2.Own w1 B2) => (show Calls Try.prog 60 #[X0.val, X1.val, X2.val] w1 (LookPost w1 (p, bv)) from by
    have h := putat_impl X0 X2 X1.l X1.a X1.cap w1 B0 B2 w1.heap.size ho0 ho2 ho1 (Nat.le_refl _) (by rw [hX0]; exact hsT) (by rw [hX2]; exact hsU) (by rw [hX1]; exact hz2P); have e : putR X0.pt (PT.putO X1.l X0.pt X2.pt) = (p, bv) := by rw [hX0, hX1, hX2, hp]
    rw [e] at h; exact h))
  have hlw := putR_wf lP T.pt U.pt hwfT hwfU (by omega)
  rw [← hp] at hlw
  obtain ⟨hvw, hpc⟩ := hlw
  simp only at hvw hpc
  have HER := Lib.hid (fun (X Y : AT) (hX : X.pt = p) (hY : Y.pt = p) (w1 : World) (ho : X.In w1 w1.heap.size) (hy : Y.In w1 w1.heap.size) => eqVal_any X (pt_wf hX hvw) Y w1 w1.heap.size (hX.trans hY.symm) ho hy (Nat.le_refl _))
  have HCN : Hid (∀ X : AT, X.pt = p → X.pt.cnt ≤ 2097152) := Lib.hid (fun X hX => by rw [hX]; omega)
  have HCC : Hid (∀ X : AT, X.pt = p → PT.cntL (AT.ptL X.l) = p.cnt - 1) := Lib.hid (fun X hX => by have h1 := cnt_eq X; rw [hX] at h1; omega)
  obtain ⟨MM, hMM⟩ : ∃ MM, MM = 1 + 4 * (p.cnt - 1) := ⟨_, rfl⟩
  have HMM := Lib.hid hMM
  have hneg2 : ¬ ((MM : Int) < 0) := by omega
  obtain ⟨M0, hM0⟩ : ∃ M0, M0 = 1 + 4 * PT.cntL (AT.ptL T.l) := ⟨_, rfl⟩
  have HM0 := Lib.hid hM0
  have hm0a : 1 ≤ M0 := by omega
  have hm0b : M0 ≤ 4194310 := by have h10 := cnt_le_sz T.pt; have h20 := cnt_eq T; omega
  obtain ⟨M1, hM1⟩ : ∃ M1, M1 = M0 + 2 * lP.length := ⟨_, rfl⟩
  have HM1 := Lib.hid hM1
  have hm1a : 1 ≤ M1 := by omega
  have hm1b : M1 ≤ 8388700 := by have h10 := cnt_le_sz T.pt; have h20 := cnt_eq T; omega
  obtain ⟨M2, hM2⟩ : ∃ M2, M2 = M1 + 4 * PT.cntL (AT.ptL U.l) := ⟨_, rfl⟩
  have HM2 := Lib.hid hM2
  have hm2a : 1 ≤ M2 := by omega
  have hm2b : M2 ≤ 16777216 := by have h10 := cnt_le_sz T.pt; have h20 := cnt_eq T; have h12 := cnt_le_sz U.pt; have h22 := cnt_eq U; omega
  have hneg3 : ¬ ((M2 : Int) < 0) := by omega
  clear hp hvw hpc hMM hM0 hM1 hM2 hinT hwfT hzT hsT hsP hlP hzP hz2P hinU hwfU hzU hsU
  generalize 1048576 - T.pt.sz - lP.length - U.pt.sz = leftU at *
  generalize 1048576 - T.pt.sz - lP.length = leftP at *
  generalize 1048576 - T.pt.sz = leftT at *
  show Calls Try.prog 13 #[.agg #[.int .i64 T.k, .int .i64 T.n, .int .i64 T.x, .string ⟨T.s.toArray⟩, .slice T.a T.l.length T.cap], .slice aP lP.length capP, .agg #[.int .i64 U.k, .int .i64 U.n, .int .i64 U.x, .string ⟨U.s.toArray⟩, .slice U.a U.l.length U.cap]] w _
  go_enter Try.func13, Try.ntmps13
  go_wp2_with fail
  have hbox : Below w.heap.size w ((w.alloc (.cells #[.int .i64 T.k, .int .i64 T.n, .int .i64 T.x, .string ⟨T.s.toArray⟩, .slice T.a T.l.length T.cap] 57)).alloc (.cells #[.int .i64 U.k, .int .i64 U.n, .int .i64 U.x, .string ⟨U.s.toArray⟩, .slice U.a U.l.length U.cap] 57)) := boxes2 w (.cells #[.int .i64 T.k, .int .i64 T.n, .int .i64 T.x, .string ⟨T.s.toArray⟩, .slice T.a T.l.length T.cap] 57) (.cells #[.int .i64 U.k, .int .i64 U.n, .int .i64 U.x, .string ⟨U.s.toArray⟩, .slice U.a U.l.length U.cap] 57)
  have hc : ((w.alloc (.cells #[.int .i64 T.k, .int .i64 T.n, .int .i64 T.x, .string ⟨T.s.toArray⟩, .slice T.a T.l.length T.cap] 57)).alloc (.cells #[.int .i64 U.k, .int .i64 U.n, .int .i64 U.x, .string ⟨U.s.toArray⟩, .slice U.a U.l.length U.cap] 57)).cell? ⟨w.heap.size, 0, none⟩ = some (.int .i64 T.k) ∧ ((w.alloc (.cells #[.int .i64 T.k, .int .i64 T.n, .int .i64 T.x, .string ⟨T.s.toArray⟩, .slice T.a T.l.length T.cap] 57)).alloc (.cells #[.int .i64 U.k, .int .i64 U.n, .int .i64 U.x, .string ⟨U.s.toArray⟩, .slice U.a U.l.length U.cap] 57)).cell? ⟨w.heap.size, 1, none⟩ = some (.int .i64 T.n) ∧ ((w.alloc (.cells #[.int .i64 T.k, .int .i64 T.n, .int .i64 T.x, .string ⟨T.s.toArray⟩, .slice T.a T.l.length T.cap] 57)).alloc (.cells #[.int .i64 U.k, .int .i64 U.n, .int .i64 U.x, .string ⟨U.s.toArray⟩, .slice U.a U.l.length U.cap] 57)).cell? ⟨w.heap.size, 2, none⟩ = some (.int .i64 T.x) ∧ ((w.alloc (.cells #[.int .i64 T.k, .int .i64 T.n, .int .i64 T.x, .string ⟨T.s.toArray⟩, .slice T.a T.l.length T.cap] 57)).alloc (.cells #[.int .i64 U.k, .int .i64 U.n, .int .i64 U.x, .string ⟨U.s.toArray⟩, .slice U.a U.l.length U.cap] 57)).cell? ⟨w.heap.size, 3, none⟩ = some (.string ⟨T.s.toArray⟩) ∧ ((w.alloc (.cells #[.int .i64 T.k, .int .i64 T.n, .int .i64 T.x, .string ⟨T.s.toArray⟩, .slice T.a T.l.length T.cap] 57)).alloc (.cells #[.int .i64 U.k, .int .i64 U.n, .int .i64 U.x, .string ⟨U.s.toArray⟩, .slice U.a U.l.length U.cap] 57)).cell? ⟨w.heap.size, 4, none⟩ = some (.slice T.a T.l.length T.cap) := by refine ⟨?_, ?_, ?_, ?_, ?_⟩ <;> simp [go_sem]
  obtain ⟨c0, c1, c2, c3, c4⟩ := hc
  have hd : ((w.alloc (.cells #[.int .i64 T.k, .int .i64 T.n, .int .i64 T.x, .string ⟨T.s.toArray⟩, .slice T.a T.l.length T.cap] 57)).alloc (.cells #[.int .i64 U.k, .int .i64 U.n, .int .i64 U.x, .string ⟨U.s.toArray⟩, .slice U.a U.l.length U.cap] 57)).cell? ⟨w.heap.size + 1, 0, none⟩ = some (.int .i64 U.k) ∧ ((w.alloc (.cells #[.int .i64 T.k, .int .i64 T.n, .int .i64 T.x, .string ⟨T.s.toArray⟩, .slice T.a T.l.length T.cap] 57)).alloc (.cells #[.int .i64 U.k, .int .i64 U.n, .int .i64 U.x, .string ⟨U.s.toArray⟩, .slice U.a U.l.length U.cap] 57)).cell? ⟨w.heap.size + 1, 1, none⟩ = some (.int .i64 U.n) ∧ ((w.alloc (.cells #[.int .i64 T.k, .int .i64 T.n, .int .i64 T.x, .string ⟨T.s.toArray⟩, .slice T.a T.l.length T.cap] 57)).alloc (.cells #[.int .i64 U.k, .int .i64 U.n, .int .i64 U.x, .string ⟨U.s.toArray⟩, .slice U.a U.l.length U.cap] 57)).cell? ⟨w.heap.size + 1, 2, none⟩ = some (.int .i64 U.x) ∧ ((w.alloc (.cells #[.int .i64 T.k, .int .i64 T.n, .int .i64 T.x, .string ⟨T.s.toArray⟩, .slice T.a T.l.length T.cap] 57)).alloc (.cells #[.int .i64 U.k, .int .i64 U.n, .int .i64 U.x, .string ⟨U.s.toArray⟩, .slice U.a U.l.length U.cap] 57)).cell? ⟨w.heap.size + 1, 3, none⟩ = some (.string ⟨U.s.toArray⟩) ∧ ((w.alloc (.cells #[.int .i64 T.k, .int .i64 T.n, .int .i64 T.x, .string ⟨T.s.toArray⟩, .slice T.a T.l.length T.cap] 57)).alloc (.cells #[.int .i64 U.k, .int .i64 U.n, .int .i64 U.x, .string ⟨U.s.toArray⟩, .slice U.a U.l.length U.cap] 57)).cell? ⟨w.heap.size + 1, 4, none⟩ = some (.slice U.a U.l.length U.cap) := by refine ⟨?_, ?_, ?_, ?_, ?_⟩ <;> simp [go_sem]
  obtain ⟨d0, d1, d2, d3, d4⟩ := hd
  generalize ((w.alloc (.cells #[.int .i64 T.k, .int .i64 T.n, .int .i64 T.x, .string ⟨T.s.toArray⟩, .slice T.a T.l.length T.cap] 57)).alloc (.cells #[.int .i64 U.k, .int .i64 U.n, .int .i64 U.x, .string ⟨U.s.toArray⟩, .slice U.a U.l.length U.cap] 57)) = w0 at *
  have HB0 := Lib.hid hbox
  clear hbox
  refine (HSZT.out _ HB0.out).mono ?_
  rintro e w1 ⟨rfl, hb1⟩
  have HB1 := Lib.hid (HB0.out.trans (hb1.mono HB0.out.size))
  replace c0 := keep_below hb1 c0
  replace c1 := keep_below hb1 c1
  replace c2 := keep_below hb1 c2
  replace c3 := keep_below hb1 c3
  replace c4 := keep_below hb1 c4
  replace d0 := keep_below hb1 d0
  replace d1 := keep_below hb1 d1
  replace d2 := keep_below hb1 d2
  replace d3 := keep_below hb1 d3
  replace d4 := keep_below hb1 d4
  clear hb1
  rw [HRT.out]
  go_wp2_with fail
  refine (HSZP.out _ HB1.out).mono ?_
  rintro e w2 ⟨rfl, hb2⟩
  have HB2 := Lib.hid (HB1.out.trans (hb2.mono HB1.out.size))
  replace c0 := keep_below hb2 c0
  replace c1 := keep_below hb2 c1
  replace c2 := keep_below hb2 c2
  replace c3 := keep_below hb2 c3
  replace c4 := keep_below hb2 c4
  replace d0 := keep_below hb2 d0
  replace d1 := keep_below hb2 d1
  replace d2 := keep_below hb2 d2
  replace d3 := keep_below hb2 d3
  replace d4 := keep_below hb2 d4
  clear hb2
  rw [HRP.out]
  go_wp2_with fail
  refine (HSZU.out _ HB2.out).mono ?_
  rintro e w3 ⟨rfl, hb3⟩
  have HB3 := Lib.hid (HB2.out.trans (hb3.mono HB2.out.size))
  replace c0 := keep_below hb3 c0
  replace c1 := keep_below hb3 c1
  replace c2 := keep_below hb3 c2
  replace c3 := keep_below hb3 c3
  replace c4 := keep_below hb3 c4
  replace d0 := keep_below hb3 d0
  replace d1 := keep_below hb3 d1
  replace d2 := keep_below hb3 d2
  replace d3 := keep_below hb3 d3
  replace d4 := keep_below hb3 d4
  clear hb3
  rw [HRU.out]
  go_upto_region 11 with fail
  go_cut [8, 9] from 35 (fun v0 v1 W' => v1 = .bool bv ∧ ∃ (X : AT) (B : Nat), v0 = .pointer (some ⟨B, 0, none⟩) ∧ X.pt = p ∧ X.Own W' w3.heap.size ∧ X.blks.Nodup ∧ B ∉ X.blks ∧ w3.heap.size ≤ B ∧ Rl w3 W' ∧ W'.cell? ⟨B, 0, none⟩ = some (.int .i64 X.k) ∧ W'.cell? ⟨B, 1, none⟩ = some (.int .i64 X.n) ∧ W'.cell? ⟨B, 2, none⟩ = some (.int .i64 X.x) ∧ W'.cell? ⟨B, 3, none⟩ = some (.string ⟨X.s.toArray⟩) ∧ W'.cell? ⟨B, 4, none⟩ = some (.slice X.a X.l.length X.cap))
  case first =>
    have HK := Lib.hid (fun (W' : World) (h : Rl w3 W') => (show Rl w3 W' ∧ W'.cell? ⟨w.heap.size, 0, none⟩ = some (.int .i64 T.k) ∧ W'.cell? ⟨w.heap.size, 1, none⟩ = some (.int .i64 T.n) ∧ W'.cell? ⟨w.heap.size, 2, none⟩ = some (.int .i64 T.x) ∧ W'.cell? ⟨w.heap.size, 3, none⟩ = some (.string ⟨T.s.toArray⟩) ∧ W'.cell? ⟨w.heap.size, 4, none⟩ = some (.slice T.a T.l.length T.cap) ∧ W'.cell? ⟨w.heap.size + 1, 0, none⟩ = some (.int .i64 U.k) ∧ W'.cell? ⟨w.heap.size + 1, 1, none⟩ = some (.int .i64 U.n) ∧ W'.cell? ⟨w.heap.size + 1, 2, none⟩ = some (.int .i64 U.x) ∧ W'.cell? ⟨w.heap.size + 1, 3, none⟩ = some (.string ⟨U.s.toArray⟩) ∧ W'.cell? ⟨w.heap.size + 1, 4, none⟩ = some (.slice U.a U.l.length U.cap) ∧ Below w.heap.size w W' from ⟨h, keep_below h.b c0, keep_below h.b c1, keep_below h.b c2, keep_below h.b c3, keep_below h.b c4, keep_below h.b d0, keep_below h.b d1, keep_below h.b d2, keep_below h.b d3, keep_below h.b d4, HB3.out.trans (h.b.mono HB3.out.size)⟩))
    go_region_held3 (fun W' => Rl w3 W' ∧ W'.cell? ⟨w.heap.size, 0, none⟩ = some (.int .i64 T.k) ∧ W'.cell? ⟨w.heap.size, 1, none⟩ = some (.int .i64 T.n) ∧ W'.cell? ⟨w.heap.size, 2, none⟩ = some (.int .i64 T.x) ∧ W'.cell? ⟨w.heap.size, 3, none⟩ = some (.string ⟨T.s.toArray⟩) ∧ W'.cell? ⟨w.heap.size, 4, none⟩ = some (.slice T.a T.l.length T.cap) ∧ W'.cell? ⟨w.heap.size + 1, 0, none⟩ = some (.int .i64 U.k) ∧ W'.cell? ⟨w.heap.size + 1, 1, none⟩ = some (.int .i64 U.n) ∧ W'.cell? ⟨w.heap.size + 1, 2, none⟩ = some (.int .i64 U.x) ∧ W'.cell? ⟨w.heap.size + 1, 3, none⟩ = some (.string ⟨U.s.toArray⟩) ∧ W'.cell? ⟨w.heap.size + 1, 4, none⟩ = some (.slice U.a U.l.length U.cap) ∧ Below w.heap.size w W') ((go_split_ands; refine HK.out _ ?_; first | with_reducible assumption | with_reducible exact (Rl.refl _).drew | with_reducible exact HRca.out | with_reducible exact HRuca.out | with_reducible exact HRuba.out | with_reducible exact HRuaa.out | with_reducible exact Rl.alloc (by assumption) _ | with_reducible exact Rl.alloc HRca.out _ | with_reducible exact Rl.alloc HRuca.out _ | with_reducible exact Rl.alloc HRuba.out _ | with_reducible exact Rl.alloc HRuaa.out _ | with_reducible exact (Rl.alloc (Rl.refl _) _).drew | with_reducible exact Rl.drew (by assumption) | with_reducible exact Rl.five (by assumption) HRuca.out.z | with_reducible exact Rl.five (by assumption) HRuba.out.z | with_reducible exact Rl.five (by assumption) HRuaa.out.z | with_reducible exact Rl.five (by assumption) (Nat.le_refl _))) ((first | (go_at_call 64; go_split_ands; ((with_reducible refine (HTVT.out _ (by assumption)).mono ?_); rintro e uaa ⟨Yaa, hpuaa, rfl, houaa, hnuaa, hbuaa⟩; have HOuaa := Lib.hid houaa; have HPuaa := Lib.hid hpuaa; clear houaa hnuaa hpuaa); have HRuaa := Lib.hid (Rl.below (W0 := w3) (by assumption) hbuaa); (first | (have hz := mboxD hbuaa; obtain ⟨z0, z1, z2, z3, z4, zf⟩ := hz) | (have hz := mbox hbuaa; obtain ⟨z0, z1, z2, z3, z4, zf⟩ := hz) | skip)) | (go_at_call 73; go_split_ands; ((with_reducible refine (HTVP.out _ (by assumption)).mono ?_); rintro e uba ⟨Yba, hpuba, rfl, houba, hnuba, hbuba⟩; have HOuba := Lib.hid houba; have HPuba := Lib.hid hpuba; clear houba hnuba hpuba); have HRuba := Lib.hid (Rl.below (W0 := w3) (by assumption) hbuba); (first | have HOYa1a := Lib.hid (own_blw hbuba HOuaa.out) | have HOYa1a := Lib.hid (own_blw hbuba (own_alloc HOuaa.out))); (first | (have hz := mboxD hbuba; obtain ⟨z0, z1, z2, z3, z4, zf⟩ := hz) | (have hz := mbox hbuba; obtain ⟨z0, z1, z2, z3, z4, zf⟩ := hz) | (have hz := mboxK hbuba z0 z1 z2 z3 z4 zf; obtain ⟨z0, z1, z2, z3, z4, zf⟩ := hz) | skip)) | (go_at_call 64; go_split_ands; ((with_reducible refine (HTVU.out _ (by assumption)).mono ?_); rintro e uca ⟨Yca, hpuca, rfl, houca, hnuca, hbuca⟩; have HOuca := Lib.hid houca; have HPuca := Lib.hid hpuca; clear houca hnuca hpuca); have HRuca := Lib.hid (Rl.below (W0 := w3) (by assumption) hbuca); (first | have HOYa2a := Lib.hid (own_blw hbuca HOYa1a.out) | have HOYa2a := Lib.hid (own_blw hbuca (own_alloc HOYa1a.out))); (first | have HOYb2a := Lib.hid (sown_blw hbuca HOuba.out) | have HOYb2a := Lib.hid (sown_blw hbuca (sown_alloc HOuba.out))); (first | (have hz := mboxD hbuca; obtain ⟨z0, z1, z2, z3, z4, zf⟩ := hz) | (have hz := mbox hbuca; obtain ⟨z0, z1, z2, z3, z4, zf⟩ := hz) | (have hz := mboxK hbuca z0 z1 z2 z3 z4 zf; obtain ⟨z0, z1, z2, z3, z4, zf⟩ := hz) | skip)) | (go_at_call 61; go_split_ands; refine (HCS.out Yaa Yba Yca HPuaa.out HPuba.out HPuca.out _ (by first | exact HOYa2a.out.in | exact (own_alloc HOYa2a.out).in) (by first | exact HOYb2a.out.sat | exact (sown_alloc HOYb2a.out).sat) (by first | exact HOuca.out.in | exact (own_alloc HOuca.out).in)).mono ?_; rintro e waa ⟨G1, hpa, rfl, hoa, hna, hba⟩; have HPG1 := Lib.hid hpa; have HOOG1 := Lib.hid hoa; have HNG1 := Lib.hid hna; clear hpa hoa hna; have HRca := Lib.hid (Rl.below (W0 := w3) (by assumption) hba); (first | (have hz := mboxD hba; obtain ⟨z0, z1, z2, z3, z4, zf⟩ := hz) | (have hz := mbox hba; obtain ⟨z0, z1, z2, z3, z4, zf⟩ := hz) | (have hz := mboxK hba z0 z1 z2 z3 z4 zf; obtain ⟨z0, z1, z2, z3, z4, zf⟩ := hz) | skip))))
    all_goals (go_wp2_with fail; go_meet; (first | with_reducible exact ⟨rfl, G1, _, rfl, HPG1.out, leaf_last HRca.out (by first | exact HRuca.out.z | exact HRuba.out.z | exact HRuaa.out.z | (have hq1 := HRuca.out.z; simp; omega) | (have hq1 := HRuba.out.z; simp; omega) | (have hq1 := HRuaa.out.z; simp; omega)) HOOG1.out HNG1.out⟩ | with_reducible exact ⟨rfl, G1, _, rfl, HPG1.out, leaf_early HRca.out HRuca.out.z (by first | exact HRuca.out.z | exact HRuba.out.z | exact HRuaa.out.z | (have hq1 := HRuca.out.z; simp; omega) | (have hq1 := HRuba.out.z; simp; omega) | (have hq1 := HRuaa.out.z; simp; omega)) (by first | (simp; done) | (have hq2 := hbuca.size; simp at hq2; omega) | (have hq1 := hbuba.size; have hq2 := hbuca.size; simp at hq1 hq2; omega) | (have hq0 := hbuaa.size; have hq1 := hbuba.size; have hq2 := hbuca.size; simp at hq0 hq1 hq2; omega)) HOOG1.out HNG1.out z0 z1 z2 z3 z4⟩ | with_reducible exact ⟨rfl, G1, _, rfl, HPG1.out, leaf_early HRca.out HRuba.out.z (by first | exact HRuca.out.z | exact HRuba.out.z | exact HRuaa.out.z | (have hq1 := HRuca.out.z; simp; omega) | (have hq1 := HRuba.out.z; simp; omega) | (have hq1 := HRuaa.out.z; simp; omega)) (by first | (simp; done) | (have hq2 := hbuca.size; simp at hq2; omega) | (have hq1 := hbuba.size; have hq2 := hbuca.size; simp at hq1 hq2; omega) | (have hq0 := hbuaa.size; have hq1 := hbuba.size; have hq2 := hbuca.size; simp at hq0 hq1 hq2; omega)) HOOG1.out HNG1.out z0 z1 z2 z3 z4⟩ | with_reducible exact ⟨rfl, G1, _, rfl, HPG1.out, leaf_early HRca.out HRuaa.out.z (by first | exact HRuca.out.z | exact HRuba.out.z | exact HRuaa.out.z | (have hq1 := HRuca.out.z; simp; omega) | (have hq1 := HRuba.out.z; simp; omega) | (have hq1 := HRuaa.out.z; simp; omega)) (by first | (simp; done) | (have hq2 := hbuca.size; simp at hq2; omega) | (have hq1 := hbuba.size; have hq2 := hbuca.size; simp at hq1 hq2; omega) | (have hq0 := hbuaa.size; have hq1 := hbuba.size; have hq2 := hbuca.size; simp at hq0 hq1 hq2; omega)) HOOG1.out HNG1.out z0 z1 z2 z3 z4⟩ | with_reducible exact ⟨rfl, G1, _, rfl, HPG1.out, leaf_early HRca.out (Nat.le_refl _) (by first | exact HRuca.out.z | exact HRuba.out.z | exact HRuaa.out.z | (have hq1 := HRuca.out.z; simp; omega) | (have hq1 := HRuba.out.z; simp; omega) | (have hq1 := HRuaa.out.z; simp; omega)) (by first | (simp; done) | (have hq2 := hbuca.size; simp at hq2; omega) | (have hq1 := hbuba.size; have hq2 := hbuca.size; simp at hq1 hq2; omega) | (have hq0 := hbuaa.size; have hq1 := hbuba.size; have hq2 := hbuca.size; simp at hq0 hq1 hq2; omega)) HOOG1.out HNG1.out z0 z1 z2 z3 z4⟩))
  obtain ⟨hv4, G1, Bp, rfl, hpG, hoG, hnG, hxG, hBg, hRg, p0, p1, p2, p3, p4⟩ := hcut
  subst hv4
  have HPG1 := Lib.hid hpG
  have HNG1 := Lib.hid hnG
  have HOG1_4 := Lib.hid (hoG.base HB3.out.size)
  have HXp_G1 := Lib.hid hxG
  have HXc_G1 : Hid (w.heap.size ∉ G1.blks) := Lib.hid (fun hk => by have h1 := (hoG.lt _ hk).1; have h2 := cell_lt c0; simp only at h2; omega)
  have HXd_G1 : Hid (w.heap.size + 1 ∉ G1.blks) := Lib.hid (fun hk => by have h1 := (hoG.lt _ hk).1; have h2 := cell_lt d0; simp only at h2; omega)
  have HB4 := Lib.hid (HB3.out.trans (hRg.b.mono HB3.out.size))
  replace c0 := keep_below hRg.b c0
  replace c1 := keep_below hRg.b c1
  replace c2 := keep_below hRg.b c2
  replace c3 := keep_below hRg.b c3
  replace c4 := keep_below hRg.b c4
  replace d0 := keep_below hRg.b d0
  replace d1 := keep_below hRg.b d1
  replace d2 := keep_below hRg.b d2
  replace d3 := keep_below hRg.b d3
  replace d4 := keep_below hRg.b d4
  clear hpG hoG hnG hxG hBg hRg
  have hbb : (bv != bv) = false := by cases bv <;> rfl
  go_wp2_with fail
  refine (HTVT.out _ HB4.out).mono ?_
  rintro e w5 ⟨X0, hp5, rfl, ho5, hn5, hb5⟩
  have HB5 := Lib.hid (HB4.out.trans (hb5.mono HB4.out.size))
  have HDX0_G1 : Hid (∀ k ∈ X0.blks, k ∉ G1.blks) := Lib.hid (fun k hk hk2 => by have h1 := (ho5.lt k hk).1; have h2 := (HOG1_4.out.lt k hk2).2; omega)
  have HDG1_X0 : Hid (∀ k ∈ G1.blks, k ∉ X0.blks) := Lib.hid (fun k hk hk2 => by have h1 := (ho5.lt k hk2).1; have h2 := (HOG1_4.out.lt k hk).2; omega)
  have HXc_X0 : Hid (w.heap.size ∉ X0.blks) := Lib.hid (fun hk => by have h1 := (ho5.lt _ hk).1; have h2 := cell_lt c0; simp only at h2; omega)
  have HXd_X0 : Hid (w.heap.size + 1 ∉ X0.blks) := Lib.hid (fun hk => by have h1 := (ho5.lt _ hk).1; have h2 := cell_lt d0; simp only at h2; omega)
  have HXp_X0 : Hid (Bp ∉ X0.blks) := Lib.hid (fun hk => by have h1 := (ho5.lt _ hk).1; have h2 := cell_lt p0; simp only at h2; omega)
  replace c0 := keep_below hb5 c0
  replace c1 := keep_below hb5 c1
  replace c2 := keep_below hb5 c2
  replace c3 := keep_below hb5 c3
  replace c4 := keep_below hb5 c4
  replace d0 := keep_below hb5 d0
  replace d1 := keep_below hb5 d1
  replace d2 := keep_below hb5 d2
  replace d3 := keep_below hb5 d3
  replace d4 := keep_below hb5 d4
  replace p0 := keep_below hb5 p0
  replace p1 := keep_below hb5 p1
  replace p2 := keep_below hb5 p2
  replace p3 := keep_below hb5 p3
  replace p4 := keep_below hb5 p4
  have HOG1_5 := Lib.hid (HOG1_4.out.blw hb5)
  clear HOG1_4
  have HPX0 := Lib.hid hp5
  have HOX0_5 := Lib.hid (ho5.base HB4.out.size)
  have HNX0 := Lib.hid hn5
  clear hp5 ho5 hn5
  clear hb5
  have HXq_G1 : Hid (w5.heap.size ∉ G1.blks) := Lib.hid (fun hk => by have h2 := (HOG1_5.out.lt _ hk).2; omega)
  have HXq_X0 : Hid (w5.heap.size ∉ X0.blks) := Lib.hid (fun hk => by have h2 := (HOX0_5.out.lt _ hk).2; omega)
  have hv6 := vbox w5 (.cells #[.int .i64 X0.k, .int .i64 X0.n, .int .i64 X0.x, .string ⟨X0.s.toArray⟩, .slice X0.a X0.l.length X0.cap] 26)
  have HB6 := Lib.hid (HB5.out.trans (hv6.mono HB5.out.size))
  replace c0 := keep_below hv6 c0
  replace c1 := keep_below hv6 c1
  replace c2 := keep_below hv6 c2
  replace c3 := keep_below hv6 c3
  replace c4 := keep_below hv6 c4
  replace d0 := keep_below hv6 d0
  replace d1 := keep_below hv6 d1
  replace d2 := keep_below hv6 d2
  replace d3 := keep_below hv6 d3
  replace d4 := keep_below hv6 d4
  replace p0 := keep_below hv6 p0
  replace p1 := keep_below hv6 p1
  replace p2 := keep_below hv6 p2
  replace p3 := keep_below hv6 p3
  replace p4 := keep_below hv6 p4
  have HOG1_6 := Lib.hid (HOG1_5.out.blw hv6)
  clear HOG1_5
  have HOX0_6 := Lib.hid (HOX0_5.out.blw hv6)
  clear HOX0_5
  obtain ⟨q0, q1, q2, q3, q4⟩ := vcells5 w5 X0 26
  clear hv6
  go_wp2_with fail
  generalize (w5.alloc (.cells #[.int .i64 X0.k, .int .i64 X0.n, .int .i64 X0.x, .string ⟨X0.s.toArray⟩, .slice X0.a X0.l.length X0.cap] 26)) = w6 at *
  refine (HTVP.out _ HB6.out).mono ?_
  rintro e w7 ⟨X1, hp7, rfl, ho7, hn7, hb7⟩
  have HB7 := Lib.hid (HB6.out.trans (hb7.mono HB6.out.size))
  have HDX1_G1 : Hid (∀ k ∈ X1.blks, k ∉ G1.blks) := Lib.hid (fun k hk hk2 => by have h1 := (ho7.lt k hk).1; have h2 := (HOG1_6.out.lt k hk2).2; omega)
  have HDG1_X1 : Hid (∀ k ∈ G1.blks, k ∉ X1.blks) := Lib.hid (fun k hk hk2 => by have h1 := (ho7.lt k hk2).1; have h2 := (HOG1_6.out.lt k hk).2; omega)
  have HDX1_X0 : Hid (∀ k ∈ X1.blks, k ∉ X0.blks) := Lib.hid (fun k hk hk2 => by have h1 := (ho7.lt k hk).1; have h2 := (HOX0_6.out.lt k hk2).2; omega)
  have HDX0_X1 : Hid (∀ k ∈ X0.blks, k ∉ X1.blks) := Lib.hid (fun k hk hk2 => by have h1 := (ho7.lt k hk2).1; have h2 := (HOX0_6.out.lt k hk).2; omega)
  have HXc_X1 : Hid (w.heap.size ∉ X1.blks) := Lib.hid (fun hk => by have h1 := (ho7.lt _ hk).1; have h2 := cell_lt c0; simp only at h2; omega)
  have HXd_X1 : Hid (w.heap.size + 1 ∉ X1.blks) := Lib.hid (fun hk => by have h1 := (ho7.lt _ hk).1; have h2 := cell_lt d0; simp only at h2; omega)
  have HXp_X1 : Hid (Bp ∉ X1.blks) := Lib.hid (fun hk => by have h1 := (ho7.lt _ hk).1; have h2 := cell_lt p0; simp only at h2; omega)
  have HXq_X1 : Hid (w5.heap.size ∉ X1.blks) := Lib.hid (fun hk => by have h1 := (ho7.lt _ hk).1; have h2 := cell_lt q0; simp only at h2; omega)
  replace c0 := keep_below hb7 c0
  replace c1 := keep_below hb7 c1
  replace c2 := keep_below hb7 c2
  replace c3 := keep_below hb7 c3
  replace c4 := keep_below hb7 c4
  replace d0 := keep_below hb7 d0
  replace d1 := keep_below hb7 d1
  replace d2 := keep_below hb7 d2
  replace d3 := keep_below hb7 d3
  replace d4 := keep_below hb7 d4
  replace p0 := keep_below hb7 p0
  replace p1 := keep_below hb7 p1
  replace p2 := keep_below hb7 p2
  replace p3 := keep_below hb7 p3
  replace p4 := keep_below hb7 p4
  replace q0 := keep_below hb7 q0
  replace q1 := keep_below hb7 q1
  replace q2 := keep_below hb7 q2
  replace q3 := keep_below hb7 q3
  replace q4 := keep_below hb7 q4
  have HOG1_7 := Lib.hid (HOG1_6.out.blw hb7)
  clear HOG1_6
  have HOX0_7 := Lib.hid (HOX0_6.out.blw hb7)
  clear HOX0_6
  have HPX1 := Lib.hid hp7
  have HOX1_7 := Lib.hid (ho7.base HB6.out.size)
  have HNX1 := Lib.hid hn7
  clear hp7 ho7 hn7
  clear hb7
  go_wp2_with fail
  refine (HTVU.out _ HB7.out).mono ?_
  rintro e w8 ⟨X2, hp8, rfl, ho8, hn8, hb8⟩
  have HB8 := Lib.hid (HB7.out.trans (hb8.mono HB7.out.size))
  have HDX2_G1 : Hid (∀ k ∈ X2.blks, k ∉ G1.blks) := Lib.hid (fun k hk hk2 => by have h1 := (ho8.lt k hk).1; have h2 := (HOG1_7.out.lt k hk2).2; omega)
  have HDG1_X2 : Hid (∀ k ∈ G1.blks, k ∉ X2.blks) := Lib.hid (fun k hk hk2 => by have h1 := (ho8.lt k hk2).1; have h2 := (HOG1_7.out.lt k hk).2; omega)
  have HDX2_X0 : Hid (∀ k ∈ X2.blks, k ∉ X0.blks) := Lib.hid (fun k hk hk2 => by have h1 := (ho8.lt k hk).1; have h2 := (HOX0_7.out.lt k hk2).2; omega)
  have HDX0_X2 : Hid (∀ k ∈ X0.blks, k ∉ X2.blks) := Lib.hid (fun k hk hk2 => by have h1 := (ho8.lt k hk2).1; have h2 := (HOX0_7.out.lt k hk).2; omega)
  have HDX2_X1 : Hid (∀ k ∈ X2.blks, k ∉ X1.blks) := Lib.hid (fun k hk hk2 => by have h1 := (ho8.lt k hk).1; have h2 := (HOX1_7.out.lt k hk2).2; omega)
  have HDX1_X2 : Hid (∀ k ∈ X1.blks, k ∉ X2.blks) := Lib.hid (fun k hk hk2 => by have h1 := (ho8.lt k hk2).1; have h2 := (HOX1_7.out.lt k hk).2; omega)
  have HXc_X2 : Hid (w.heap.size ∉ X2.blks) := Lib.hid (fun hk => by have h1 := (ho8.lt _ hk).1; have h2 := cell_lt c0; simp only at h2; omega)
  have HXd_X2 : Hid (w.heap.size + 1 ∉ X2.blks) := Lib.hid (fun hk => by have h1 := (ho8.lt _ hk).1; have h2 := cell_lt d0; simp only at h2; omega)
  have HXp_X2 : Hid (Bp ∉ X2.blks) := Lib.hid (fun hk => by have h1 := (ho8.lt _ hk).1; have h2 := cell_lt p0; simp only at h2; omega)
  have HXq_X2 : Hid (w5.heap.size ∉ X2.blks) := Lib.hid (fun hk => by have h1 := (ho8.lt _ hk).1; have h2 := cell_lt q0; simp only at h2; omega)
  replace c0 := keep_below hb8 c0
  replace c1 := keep_below hb8 c1
  replace c2 := keep_below hb8 c2
  replace c3 := keep_below hb8 c3
  replace c4 := keep_below hb8 c4
  replace d0 := keep_below hb8 d0
  replace d1 := keep_below hb8 d1
  replace d2 := keep_below hb8 d2
  replace d3 := keep_below hb8 d3
  replace d4 := keep_below hb8 d4
  replace p0 := keep_below hb8 p0
  replace p1 := keep_below hb8 p1
  replace p2 := keep_below hb8 p2
  replace p3 := keep_below hb8 p3
  replace p4 := keep_below hb8 p4
  replace q0 := keep_below hb8 q0
  replace q1 := keep_below hb8 q1
  replace q2 := keep_below hb8 q2
  replace q3 := keep_below hb8 q3
  replace q4 := keep_below hb8 q4
  have HOG1_8 := Lib.hid (HOG1_7.out.blw hb8)
  clear HOG1_7
  have HOX0_8 := Lib.hid (HOX0_7.out.blw hb8)
  clear HOX0_7
  have HOX1_8 := Lib.hid (HOX1_7.out.blw hb8)
  clear HOX1_7
  have HPX2 := Lib.hid hp8
  have HOX2_8 := Lib.hid (ho8.base HB7.out.size)
  have HNX2 := Lib.hid hn8
  clear hp8 ho8 hn8
  clear hb8
  have HXs_G1 : Hid (w8.heap.size ∉ G1.blks) := Lib.hid (fun hk => by have h2 := (HOG1_8.out.lt _ hk).2; omega)
  have HXs_X0 : Hid (w8.heap.size ∉ X0.blks) := Lib.hid (fun hk => by have h2 := (HOX0_8.out.lt _ hk).2; omega)
  have HXs_X1 : Hid (w8.heap.size ∉ X1.blks) := Lib.hid (fun hk => by have h2 := (HOX1_8.out.lt _ hk).2; omega)
  have HXs_X2 : Hid (w8.heap.size ∉ X2.blks) := Lib.hid (fun hk => by have h2 := (HOX2_8.out.lt _ hk).2; omega)
  have hv9 := vbox w8 (.cells #[.int .i64 X2.k, .int .i64 X2.n, .int .i64 X2.x, .string ⟨X2.s.toArray⟩, .slice X2.a X2.l.length X2.cap] 26)
  have HB9 := Lib.hid (HB8.out.trans (hv9.mono HB8.out.size))
  replace c0 := keep_below hv9 c0
  replace c1 := keep_below hv9 c1
  replace c2 := keep_below hv9 c2
  replace c3 := keep_below hv9 c3
  replace c4 := keep_below hv9 c4
  replace d0 := keep_below hv9 d0
  replace d1 := keep_below hv9 d1
  replace d2 := keep_below hv9 d2
  replace d3 := keep_below hv9 d3
  replace d4 := keep_below hv9 d4
  replace p0 := keep_below hv9 p0
  replace p1 := keep_below hv9 p1
  replace p2 := keep_below hv9 p2
  replace p3 := keep_below hv9 p3
  replace p4 := keep_below hv9 p4
  replace q0 := keep_below hv9 q0
  replace q1 := keep_below hv9 q1
  replace q2 := keep_below hv9 q2
  replace q3 := keep_below hv9 q3
  replace q4 := keep_below hv9 q4
  have HOG1_9 := Lib.hid (HOG1_8.out.blw hv9)
  clear HOG1_8
  have HOX0_9 := Lib.hid (HOX0_8.out.blw hv9)
  clear HOX0_8
  have HOX1_9 := Lib.hid (HOX1_8.out.blw hv9)
  clear HOX1_8
  have HOX2_9 := Lib.hid (HOX2_8.out.blw hv9)
  clear HOX2_8
  obtain ⟨s0, s1, s2, s3, s4⟩ := vcells5 w8 X2 26
  clear hv9
  go_wp2_with fail
  generalize (w8.alloc (.cells #[.int .i64 X2.k, .int .i64 X2.n, .int .i64 X2.x, .string ⟨X2.s.toArray⟩, .slice X2.a X2.l.length X2.cap] 26)) = w9 at *
  refine (HCI.out X0 X1 X2 HPX0.out HPX1.out HPX2.out _ _ HOX0_9.out HOX1_9.out.sat _ HOX2_9.out).mono ?_
  rintro e w10 ⟨G0, hp10, rfl, ho10, hn10, hb10⟩
  have HB10 := Lib.hid (HB9.out.trans (hb10.mono HB9.out.size))
  have HDG0_G1 : Hid (∀ k ∈ G0.blks, k ∉ G1.blks) := Lib.hid (fun k hk hk2 => by have h1 := (ho10.lt k hk).1; have h2 := (HOG1_9.out.lt k hk2).2; omega)
  have HDG1_G0 : Hid (∀ k ∈ G1.blks, k ∉ G0.blks) := Lib.hid (fun k hk hk2 => by have h1 := (ho10.lt k hk2).1; have h2 := (HOG1_9.out.lt k hk).2; omega)
  have HDG0_X0 : Hid (∀ k ∈ G0.blks, k ∉ X0.blks) := Lib.hid (fun k hk hk2 => by have h1 := (ho10.lt k hk).1; have h2 := (HOX0_9.out.lt k hk2).2; omega)
  have HDX0_G0 : Hid (∀ k ∈ X0.blks, k ∉ G0.blks) := Lib.hid (fun k hk hk2 => by have h1 := (ho10.lt k hk2).1; have h2 := (HOX0_9.out.lt k hk).2; omega)
  have HDG0_X1 : Hid (∀ k ∈ G0.blks, k ∉ X1.blks) := Lib.hid (fun k hk hk2 => by have h1 := (ho10.lt k hk).1; have h2 := (HOX1_9.out.lt k hk2).2; omega)
  have HDX1_G0 : Hid (∀ k ∈ X1.blks, k ∉ G0.blks) := Lib.hid (fun k hk hk2 => by have h1 := (ho10.lt k hk2).1; have h2 := (HOX1_9.out.lt k hk).2; omega)
  have HDG0_X2 : Hid (∀ k ∈ G0.blks, k ∉ X2.blks) := Lib.hid (fun k hk hk2 => by have h1 := (ho10.lt k hk).1; have h2 := (HOX2_9.out.lt k hk2).2; omega)
  have HDX2_G0 : Hid (∀ k ∈ X2.blks, k ∉ G0.blks) := Lib.hid (fun k hk hk2 => by have h1 := (ho10.lt k hk2).1; have h2 := (HOX2_9.out.lt k hk).2; omega)
  have HXc_G0 : Hid (w.heap.size ∉ G0.blks) := Lib.hid (fun hk => by have h1 := (ho10.lt _ hk).1; have h2 := cell_lt c0; simp only at h2; omega)
  have HXd_G0 : Hid (w.heap.size + 1 ∉ G0.blks) := Lib.hid (fun hk => by have h1 := (ho10.lt _ hk).1; have h2 := cell_lt d0; simp only at h2; omega)
  have HXp_G0 : Hid (Bp ∉ G0.blks) := Lib.hid (fun hk => by have h1 := (ho10.lt _ hk).1; have h2 := cell_lt p0; simp only at h2; omega)
  have HXq_G0 : Hid (w5.heap.size ∉ G0.blks) := Lib.hid (fun hk => by have h1 := (ho10.lt _ hk).1; have h2 := cell_lt q0; simp only at h2; omega)
  have HXs_G0 : Hid (w8.heap.size ∉ G0.blks) := Lib.hid (fun hk => by have h1 := (ho10.lt _ hk).1; have h2 := cell_lt s0; simp only at h2; omega)
  replace c0 := keep_below hb10 c0
  replace c1 := keep_below hb10 c1
  replace c2 := keep_below hb10 c2
  replace c3 := keep_below hb10 c3
  replace c4 := keep_below hb10 c4
  replace d0 := keep_below hb10 d0
  replace d1 := keep_below hb10 d1
  replace d2 := keep_below hb10 d2
  replace d3 := keep_below hb10 d3
  replace d4 := keep_below hb10 d4
  replace p0 := keep_below hb10 p0
  replace p1 := keep_below hb10 p1
  replace p2 := keep_below hb10 p2
  replace p3 := keep_below hb10 p3
  replace p4 := keep_below hb10 p4
  replace q0 := keep_below hb10 q0
  replace q1 := keep_below hb10 q1
  replace q2 := keep_below hb10 q2
  replace q3 := keep_below hb10 q3
  replace q4 := keep_below hb10 q4
  replace s0 := keep_below hb10 s0
  replace s1 := keep_below hb10 s1
  replace s2 := keep_below hb10 s2
  replace s3 := keep_below hb10 s3
  replace s4 := keep_below hb10 s4
  have HOG1_10 := Lib.hid (HOG1_9.out.blw hb10)
  clear HOG1_9
  have HOX0_10 := Lib.hid (HOX0_9.out.blw hb10)
  clear HOX0_9
  have HOX1_10 := Lib.hid (HOX1_9.out.blw hb10)
  clear HOX1_9
  have HOX2_10 := Lib.hid (HOX2_9.out.blw hb10)
  clear HOX2_9
  have HPG0 := Lib.hid hp10
  have HOG0_10 := Lib.hid (ho10.base HB9.out.size)
  have HNG0 := Lib.hid hn10
  clear hp10 ho10 hn10
  clear hb10
  have HXg_G1 : Hid (w10.heap.size ∉ G1.blks) := Lib.hid (fun hk => by have h2 := (HOG1_10.out.lt _ hk).2; omega)
  have HXg_X0 : Hid (w10.heap.size ∉ X0.blks) := Lib.hid (fun hk => by have h2 := (HOX0_10.out.lt _ hk).2; omega)
  have HXg_X1 : Hid (w10.heap.size ∉ X1.blks) := Lib.hid (fun hk => by have h2 := (HOX1_10.out.lt _ hk).2; omega)
  have HXg_X2 : Hid (w10.heap.size ∉ X2.blks) := Lib.hid (fun hk => by have h2 := (HOX2_10.out.lt _ hk).2; omega)
  have HXg_G0 : Hid (w10.heap.size ∉ G0.blks) := Lib.hid (fun hk => by have h2 := (HOG0_10.out.lt _ hk).2; omega)
  have hv11 := vbox w10 (.cells #[.int .i64 G0.k, .int .i64 G0.n, .int .i64 G0.x, .string ⟨G0.s.toArray⟩, .slice G0.a G0.l.length G0.cap] 26)
  have HB11 := Lib.hid (HB10.out.trans (hv11.mono HB10.out.size))
  replace c0 := keep_below hv11 c0
  replace c1 := keep_below hv11 c1
  replace c2 := keep_below hv11 c2
  replace c3 := keep_below hv11 c3
  replace c4 := keep_below hv11 c4
  replace d0 := keep_below hv11 d0
  replace d1 := keep_below hv11 d1
  replace d2 := keep_below hv11 d2
  replace d3 := keep_below hv11 d3
  replace d4 := keep_below hv11 d4
  replace p0 := keep_below hv11 p0
  replace p1 := keep_below hv11 p1
  replace p2 := keep_below hv11 p2
  replace p3 := keep_below hv11 p3
  replace p4 := keep_below hv11 p4
  replace q0 := keep_below hv11 q0
  replace q1 := keep_below hv11 q1
  replace q2 := keep_below hv11 q2
  replace q3 := keep_below hv11 q3
  replace q4 := keep_below hv11 q4
  replace s0 := keep_below hv11 s0
  replace s1 := keep_below hv11 s1
  replace s2 := keep_below hv11 s2
  replace s3 := keep_below hv11 s3
  replace s4 := keep_below hv11 s4
  have HOG1_11 := Lib.hid (HOG1_10.out.blw hv11)
  clear HOG1_10
  have HOX0_11 := Lib.hid (HOX0_10.out.blw hv11)
  clear HOX0_10
  have HOX1_11 := Lib.hid (HOX1_10.out.blw hv11)
  clear HOX1_10
  have HOX2_11 := Lib.hid (HOX2_10.out.blw hv11)
  clear HOX2_10
  have HOG0_11 := Lib.hid (HOG0_10.out.blw hv11)
  clear HOG0_10
  obtain ⟨g0, g1, g2, g3, g4⟩ := vcells5 w10 G0 26
  clear hv11
  go_wp2_with fail
  generalize (w10.alloc (.cells #[.int .i64 G0.k, .int .i64 G0.n, .int .i64 G0.x, .string ⟨G0.s.toArray⟩, .slice G0.a G0.l.length G0.cap] 26)) = w11 at *
  refine (HER.out G0 G1 HPG0.out HPG1.out _ HOG0_11.out.in HOG1_11.out.in).mono ?_
  rintro e w12 ⟨rfl, hb12⟩
  have HB12 := Lib.hid (HB11.out.trans (hb12.mono HB11.out.size))
  replace c0 := keep_below hb12 c0
  replace c1 := keep_below hb12 c1
  replace c2 := keep_below hb12 c2
  replace c3 := keep_below hb12 c3
  replace c4 := keep_below hb12 c4
  replace d0 := keep_below hb12 d0
  replace d1 := keep_below hb12 d1
  replace d2 := keep_below hb12 d2
  replace d3 := keep_below hb12 d3
  replace d4 := keep_below hb12 d4
  replace p0 := keep_below hb12 p0
  replace p1 := keep_below hb12 p1
  replace p2 := keep_below hb12 p2
  replace p3 := keep_below hb12 p3
  replace p4 := keep_below hb12 p4
  replace q0 := keep_below hb12 q0
  replace q1 := keep_below hb12 q1
  replace q2 := keep_below hb12 q2
  replace q3 := keep_below hb12 q3
  replace q4 := keep_below hb12 q4
  replace s0 := keep_below hb12 s0
  replace s1 := keep_below hb12 s1
  replace s2 := keep_below hb12 s2
  replace s3 := keep_below hb12 s3
  replace s4 := keep_below hb12 s4
  replace g0 := keep_below hb12 g0
  replace g1 := keep_below hb12 g1
  replace g2 := keep_below hb12 g2
  replace g3 := keep_below hb12 g3
  replace g4 := keep_below hb12 g4
  have HOG1_12 := Lib.hid (HOG1_11.out.blw hb12)
  clear HOG1_11
  have HOX0_12 := Lib.hid (HOX0_11.out.blw hb12)
  clear HOX0_11
  have HOX1_12 := Lib.hid (HOX1_11.out.blw hb12)
  clear HOX1_11
  have HOX2_12 := Lib.hid (HOX2_11.out.blw hb12)
  clear HOX2_11
  have HOG0_12 := Lib.hid (HOG0_11.out.blw hb12)
  clear HOG0_11
  clear hb12
  go_wp2_with fail
  have hownG1 := HOG1_12.out
  have hownX0 := HOX0_12.out
  have hownX1 := HOX1_12.out
  have hownX2 := HOX2_12.out
  have hownG0 := HOG0_12.out
  have hbel := HB12.out
  go_region_held3 (fun W' => W'.cell? ⟨w.heap.size, 0, none⟩ = some (.int .i64 T.k) ∧ W'.cell? ⟨w.heap.size, 1, none⟩ = some (.int .i64 T.n) ∧ W'.cell? ⟨w.heap.size, 2, none⟩ = some (.int .i64 T.x) ∧ W'.cell? ⟨w.heap.size, 3, none⟩ = some (.string ⟨T.s.toArray⟩) ∧ W'.cell? ⟨w.heap.size, 4, none⟩ = some (.slice T.a T.l.length T.cap) ∧ W'.cell? ⟨w.heap.size + 1, 0, none⟩ = some (.int .i64 U.k) ∧ W'.cell? ⟨w.heap.size + 1, 1, none⟩ = some (.int .i64 U.n) ∧ W'.cell? ⟨w.heap.size + 1, 2, none⟩ = some (.int .i64 U.x) ∧ W'.cell? ⟨w.heap.size + 1, 3, none⟩ = some (.string ⟨U.s.toArray⟩) ∧ W'.cell? ⟨w.heap.size + 1, 4, none⟩ = some (.slice U.a U.l.length U.cap) ∧ W'.cell? ⟨Bp, 0, none⟩ = some (.int .i64 G1.k) ∧ W'.cell? ⟨Bp, 1, none⟩ = some (.int .i64 G1.n) ∧ W'.cell? ⟨Bp, 2, none⟩ = some (.int .i64 G1.x) ∧ W'.cell? ⟨Bp, 3, none⟩ = some (.string ⟨G1.s.toArray⟩) ∧ W'.cell? ⟨Bp, 4, none⟩ = some (.slice G1.a G1.l.length G1.cap) ∧ W'.cell? ⟨w5.heap.size, 0, none⟩ = some (.int .i64 X0.k) ∧ W'.cell? ⟨w5.heap.size, 1, none⟩ = some (.int .i64 X0.n) ∧ W'.cell? ⟨w5.heap.size, 2, none⟩ = some (.int .i64 X0.x) ∧ W'.cell? ⟨w5.heap.size, 3, none⟩ = some (.string ⟨X0.s.toArray⟩) ∧ W'.cell? ⟨w5.heap.size, 4, none⟩ = some (.slice X0.a X0.l.length X0.cap) ∧ W'.cell? ⟨w8.heap.size, 0, none⟩ = some (.int .i64 X2.k) ∧ W'.cell? ⟨w8.heap.size, 1, none⟩ = some (.int .i64 X2.n) ∧ W'.cell? ⟨w8.heap.size, 2, none⟩ = some (.int .i64 X2.x) ∧ W'.cell? ⟨w8.heap.size, 3, none⟩ = some (.string ⟨X2.s.toArray⟩) ∧ W'.cell? ⟨w8.heap.size, 4, none⟩ = some (.slice X2.a X2.l.length X2.cap) ∧ W'.cell? ⟨w10.heap.size, 0, none⟩ = some (.int .i64 G0.k) ∧ W'.cell? ⟨w10.heap.size, 1, none⟩ = some (.int .i64 G0.n) ∧ W'.cell? ⟨w10.heap.size, 2, none⟩ = some (.int .i64 G0.x) ∧ W'.cell? ⟨w10.heap.size, 3, none⟩ = some (.string ⟨G0.s.toArray⟩) ∧ W'.cell? ⟨w10.heap.size, 4, none⟩ = some (.slice G0.a G0.l.length G0.cap) ∧ Below w.heap.size w W' ∧ G1.Own W' w.heap.size ∧ X0.Own W' w.heap.size ∧ X1.Own W' w.heap.size ∧ X2.Own W' w.heap.size ∧ G0.Own W' w.heap.size) ((refine ⟨?_, ?_, ?_, ?_, ?_, ?_, ?_, ?_, ?_, ?_, ?_, ?_, ?_, ?_, ?_, ?_, ?_, ?_, ?_, ?_, ?_, ?_, ?_, ?_, ?_, ?_, ?_, ?_, ?_, ?_, ?_, ?_, ?_, ?_, ?_, ?_⟩ <;> first | assumption | (refine Below.drew ?_; assumption) | (refine AT.Own.drew ?_; assumption) | exact keep_below (by assumption) (by assumption) | exact below_tr (by assumption) (by assumption) | exact own_blw (by assumption) (by assumption) | (refine SR.Own.drew ?_; assumption) | exact sown_blw (by assumption) (by assumption))) ((first | (go_at_call 64; go_split_ands; ((with_reducible refine (HTVT.out _ (by assumption)).mono ?_); rintro e u0 ⟨Y0, hpu0, rfl, hou0, hnu0, hbu0⟩; have HOu0 := Lib.hid hou0; have HPu0 := Lib.hid hpu0; clear hou0 hnu0 hpu0)) | (go_at_call 65; go_split_ands; refine (HEQT.out X0 Y0 HPX0.out HPu0.out _ (AT.Own.in (by assumption)) HOu0.out.in).mono ?_; rintro e v0 ⟨rfl, hbv0⟩)))
  go_split_ands
  replace c0 : v0.cell? ⟨w.heap.size, 0, none⟩ = some (.int .i64 T.k) := by assumption
  replace c1 : v0.cell? ⟨w.heap.size, 1, none⟩ = some (.int .i64 T.n) := by assumption
  replace c2 : v0.cell? ⟨w.heap.size, 2, none⟩ = some (.int .i64 T.x) := by assumption
  replace c3 : v0.cell? ⟨w.heap.size, 3, none⟩ = some (.string ⟨T.s.toArray⟩) := by assumption
  replace c4 : v0.cell? ⟨w.heap.size, 4, none⟩ = some (.slice T.a T.l.length T.cap) := by assumption
  replace d0 : v0.cell? ⟨w.heap.size + 1, 0, none⟩ = some (.int .i64 U.k) := by assumption
  replace d1 : v0.cell? ⟨w.heap.size + 1, 1, none⟩ = some (.int .i64 U.n) := by assumption
  replace d2 : v0.cell? ⟨w.heap.size + 1, 2, none⟩ = some (.int .i64 U.x) := by assumption
  replace d3 : v0.cell? ⟨w.heap.size + 1, 3, none⟩ = some (.string ⟨U.s.toArray⟩) := by assumption
  replace d4 : v0.cell? ⟨w.heap.size + 1, 4, none⟩ = some (.slice U.a U.l.length U.cap) := by assumption
  replace p0 : v0.cell? ⟨Bp, 0, none⟩ = some (.int .i64 G1.k) := by assumption
  replace p1 : v0.cell? ⟨Bp, 1, none⟩ = some (.int .i64 G1.n) := by assumption
  replace p2 : v0.cell? ⟨Bp, 2, none⟩ = some (.int .i64 G1.x) := by assumption
  replace p3 : v0.cell? ⟨Bp, 3, none⟩ = some (.string ⟨G1.s.toArray⟩) := by assumption
  replace p4 : v0.cell? ⟨Bp, 4, none⟩ = some (.slice G1.a G1.l.length G1.cap) := by assumption
  replace q0 : v0.cell? ⟨w5.heap.size, 0, none⟩ = some (.int .i64 X0.k) := by assumption
  replace q1 : v0.cell? ⟨w5.heap.size, 1, none⟩ = some (.int .i64 X0.n) := by assumption
  replace q2 : v0.cell? ⟨w5.heap.size, 2, none⟩ = some (.int .i64 X0.x) := by assumption
  replace q3 : v0.cell? ⟨w5.heap.size, 3, none⟩ = some (.string ⟨X0.s.toArray⟩) := by assumption
  replace q4 : v0.cell? ⟨w5.heap.size, 4, none⟩ = some (.slice X0.a X0.l.length X0.cap) := by assumption
  replace s0 : v0.cell? ⟨w8.heap.size, 0, none⟩ = some (.int .i64 X2.k) := by assumption
  replace s1 : v0.cell? ⟨w8.heap.size, 1, none⟩ = some (.int .i64 X2.n) := by assumption
  replace s2 : v0.cell? ⟨w8.heap.size, 2, none⟩ = some (.int .i64 X2.x) := by assumption
  replace s3 : v0.cell? ⟨w8.heap.size, 3, none⟩ = some (.string ⟨X2.s.toArray⟩) := by assumption
  replace s4 : v0.cell? ⟨w8.heap.size, 4, none⟩ = some (.slice X2.a X2.l.length X2.cap) := by assumption
  replace g0 : v0.cell? ⟨w10.heap.size, 0, none⟩ = some (.int .i64 G0.k) := by assumption
  replace g1 : v0.cell? ⟨w10.heap.size, 1, none⟩ = some (.int .i64 G0.n) := by assumption
  replace g2 : v0.cell? ⟨w10.heap.size, 2, none⟩ = some (.int .i64 G0.x) := by assumption
  replace g3 : v0.cell? ⟨w10.heap.size, 3, none⟩ = some (.string ⟨G0.s.toArray⟩) := by assumption
  replace g4 : v0.cell? ⟨w10.heap.size, 4, none⟩ = some (.slice G0.a G0.l.length G0.cap) := by assumption
  have HB13 : Hid (Below w.heap.size w v0) := Lib.hid (by assumption)
  have HOG1_13 : Hid (G1.Own v0 w.heap.size) := Lib.hid (by assumption)
  have HOX0_13 : Hid (X0.Own v0 w.heap.size) := Lib.hid (by assumption)
  have HOX1_13 : Hid (X1.Own v0 w.heap.size) := Lib.hid (by assumption)
  have HOX2_13 : Hid (X2.Own v0 w.heap.size) := Lib.hid (by assumption)
  have HOG0_13 : Hid (G0.Own v0 w.heap.size) := Lib.hid (by assumption)
  clear hbel hownG1 hownX0 hownX1 hownX2 hownG0
  go_wp2_with fail
  refine (HTVP.out _ HB13.out).mono ?_
  rintro e w14 ⟨Z1, hp14, rfl, ho14, hn14, hb14⟩
  have HB14 := Lib.hid (HB13.out.trans (hb14.mono HB13.out.size))
  have HDZ1_G1 : Hid (∀ k ∈ Z1.blks, k ∉ G1.blks) := Lib.hid (fun k hk hk2 => by have h1 := (ho14.lt k hk).1; have h2 := (HOG1_13.out.lt k hk2).2; omega)
  have HDG1_Z1 : Hid (∀ k ∈ G1.blks, k ∉ Z1.blks) := Lib.hid (fun k hk hk2 => by have h1 := (ho14.lt k hk2).1; have h2 := (HOG1_13.out.lt k hk).2; omega)
  have HDZ1_X0 : Hid (∀ k ∈ Z1.blks, k ∉ X0.blks) := Lib.hid (fun k hk hk2 => by have h1 := (ho14.lt k hk).1; have h2 := (HOX0_13.out.lt k hk2).2; omega)
  have HDX0_Z1 : Hid (∀ k ∈ X0.blks, k ∉ Z1.blks) := Lib.hid (fun k hk hk2 => by have h1 := (ho14.lt k hk2).1; have h2 := (HOX0_13.out.lt k hk).2; omega)
  have HDZ1_X1 : Hid (∀ k ∈ Z1.blks, k ∉ X1.blks) := Lib.hid (fun k hk hk2 => by have h1 := (ho14.lt k hk).1; have h2 := (HOX1_13.out.lt k hk2).2; omega)
  have HDX1_Z1 : Hid (∀ k ∈ X1.blks, k ∉ Z1.blks) := Lib.hid (fun k hk hk2 => by have h1 := (ho14.lt k hk2).1; have h2 := (HOX1_13.out.lt k hk).2; omega)
  have HDZ1_X2 : Hid (∀ k ∈ Z1.blks, k ∉ X2.blks) := Lib.hid (fun k hk hk2 => by have h1 := (ho14.lt k hk).1; have h2 := (HOX2_13.out.lt k hk2).2; omega)
  have HDX2_Z1 : Hid (∀ k ∈ X2.blks, k ∉ Z1.blks) := Lib.hid (fun k hk hk2 => by have h1 := (ho14.lt k hk2).1; have h2 := (HOX2_13.out.lt k hk).2; omega)
  have HDZ1_G0 : Hid (∀ k ∈ Z1.blks, k ∉ G0.blks) := Lib.hid (fun k hk hk2 => by have h1 := (ho14.lt k hk).1; have h2 := (HOG0_13.out.lt k hk2).2; omega)
  have HDG0_Z1 : Hid (∀ k ∈ G0.blks, k ∉ Z1.blks) := Lib.hid (fun k hk hk2 => by have h1 := (ho14.lt k hk2).1; have h2 := (HOG0_13.out.lt k hk).2; omega)
  have HXc_Z1 : Hid (w.heap.size ∉ Z1.blks) := Lib.hid (fun hk => by have h1 := (ho14.lt _ hk).1; have h2 := cell_lt c0; simp only at h2; omega)
  have HXd_Z1 : Hid (w.heap.size + 1 ∉ Z1.blks) := Lib.hid (fun hk => by have h1 := (ho14.lt _ hk).1; have h2 := cell_lt d0; simp only at h2; omega)
  have HXp_Z1 : Hid (Bp ∉ Z1.blks) := Lib.hid (fun hk => by have h1 := (ho14.lt _ hk).1; have h2 := cell_lt p0; simp only at h2; omega)
  have HXq_Z1 : Hid (w5.heap.size ∉ Z1.blks) := Lib.hid (fun hk => by have h1 := (ho14.lt _ hk).1; have h2 := cell_lt q0; simp only at h2; omega)
  have HXs_Z1 : Hid (w8.heap.size ∉ Z1.blks) := Lib.hid (fun hk => by have h1 := (ho14.lt _ hk).1; have h2 := cell_lt s0; simp only at h2; omega)
  have HXg_Z1 : Hid (w10.heap.size ∉ Z1.blks) := Lib.hid (fun hk => by have h1 := (ho14.lt _ hk).1; have h2 := cell_lt g0; simp only at h2; omega)
  replace c0 := keep_below hb14 c0
  replace c1 := keep_below hb14 c1
  replace c2 := keep_below hb14 c2
  replace c3 := keep_below hb14 c3
  replace c4 := keep_below hb14 c4
  replace d0 := keep_below hb14 d0
  replace d1 := keep_below hb14 d1
  replace d2 := keep_below hb14 d2
  replace d3 := keep_below hb14 d3
  replace d4 := keep_below hb14 d4
  replace p0 := keep_below hb14 p0
  replace p1 := keep_below hb14 p1
  replace p2 := keep_below hb14 p2
  replace p3 := keep_below hb14 p3
  replace p4 := keep_below hb14 p4
  replace q0 := keep_below hb14 q0
  replace q1 := keep_below hb14 q1
  replace q2 := keep_below hb14 q2
  replace q3 := keep_below hb14 q3
  replace q4 := keep_below hb14 q4
  replace s0 := keep_below hb14 s0
  replace s1 := keep_below hb14 s1
  replace s2 := keep_below hb14 s2
  replace s3 := keep_below hb14 s3
  replace s4 := keep_below hb14 s4
  replace g0 := keep_below hb14 g0
  replace g1 := keep_below hb14 g1
  replace g2 := keep_below hb14 g2
  replace g3 := keep_below hb14 g3
  replace g4 := keep_below hb14 g4
  have HOG1_14 := Lib.hid (HOG1_13.out.blw hb14)
  clear HOG1_13
  have HOX0_14 := Lib.hid (HOX0_13.out.blw hb14)
  clear HOX0_13
  have HOX1_14 := Lib.hid (HOX1_13.out.blw hb14)
  clear HOX1_13
  have HOX2_14 := Lib.hid (HOX2_13.out.blw hb14)
  clear HOX2_13
  have HOG0_14 := Lib.hid (HOG0_13.out.blw hb14)
  clear HOG0_13
  have HPZ1 := Lib.hid hp14
  have HOZ1_14 := Lib.hid (ho14.base HB13.out.size)
  have HNZ1 := Lib.hid hn14
  clear hp14 ho14 hn14
  clear hb14
  go_wp2_with fail
  refine (HEQP.out X1 Z1 HPX1.out HPZ1.out _ HOX1_14.out.sat HOZ1_14.out.sat).mono ?_
  rintro e w15 ⟨rfl, hb15⟩
  have HB15 := Lib.hid (HB14.out.trans (hb15.mono HB14.out.size))
  replace c0 := keep_below hb15 c0
  replace c1 := keep_below hb15 c1
  replace c2 := keep_below hb15 c2
  replace c3 := keep_below hb15 c3
  replace c4 := keep_below hb15 c4
  replace d0 := keep_below hb15 d0
  replace d1 := keep_below hb15 d1
  replace d2 := keep_below hb15 d2
  replace d3 := keep_below hb15 d3
  replace d4 := keep_below hb15 d4
  replace p0 := keep_below hb15 p0
  replace p1 := keep_below hb15 p1
  replace p2 := keep_below hb15 p2
  replace p3 := keep_below hb15 p3
  replace p4 := keep_below hb15 p4
  replace q0 := keep_below hb15 q0
  replace q1 := keep_below hb15 q1
  replace q2 := keep_below hb15 q2
  replace q3 := keep_below hb15 q3
  replace q4 := keep_below hb15 q4
  replace s0 := keep_below hb15 s0
  replace s1 := keep_below hb15 s1
  replace s2 := keep_below hb15 s2
  replace s3 := keep_below hb15 s3
  replace s4 := keep_below hb15 s4
  replace g0 := keep_below hb15 g0
  replace g1 := keep_below hb15 g1
  replace g2 := keep_below hb15 g2
  replace g3 := keep_below hb15 g3
  replace g4 := keep_below hb15 g4
  have HOG1_15 := Lib.hid (HOG1_14.out.blw hb15)
  clear HOG1_14
  have HOX0_15 := Lib.hid (HOX0_14.out.blw hb15)
  clear HOX0_14
  have HOX1_15 := Lib.hid (HOX1_14.out.blw hb15)
  clear HOX1_14
  have HOX2_15 := Lib.hid (HOX2_14.out.blw hb15)
  clear HOX2_14
  have HOG0_15 := Lib.hid (HOG0_14.out.blw hb15)
  clear HOG0_14
  have HOZ1_15 := Lib.hid (HOZ1_14.out.blw hb15)
  clear HOZ1_14
  clear hb15
  go_wp2_with fail
  have hownG1 := HOG1_15.out
  have hownX0 := HOX0_15.out
  have hownX1 := HOX1_15.out
  have hownX2 := HOX2_15.out
  have hownG0 := HOG0_15.out
  have hbel := HB15.out
  go_region_held3 (fun W' => W'.cell? ⟨w.heap.size, 0, none⟩ = some (.int .i64 T.k) ∧ W'.cell? ⟨w.heap.size, 1, none⟩ = some (.int .i64 T.n) ∧ W'.cell? ⟨w.heap.size, 2, none⟩ = some (.int .i64 T.x) ∧ W'.cell? ⟨w.heap.size, 3, none⟩ = some (.string ⟨T.s.toArray⟩) ∧ W'.cell? ⟨w.heap.size, 4, none⟩ = some (.slice T.a T.l.length T.cap) ∧ W'.cell? ⟨w.heap.size + 1, 0, none⟩ = some (.int .i64 U.k) ∧ W'.cell? ⟨w.heap.size + 1, 1, none⟩ = some (.int .i64 U.n) ∧ W'.cell? ⟨w.heap.size + 1, 2, none⟩ = some (.int .i64 U.x) ∧ W'.cell? ⟨w.heap.size + 1, 3, none⟩ = some (.string ⟨U.s.toArray⟩) ∧ W'.cell? ⟨w.heap.size + 1, 4, none⟩ = some (.slice U.a U.l.length U.cap) ∧ W'.cell? ⟨Bp, 0, none⟩ = some (.int .i64 G1.k) ∧ W'.cell? ⟨Bp, 1, none⟩ = some (.int .i64 G1.n) ∧ W'.cell? ⟨Bp, 2, none⟩ = some (.int .i64 G1.x) ∧ W'.cell? ⟨Bp, 3, none⟩ = some (.string ⟨G1.s.toArray⟩) ∧ W'.cell? ⟨Bp, 4, none⟩ = some (.slice G1.a G1.l.length G1.cap) ∧ W'.cell? ⟨w5.heap.size, 0, none⟩ = some (.int .i64 X0.k) ∧ W'.cell? ⟨w5.heap.size, 1, none⟩ = some (.int .i64 X0.n) ∧ W'.cell? ⟨w5.heap.size, 2, none⟩ = some (.int .i64 X0.x) ∧ W'.cell? ⟨w5.heap.size, 3, none⟩ = some (.string ⟨X0.s.toArray⟩) ∧ W'.cell? ⟨w5.heap.size, 4, none⟩ = some (.slice X0.a X0.l.length X0.cap) ∧ W'.cell? ⟨w8.heap.size, 0, none⟩ = some (.int .i64 X2.k) ∧ W'.cell? ⟨w8.heap.size, 1, none⟩ = some (.int .i64 X2.n) ∧ W'.cell? ⟨w8.heap.size, 2, none⟩ = some (.int .i64 X2.x) ∧ W'.cell? ⟨w8.heap.size, 3, none⟩ = some (.string ⟨X2.s.toArray⟩) ∧ W'.cell? ⟨w8.heap.size, 4, none⟩ = some (.slice X2.a X2.l.length X2.cap) ∧ W'.cell? ⟨w10.heap.size, 0, none⟩ = some (.int .i64 G0.k) ∧ W'.cell? ⟨w10.heap.size, 1, none⟩ = some (.int .i64 G0.n) ∧ W'.cell? ⟨w10.heap.size, 2, none⟩ = some (.int .i64 G0.x) ∧ W'.cell? ⟨w10.heap.size, 3, none⟩ = some (.string ⟨G0.s.toArray⟩) ∧ W'.cell? ⟨w10.heap.size, 4, none⟩ = some (.slice G0.a G0.l.length G0.cap) ∧ Below w.heap.size w W' ∧ G1.Own W' w.heap.size ∧ X0.Own W' w.heap.size ∧ X1.Own W' w.heap.size ∧ X2.Own W' w.heap.size ∧ G0.Own W' w.heap.size) ((refine ⟨?_, ?_, ?_, ?_, ?_, ?_, ?_, ?_, ?_, ?_, ?_, ?_, ?_, ?_, ?_, ?_, ?_, ?_, ?_, ?_, ?_, ?_, ?_, ?_, ?_, ?_, ?_, ?_, ?_, ?_, ?_, ?_, ?_, ?_, ?_, ?_⟩ <;> first | assumption | (refine Below.drew ?_; assumption) | (refine AT.Own.drew ?_; assumption) | exact keep_below (by assumption) (by assumption) | exact below_tr (by assumption) (by assumption) | exact own_blw (by assumption) (by assumption) | (refine SR.Own.drew ?_; assumption) | exact sown_blw (by assumption) (by assumption))) ((first | (go_at_call 64; go_split_ands; ((with_reducible refine (HTVU.out _ (by assumption)).mono ?_); rintro e u2 ⟨Y2, hpu2, rfl, hou2, hnu2, hbu2⟩; have HOu2 := Lib.hid hou2; have HPu2 := Lib.hid hpu2; clear hou2 hnu2 hpu2)) | (go_at_call 65; go_split_ands; refine (HEQU.out X2 Y2 HPX2.out HPu2.out _ (AT.Own.in (by assumption)) HOu2.out.in).mono ?_; rintro e v2 ⟨rfl, hbv2⟩)))
  go_split_ands
  replace c0 : v2.cell? ⟨w.heap.size, 0, none⟩ = some (.int .i64 T.k) := by assumption
  replace c1 : v2.cell? ⟨w.heap.size, 1, none⟩ = some (.int .i64 T.n) := by assumption
  replace c2 : v2.cell? ⟨w.heap.size, 2, none⟩ = some (.int .i64 T.x) := by assumption
  replace c3 : v2.cell? ⟨w.heap.size, 3, none⟩ = some (.string ⟨T.s.toArray⟩) := by assumption
  replace c4 : v2.cell? ⟨w.heap.size, 4, none⟩ = some (.slice T.a T.l.length T.cap) := by assumption
  replace d0 : v2.cell? ⟨w.heap.size + 1, 0, none⟩ = some (.int .i64 U.k) := by assumption
  replace d1 : v2.cell? ⟨w.heap.size + 1, 1, none⟩ = some (.int .i64 U.n) := by assumption
  replace d2 : v2.cell? ⟨w.heap.size + 1, 2, none⟩ = some (.int .i64 U.x) := by assumption
  replace d3 : v2.cell? ⟨w.heap.size + 1, 3, none⟩ = some (.string ⟨U.s.toArray⟩) := by assumption
  replace d4 : v2.cell? ⟨w.heap.size + 1, 4, none⟩ = some (.slice U.a U.l.length U.cap) := by assumption
  replace p0 : v2.cell? ⟨Bp, 0, none⟩ = some (.int .i64 G1.k) := by assumption
  replace p1 : v2.cell? ⟨Bp, 1, none⟩ = some (.int .i64 G1.n) := by assumption
  replace p2 : v2.cell? ⟨Bp, 2, none⟩ = some (.int .i64 G1.x) := by assumption
  replace p3 : v2.cell? ⟨Bp, 3, none⟩ = some (.string ⟨G1.s.toArray⟩) := by assumption
  replace p4 : v2.cell? ⟨Bp, 4, none⟩ = some (.slice G1.a G1.l.length G1.cap) := by assumption
  replace q0 : v2.cell? ⟨w5.heap.size, 0, none⟩ = some (.int .i64 X0.k) := by assumption
  replace q1 : v2.cell? ⟨w5.heap.size, 1, none⟩ = some (.int .i64 X0.n) := by assumption
  replace q2 : v2.cell? ⟨w5.heap.size, 2, none⟩ = some (.int .i64 X0.x) := by assumption
  replace q3 : v2.cell? ⟨w5.heap.size, 3, none⟩ = some (.string ⟨X0.s.toArray⟩) := by assumption
  replace q4 : v2.cell? ⟨w5.heap.size, 4, none⟩ = some (.slice X0.a X0.l.length X0.cap) := by assumption
  replace s0 : v2.cell? ⟨w8.heap.size, 0, none⟩ = some (.int .i64 X2.k) := by assumption
  replace s1 : v2.cell? ⟨w8.heap.size, 1, none⟩ = some (.int .i64 X2.n) := by assumption
  replace s2 : v2.cell? ⟨w8.heap.size, 2, none⟩ = some (.int .i64 X2.x) := by assumption
  replace s3 : v2.cell? ⟨w8.heap.size, 3, none⟩ = some (.string ⟨X2.s.toArray⟩) := by assumption
  replace s4 : v2.cell? ⟨w8.heap.size, 4, none⟩ = some (.slice X2.a X2.l.length X2.cap) := by assumption
  replace g0 : v2.cell? ⟨w10.heap.size, 0, none⟩ = some (.int .i64 G0.k) := by assumption
  replace g1 : v2.cell? ⟨w10.heap.size, 1, none⟩ = some (.int .i64 G0.n) := by assumption
  replace g2 : v2.cell? ⟨w10.heap.size, 2, none⟩ = some (.int .i64 G0.x) := by assumption
  replace g3 : v2.cell? ⟨w10.heap.size, 3, none⟩ = some (.string ⟨G0.s.toArray⟩) := by assumption
  replace g4 : v2.cell? ⟨w10.heap.size, 4, none⟩ = some (.slice G0.a G0.l.length G0.cap) := by assumption
  have HB16 : Hid (Below w.heap.size w v2) := Lib.hid (by assumption)
  have HOG1_16 : Hid (G1.Own v2 w.heap.size) := Lib.hid (by assumption)
  have HOX0_16 : Hid (X0.Own v2 w.heap.size) := Lib.hid (by assumption)
  have HOX1_16 : Hid (X1.Own v2 w.heap.size) := Lib.hid (by assumption)
  have HOX2_16 : Hid (X2.Own v2 w.heap.size) := Lib.hid (by assumption)
  have HOG0_16 : Hid (G0.Own v2 w.heap.size) := Lib.hid (by assumption)
  clear hbel hownG1 hownX0 hownX1 hownX2 hownG0
  go_wp2_with fail
  refine (mark_tree X0 _ _ HOX0_16.out HNX0.out (HCAT.out X0 HPX0.out)).mono ?_
  rintro e w17 ⟨⟨rfl, -⟩, hbs17⟩
  have HB17 := Lib.hid (HB16.out.trans (hbs17.below (fun k hk => (HOX0_16.out.lt k hk).1) HB16.out.size))
  replace c0 := hbs17.cell HXc_X0.out c0
  replace c1 := hbs17.cell HXc_X0.out c1
  replace c2 := hbs17.cell HXc_X0.out c2
  replace c3 := hbs17.cell HXc_X0.out c3
  replace c4 := hbs17.cell HXc_X0.out c4
  replace d0 := hbs17.cell HXd_X0.out d0
  replace d1 := hbs17.cell HXd_X0.out d1
  replace d2 := hbs17.cell HXd_X0.out d2
  replace d3 := hbs17.cell HXd_X0.out d3
  replace d4 := hbs17.cell HXd_X0.out d4
  replace p0 := hbs17.cell HXp_X0.out p0
  replace p1 := hbs17.cell HXp_X0.out p1
  replace p2 := hbs17.cell HXp_X0.out p2
  replace p3 := hbs17.cell HXp_X0.out p3
  replace p4 := hbs17.cell HXp_X0.out p4
  replace q0 := hbs17.cell HXq_X0.out q0
  replace q1 := hbs17.cell HXq_X0.out q1
  replace q2 := hbs17.cell HXq_X0.out q2
  replace q3 := hbs17.cell HXq_X0.out q3
  replace q4 := hbs17.cell HXq_X0.out q4
  replace s0 := hbs17.cell HXs_X0.out s0
  replace s1 := hbs17.cell HXs_X0.out s1
  replace s2 := hbs17.cell HXs_X0.out s2
  replace s3 := hbs17.cell HXs_X0.out s3
  replace s4 := hbs17.cell HXs_X0.out s4
  replace g0 := hbs17.cell HXg_X0.out g0
  replace g1 := hbs17.cell HXg_X0.out g1
  replace g2 := hbs17.cell HXg_X0.out g2
  replace g3 := hbs17.cell HXg_X0.out g3
  replace g4 := hbs17.cell HXg_X0.out g4
  have HOG1_17 := Lib.hid (HOG1_16.out.onlyBs hbs17 HDG1_X0.out)
  clear HOG1_16
  have HOX1_17 := Lib.hid (HOX1_16.out.onlyBs hbs17 HDX1_X0.out)
  clear HOX1_16
  have HOX2_17 := Lib.hid (HOX2_16.out.onlyBs hbs17 HDX2_X0.out)
  clear HOX2_16
  have HOG0_17 := Lib.hid (HOG0_16.out.onlyBs hbs17 HDG0_X0.out)
  clear HOG0_16
  clear hbs17 HOX0_16
  rw [HCBT.out X0 HPX0.out, ← HM0.out]
  go_wp2_with fail
  refine (mark_steps X1 _ _ M0 HOX1_17.out (HCAP.out X1 HPX1.out) (by have := hm0b; omega)).mono ?_
  rintro e w18 ⟨⟨rfl, -⟩, hbs18⟩
  have HB18 := Lib.hid (HB17.out.trans (hbs18.below (fun k hk => (HOX1_17.out.lt k hk).1) HB17.out.size))
  replace c0 := hbs18.cell HXc_X1.out c0
  replace c1 := hbs18.cell HXc_X1.out c1
  replace c2 := hbs18.cell HXc_X1.out c2
  replace c3 := hbs18.cell HXc_X1.out c3
  replace c4 := hbs18.cell HXc_X1.out c4
  replace d0 := hbs18.cell HXd_X1.out d0
  replace d1 := hbs18.cell HXd_X1.out d1
  replace d2 := hbs18.cell HXd_X1.out d2
  replace d3 := hbs18.cell HXd_X1.out d3
  replace d4 := hbs18.cell HXd_X1.out d4
  replace p0 := hbs18.cell HXp_X1.out p0
  replace p1 := hbs18.cell HXp_X1.out p1
  replace p2 := hbs18.cell HXp_X1.out p2
  replace p3 := hbs18.cell HXp_X1.out p3
  replace p4 := hbs18.cell HXp_X1.out p4
  replace q0 := hbs18.cell HXq_X1.out q0
  replace q1 := hbs18.cell HXq_X1.out q1
  replace q2 := hbs18.cell HXq_X1.out q2
  replace q3 := hbs18.cell HXq_X1.out q3
  replace q4 := hbs18.cell HXq_X1.out q4
  replace s0 := hbs18.cell HXs_X1.out s0
  replace s1 := hbs18.cell HXs_X1.out s1
  replace s2 := hbs18.cell HXs_X1.out s2
  replace s3 := hbs18.cell HXs_X1.out s3
  replace s4 := hbs18.cell HXs_X1.out s4
  replace g0 := hbs18.cell HXg_X1.out g0
  replace g1 := hbs18.cell HXg_X1.out g1
  replace g2 := hbs18.cell HXg_X1.out g2
  replace g3 := hbs18.cell HXg_X1.out g3
  replace g4 := hbs18.cell HXg_X1.out g4
  have HOG1_18 := Lib.hid (HOG1_17.out.onlyBs hbs18 HDG1_X1.out)
  clear HOG1_17
  have HOX2_18 := Lib.hid (HOX2_17.out.onlyBs hbs18 HDX2_X1.out)
  clear HOX2_17
  have HOG0_18 := Lib.hid (HOG0_17.out.onlyBs hbs18 HDG0_X1.out)
  clear HOG0_17
  clear hbs18 HOX1_17
  rw [HCBP.out X1 HPX1.out, ← HM1.out]
  go_wp2_with fail
  refine (mark_from2 X2 _ _ M1 HOX2_18.out HNX2.out (HCAU.out X2 HPX2.out) hm1a (by have := hm1b; omega)).mono ?_
  rintro e w19 ⟨⟨rfl, -⟩, hbs19⟩
  have HB19 := Lib.hid (HB18.out.trans (hbs19.below (fun k hk => (HOX2_18.out.lt k hk).1) HB18.out.size))
  replace c0 := hbs19.cell HXc_X2.out c0
  replace c1 := hbs19.cell HXc_X2.out c1
  replace c2 := hbs19.cell HXc_X2.out c2
  replace c3 := hbs19.cell HXc_X2.out c3
  replace c4 := hbs19.cell HXc_X2.out c4
  replace d0 := hbs19.cell HXd_X2.out d0
  replace d1 := hbs19.cell HXd_X2.out d1
  replace d2 := hbs19.cell HXd_X2.out d2
  replace d3 := hbs19.cell HXd_X2.out d3
  replace d4 := hbs19.cell HXd_X2.out d4
  replace p0 := hbs19.cell HXp_X2.out p0
  replace p1 := hbs19.cell HXp_X2.out p1
  replace p2 := hbs19.cell HXp_X2.out p2
  replace p3 := hbs19.cell HXp_X2.out p3
  replace p4 := hbs19.cell HXp_X2.out p4
  replace q0 := hbs19.cell HXq_X2.out q0
  replace q1 := hbs19.cell HXq_X2.out q1
  replace q2 := hbs19.cell HXq_X2.out q2
  replace q3 := hbs19.cell HXq_X2.out q3
  replace q4 := hbs19.cell HXq_X2.out q4
  replace s0 := hbs19.cell HXs_X2.out s0
  replace s1 := hbs19.cell HXs_X2.out s1
  replace s2 := hbs19.cell HXs_X2.out s2
  replace s3 := hbs19.cell HXs_X2.out s3
  replace s4 := hbs19.cell HXs_X2.out s4
  replace g0 := hbs19.cell HXg_X2.out g0
  replace g1 := hbs19.cell HXg_X2.out g1
  replace g2 := hbs19.cell HXg_X2.out g2
  replace g3 := hbs19.cell HXg_X2.out g3
  replace g4 := hbs19.cell HXg_X2.out g4
  have HOG1_19 := Lib.hid (HOG1_18.out.onlyBs hbs19 HDG1_X2.out)
  clear HOG1_18
  have HOG0_19 := Lib.hid (HOG0_18.out.onlyBs hbs19 HDG0_X2.out)
  clear HOG0_18
  clear hbs19 HOX2_18
  rw [HCBU.out X2 HPX2.out, ← HM2.out]
  go_wp2_with fail
  refine (HER.out G0 G1 HPG0.out HPG1.out _ HOG0_19.out.in HOG1_19.out.in).mono ?_
  rintro e w20 ⟨rfl, hb20⟩
  have HB20 := Lib.hid (HB19.out.trans (hb20.mono HB19.out.size))
  replace c0 := keep_below hb20 c0
  replace c1 := keep_below hb20 c1
  replace c2 := keep_below hb20 c2
  replace c3 := keep_below hb20 c3
  replace c4 := keep_below hb20 c4
  replace d0 := keep_below hb20 d0
  replace d1 := keep_below hb20 d1
  replace d2 := keep_below hb20 d2
  replace d3 := keep_below hb20 d3
  replace d4 := keep_below hb20 d4
  replace p0 := keep_below hb20 p0
  replace p1 := keep_below hb20 p1
  replace p2 := keep_below hb20 p2
  replace p3 := keep_below hb20 p3
  replace p4 := keep_below hb20 p4
  replace q0 := keep_below hb20 q0
  replace q1 := keep_below hb20 q1
  replace q2 := keep_below hb20 q2
  replace q3 := keep_below hb20 q3
  replace q4 := keep_below hb20 q4
  replace s0 := keep_below hb20 s0
  replace s1 := keep_below hb20 s1
  replace s2 := keep_below hb20 s2
  replace s3 := keep_below hb20 s3
  replace s4 := keep_below hb20 s4
  replace g0 := keep_below hb20 g0
  replace g1 := keep_below hb20 g1
  replace g2 := keep_below hb20 g2
  replace g3 := keep_below hb20 g3
  replace g4 := keep_below hb20 g4
  have HOG1_20 := Lib.hid (HOG1_19.out.blw hb20)
  clear HOG1_19
  have HOG0_20 := Lib.hid (HOG0_19.out.blw hb20)
  clear HOG0_19
  clear hb20
  go_wp2_with fail
  refine (mark_tree G0 _ _ HOG0_20.out HNG0.out (HCN.out G0 HPG0.out)).mono ?_
  rintro e w21 ⟨⟨rfl, hm21⟩, hbs21⟩
  have HB21 := Lib.hid (HB20.out.trans (hbs21.below (fun k hk => (HOG0_20.out.lt k hk).1) HB20.out.size))
  replace c0 := hbs21.cell HXc_G0.out c0
  replace c1 := hbs21.cell HXc_G0.out c1
  replace c2 := hbs21.cell HXc_G0.out c2
  replace c3 := hbs21.cell HXc_G0.out c3
  replace c4 := hbs21.cell HXc_G0.out c4
  replace d0 := hbs21.cell HXd_G0.out d0
  replace d1 := hbs21.cell HXd_G0.out d1
  replace d2 := hbs21.cell HXd_G0.out d2
  replace d3 := hbs21.cell HXd_G0.out d3
  replace d4 := hbs21.cell HXd_G0.out d4
  replace p0 := hbs21.cell HXp_G0.out p0
  replace p1 := hbs21.cell HXp_G0.out p1
  replace p2 := hbs21.cell HXp_G0.out p2
  replace p3 := hbs21.cell HXp_G0.out p3
  replace p4 := hbs21.cell HXp_G0.out p4
  replace q0 := hbs21.cell HXq_G0.out q0
  replace q1 := hbs21.cell HXq_G0.out q1
  replace q2 := hbs21.cell HXq_G0.out q2
  replace q3 := hbs21.cell HXq_G0.out q3
  replace q4 := hbs21.cell HXq_G0.out q4
  replace s0 := hbs21.cell HXs_G0.out s0
  replace s1 := hbs21.cell HXs_G0.out s1
  replace s2 := hbs21.cell HXs_G0.out s2
  replace s3 := hbs21.cell HXs_G0.out s3
  replace s4 := hbs21.cell HXs_G0.out s4
  replace g0 := hbs21.cell HXg_G0.out g0
  replace g1 := hbs21.cell HXg_G0.out g1
  replace g2 := hbs21.cell HXg_G0.out g2
  replace g3 := hbs21.cell HXg_G0.out g3
  replace g4 := hbs21.cell HXg_G0.out g4
  have HOG1_21 := Lib.hid (HOG1_20.out.onlyBs hbs21 HDG1_G0.out)
  clear HOG1_20
  have HMG0_21 := Lib.hid hm21
  clear hm21
  clear hbs21 HOG0_20
  rw [HCC.out G0 HPG0.out, ← HMM.out]
  go_wp2_with fail
  refine (held_tree G0 _ _ HMG0_21.out (HCN.out G0 HPG0.out)).mono ?_
  rintro e w22 ⟨rfl, hb22⟩
  have HB22 := Lib.hid (HB21.out.trans (hb22.mono HB21.out.size))
  replace c0 := keep_below hb22 c0
  replace c1 := keep_below hb22 c1
  replace c2 := keep_below hb22 c2
  replace c3 := keep_below hb22 c3
  replace c4 := keep_below hb22 c4
  replace d0 := keep_below hb22 d0
  replace d1 := keep_below hb22 d1
  replace d2 := keep_below hb22 d2
  replace d3 := keep_below hb22 d3
  replace d4 := keep_below hb22 d4
  replace p0 := keep_below hb22 p0
  replace p1 := keep_below hb22 p1
  replace p2 := keep_below hb22 p2
  replace p3 := keep_below hb22 p3
  replace p4 := keep_below hb22 p4
  replace q0 := keep_below hb22 q0
  replace q1 := keep_below hb22 q1
  replace q2 := keep_below hb22 q2
  replace q3 := keep_below hb22 q3
  replace q4 := keep_below hb22 q4
  replace s0 := keep_below hb22 s0
  replace s1 := keep_below hb22 s1
  replace s2 := keep_below hb22 s2
  replace s3 := keep_below hb22 s3
  replace s4 := keep_below hb22 s4
  replace g0 := keep_below hb22 g0
  replace g1 := keep_below hb22 g1
  replace g2 := keep_below hb22 g2
  replace g3 := keep_below hb22 g3
  replace g4 := keep_below hb22 g4
  have HOG1_22 := Lib.hid (HOG1_21.out.blw hb22)
  clear HOG1_21
  have HMG0_22 := Lib.hid (HMG0_21.out.blw hb22)
  clear HMG0_21
  clear hb22
  rw [HCC.out G0 HPG0.out, ← HMM.out]
  go_upto_region 38 with fail
  go_cut [18, 19] from 115 (fun v0 v1 W' => v1 = .bool bv ∧ ∃ (X : AT) (B : Nat), v0 = .pointer (some ⟨B, 0, none⟩) ∧ X.pt = p ∧ X.Own W' w22.heap.size ∧ X.blks.Nodup ∧ B ∉ X.blks ∧ w22.heap.size ≤ B ∧ Rl w22 W' ∧ W'.cell? ⟨B, 0, none⟩ = some (.int .i64 X.k) ∧ W'.cell? ⟨B, 1, none⟩ = some (.int .i64 X.n) ∧ W'.cell? ⟨B, 2, none⟩ = some (.int .i64 X.x) ∧ W'.cell? ⟨B, 3, none⟩ = some (.string ⟨X.s.toArray⟩) ∧ W'.cell? ⟨B, 4, none⟩ = some (.slice X.a X.l.length X.cap))
  case first =>
    have HK := Lib.hid (fun (W' : World) (h : Rl w22 W') => (show Rl w22 W' ∧ W'.cell? ⟨w.heap.size, 0, none⟩ = some (.int .i64 T.k) ∧ W'.cell? ⟨w.heap.size, 1, none⟩ = some (.int .i64 T.n) ∧ W'.cell? ⟨w.heap.size, 2, none⟩ = some (.int .i64 T.x) ∧ W'.cell? ⟨w.heap.size, 3, none⟩ = some (.string ⟨T.s.toArray⟩) ∧ W'.cell? ⟨w.heap.size, 4, none⟩ = some (.slice T.a T.l.length T.cap) ∧ W'.cell? ⟨w.heap.size + 1, 0, none⟩ = some (.int .i64 U.k) ∧ W'.cell? ⟨w.heap.size + 1, 1, none⟩ = some (.int .i64 U.n) ∧ W'.cell? ⟨w.heap.size + 1, 2, none⟩ = some (.int .i64 U.x) ∧ W'.cell? ⟨w.heap.size + 1, 3, none⟩ = some (.string ⟨U.s.toArray⟩) ∧ W'.cell? ⟨w.heap.size + 1, 4, none⟩ = some (.slice U.a U.l.length U.cap) ∧ W'.cell? ⟨Bp, 0, none⟩ = some (.int .i64 G1.k) ∧ W'.cell? ⟨Bp, 1, none⟩ = some (.int .i64 G1.n) ∧ W'.cell? ⟨Bp, 2, none⟩ = some (.int .i64 G1.x) ∧ W'.cell? ⟨Bp, 3, none⟩ = some (.string ⟨G1.s.toArray⟩) ∧ W'.cell? ⟨Bp, 4, none⟩ = some (.slice G1.a G1.l.length G1.cap) ∧ W'.cell? ⟨w5.heap.size, 0, none⟩ = some (.int .i64 X0.k) ∧ W'.cell? ⟨w5.heap.size, 1, none⟩ = some (.int .i64 X0.n) ∧ W'.cell? ⟨w5.heap.size, 2, none⟩ = some (.int .i64 X0.x) ∧ W'.cell? ⟨w5.heap.size, 3, none⟩ = some (.string ⟨X0.s.toArray⟩) ∧ W'.cell? ⟨w5.heap.size, 4, none⟩ = some (.slice X0.a X0.l.length X0.cap) ∧ W'.cell? ⟨w8.heap.size, 0, none⟩ = some (.int .i64 X2.k) ∧ W'.cell? ⟨w8.heap.size, 1, none⟩ = some (.int .i64 X2.n) ∧ W'.cell? ⟨w8.heap.size, 2, none⟩ = some (.int .i64 X2.x) ∧ W'.cell? ⟨w8.heap.size, 3, none⟩ = some (.string ⟨X2.s.toArray⟩) ∧ W'.cell? ⟨w8.heap.size, 4, none⟩ = some (.slice X2.a X2.l.length X2.cap) ∧ W'.cell? ⟨w10.heap.size, 0, none⟩ = some (.int .i64 G0.k) ∧ W'.cell? ⟨w10.heap.size, 1, none⟩ = some (.int .i64 G0.n) ∧ W'.cell? ⟨w10.heap.size, 2, none⟩ = some (.int .i64 G0.x) ∧ W'.cell? ⟨w10.heap.size, 3, none⟩ = some (.string ⟨G0.s.toArray⟩) ∧ W'.cell? ⟨w10.heap.size, 4, none⟩ = some (.slice G0.a G0.l.length G0.cap) ∧ Below w.heap.size w W' ∧ G1.Own W' w.heap.size ∧ OwnL W' w.heap.size G0.a G0.cap (AT.markL 1 G0.l) from ⟨h, keep_below h.b c0, keep_below h.b c1, keep_below h.b c2, keep_below h.b c3, keep_below h.b c4, keep_below h.b d0, keep_below h.b d1, keep_below h.b d2, keep_below h.b d3, keep_below h.b d4, keep_below h.b p0, keep_below h.b p1, keep_below h.b p2, keep_below h.b p3, keep_below h.b p4, keep_below h.b q0, keep_below h.b q1, keep_below h.b q2, keep_below h.b q3, keep_below h.b q4, keep_below h.b s0, keep_below h.b s1, keep_below h.b s2, keep_below h.b s3, keep_below h.b s4, keep_below h.b g0, keep_below h.b g1, keep_below h.b g2, keep_below h.b g3, keep_below h.b g4, HB22.out.trans (h.b.mono HB22.out.size), HOG1_22.out.blw h.b, HMG0_22.out.blw h.b⟩))
    go_region_held3 (fun W' => Rl w22 W' ∧ W'.cell? ⟨w.heap.size, 0, none⟩ = some (.int .i64 T.k) ∧ W'.cell? ⟨w.heap.size, 1, none⟩ = some (.int .i64 T.n) ∧ W'.cell? ⟨w.heap.size, 2, none⟩ = some (.int .i64 T.x) ∧ W'.cell? ⟨w.heap.size, 3, none⟩ = some (.string ⟨T.s.toArray⟩) ∧ W'.cell? ⟨w.heap.size, 4, none⟩ = some (.slice T.a T.l.length T.cap) ∧ W'.cell? ⟨w.heap.size + 1, 0, none⟩ = some (.int .i64 U.k) ∧ W'.cell? ⟨w.heap.size + 1, 1, none⟩ = some (.int .i64 U.n) ∧ W'.cell? ⟨w.heap.size + 1, 2, none⟩ = some (.int .i64 U.x) ∧ W'.cell? ⟨w.heap.size + 1, 3, none⟩ = some (.string ⟨U.s.toArray⟩) ∧ W'.cell? ⟨w.heap.size + 1, 4, none⟩ = some (.slice U.a U.l.length U.cap) ∧ W'.cell? ⟨Bp, 0, none⟩ = some (.int .i64 G1.k) ∧ W'.cell? ⟨Bp, 1, none⟩ = some (.int .i64 G1.n) ∧ W'.cell? ⟨Bp, 2, none⟩ = some (.int .i64 G1.x) ∧ W'.cell? ⟨Bp, 3, none⟩ = some (.string ⟨G1.s.toArray⟩) ∧ W'.cell? ⟨Bp, 4, none⟩ = some (.slice G1.a G1.l.length G1.cap) ∧ W'.cell? ⟨w5.heap.size, 0, none⟩ = some (.int .i64 X0.k) ∧ W'.cell? ⟨w5.heap.size, 1, none⟩ = some (.int .i64 X0.n) ∧ W'.cell? ⟨w5.heap.size, 2, none⟩ = some (.int .i64 X0.x) ∧ W'.cell? ⟨w5.heap.size, 3, none⟩ = some (.string ⟨X0.s.toArray⟩) ∧ W'.cell? ⟨w5.heap.size, 4, none⟩ = some (.slice X0.a X0.l.length X0.cap) ∧ W'.cell? ⟨w8.heap.size, 0, none⟩ = some (.int .i64 X2.k) ∧ W'.cell? ⟨w8.heap.size, 1, none⟩ = some (.int .i64 X2.n) ∧ W'.cell? ⟨w8.heap.size, 2, none⟩ = some (.int .i64 X2.x) ∧ W'.cell? ⟨w8.heap.size, 3, none⟩ = some (.string ⟨X2.s.toArray⟩) ∧ W'.cell? ⟨w8.heap.size, 4, none⟩ = some (.slice X2.a X2.l.length X2.cap) ∧ W'.cell? ⟨w10.heap.size, 0, none⟩ = some (.int .i64 G0.k) ∧ W'.cell? ⟨w10.heap.size, 1, none⟩ = some (.int .i64 G0.n) ∧ W'.cell? ⟨w10.heap.size, 2, none⟩ = some (.int .i64 G0.x) ∧ W'.cell? ⟨w10.heap.size, 3, none⟩ = some (.string ⟨G0.s.toArray⟩) ∧ W'.cell? ⟨w10.heap.size, 4, none⟩ = some (.slice G0.a G0.l.length G0.cap) ∧ Below w.heap.size w W' ∧ G1.Own W' w.heap.size ∧ OwnL W' w.heap.size G0.a G0.cap (AT.markL 1 G0.l)) ((go_split_ands; refine HK.out _ ?_; first | with_reducible assumption | with_reducible exact (Rl.refl _).drew | with_reducible exact HRcb.out | with_reducible exact HRucb.out | with_reducible exact HRubb.out | with_reducible exact HRuab.out | with_reducible exact Rl.alloc (by assumption) _ | with_reducible exact Rl.alloc HRcb.out _ | with_reducible exact Rl.alloc HRucb.out _ | with_reducible exact Rl.alloc HRubb.out _ | with_reducible exact Rl.alloc HRuab.out _ | with_reducible exact (Rl.alloc (Rl.refl _) _).drew | with_reducible exact Rl.drew (by assumption) | with_reducible exact Rl.five (by assumption) HRucb.out.z | with_reducible exact Rl.five (by assumption) HRubb.out.z | with_reducible exact Rl.five (by assumption) HRuab.out.z | with_reducible exact Rl.five (by assumption) (Nat.le_refl _))) ((first | (go_at_call 64; go_split_ands; ((with_reducible refine (HTVT.out _ (by assumption)).mono ?_); rintro e uab ⟨Yab, hpuab, rfl, houab, hnuab, hbuab⟩; have HOuab := Lib.hid houab; have HPuab := Lib.hid hpuab; clear houab hnuab hpuab); have HRuab := Lib.hid (Rl.below (W0 := w22) (by assumption) hbuab); (first | (have hz := mboxD hbuab; obtain ⟨z0, z1, z2, z3, z4, zf⟩ := hz) | (have hz := mbox hbuab; obtain ⟨z0, z1, z2, z3, z4, zf⟩ := hz) | skip)) | (go_at_call 73; go_split_ands; ((with_reducible refine (HTVP.out _ (by assumption)).mono ?_); rintro e ubb ⟨Ybb, hpubb, rfl, houbb, hnubb, hbubb⟩; have HOubb := Lib.hid houbb; have HPubb := Lib.hid hpubb; clear houbb hnubb hpubb); have HRubb := Lib.hid (Rl.below (W0 := w22) (by assumption) hbubb); (first | have HOYa1b := Lib.hid (own_blw hbubb HOuab.out) | have HOYa1b := Lib.hid (own_blw hbubb (own_alloc HOuab.out))); (first | (have hz := mboxD hbubb; obtain ⟨z0, z1, z2, z3, z4, zf⟩ := hz) | (have hz := mbox hbubb; obtain ⟨z0, z1, z2, z3, z4, zf⟩ := hz) | (have hz := mboxK hbubb z0 z1 z2 z3 z4 zf; obtain ⟨z0, z1, z2, z3, z4, zf⟩ := hz) | skip)) | (go_at_call 64; go_split_ands; ((with_reducible refine (HTVU.out _ (by assumption)).mono ?_); rintro e ucb ⟨Ycb, hpucb, rfl, houcb, hnucb, hbucb⟩; have HOucb := Lib.hid houcb; have HPucb := Lib.hid hpucb; clear houcb hnucb hpucb); have HRucb := Lib.hid (Rl.below (W0 := w22) (by assumption) hbucb); (first | have HOYa2b := Lib.hid (own_blw hbucb HOYa1b.out) | have HOYa2b := Lib.hid (own_blw hbucb (own_alloc HOYa1b.out))); (first | have HOYb2b := Lib.hid (sown_blw hbucb HOubb.out) | have HOYb2b := Lib.hid (sown_blw hbucb (sown_alloc HOubb.out))); (first | (have hz := mboxD hbucb; obtain ⟨z0, z1, z2, z3, z4, zf⟩ := hz) | (have hz := mbox hbucb; obtain ⟨z0, z1, z2, z3, z4, zf⟩ := hz) | (have hz := mboxK hbucb z0 z1 z2 z3 z4 zf; obtain ⟨z0, z1, z2, z3, z4, zf⟩ := hz) | skip)) | (go_at_call 60; go_split_ands; refine (HCI.out Yab Ybb Ycb HPuab.out HPubb.out HPucb.out _ _ (by first | exact HOYa2b.out | exact own_alloc HOYa2b.out) (by first | exact HOYb2b.out.sat | exact (sown_alloc HOYb2b.out).sat) _ (by first | exact HOucb.out | exact own_alloc HOucb.out)).mono ?_; rintro e wab ⟨H0, hpb, rfl, hob, hnb, hbb⟩; have HPH0 := Lib.hid hpb; have HOOH0 := Lib.hid hob; have HNH0 := Lib.hid hnb; clear hpb hob hnb; have HRcb := Lib.hid (Rl.below (W0 := w22) (by assumption) hbb); (first | (have hz := mboxD hbb; obtain ⟨z0, z1, z2, z3, z4, zf⟩ := hz) | (have hz := mbox hbb; obtain ⟨z0, z1, z2, z3, z4, zf⟩ := hz) | (have hz := mboxK hbb z0 z1 z2 z3 z4 zf; obtain ⟨z0, z1, z2, z3, z4, zf⟩ := hz) | skip))))
    all_goals (go_wp2_with fail; go_meet; (first | with_reducible exact ⟨rfl, H0, _, rfl, HPH0.out, leaf_last HRcb.out (by first | exact HRucb.out.z | exact HRubb.out.z | exact HRuab.out.z | (have hq1 := HRucb.out.z; simp; omega) | (have hq1 := HRubb.out.z; simp; omega) | (have hq1 := HRuab.out.z; simp; omega)) HOOH0.out HNH0.out⟩ | with_reducible exact ⟨rfl, H0, _, rfl, HPH0.out, leaf_early HRcb.out HRucb.out.z (by first | exact HRucb.out.z | exact HRubb.out.z | exact HRuab.out.z | (have hq1 := HRucb.out.z; simp; omega) | (have hq1 := HRubb.out.z; simp; omega) | (have hq1 := HRuab.out.z; simp; omega)) (by first | (simp; done) | (have hq2 := hbucb.size; simp at hq2; omega) | (have hq1 := hbubb.size; have hq2 := hbucb.size; simp at hq1 hq2; omega) | (have hq0 := hbuab.size; have hq1 := hbubb.size; have hq2 := hbucb.size; simp at hq0 hq1 hq2; omega)) HOOH0.out HNH0.out z0 z1 z2 z3 z4⟩ | with_reducible exact ⟨rfl, H0, _, rfl, HPH0.out, leaf_early HRcb.out HRubb.out.z (by first | exact HRucb.out.z | exact HRubb.out.z | exact HRuab.out.z | (have hq1 := HRucb.out.z; simp; omega) | (have hq1 := HRubb.out.z; simp; omega) | (have hq1 := HRuab.out.z; simp; omega)) (by first | (simp; done) | (have hq2 := hbucb.size; simp at hq2; omega) | (have hq1 := hbubb.size; have hq2 := hbucb.size; simp at hq1 hq2; omega) | (have hq0 := hbuab.size; have hq1 := hbubb.size; have hq2 := hbucb.size; simp at hq0 hq1 hq2; omega)) HOOH0.out HNH0.out z0 z1 z2 z3 z4⟩ | with_reducible exact ⟨rfl, H0, _, rfl, HPH0.out, leaf_early HRcb.out HRuab.out.z (by first | exact HRucb.out.z | exact HRubb.out.z | exact HRuab.out.z | (have hq1 := HRucb.out.z; simp; omega) | (have hq1 := HRubb.out.z; simp; omega) | (have hq1 := HRuab.out.z; simp; omega)) (by first | (simp; done) | (have hq2 := hbucb.size; simp at hq2; omega) | (have hq1 := hbubb.size; have hq2 := hbucb.size; simp at hq1 hq2; omega) | (have hq0 := hbuab.size; have hq1 := hbubb.size; have hq2 := hbucb.size; simp at hq0 hq1 hq2; omega)) HOOH0.out HNH0.out z0 z1 z2 z3 z4⟩ | with_reducible exact ⟨rfl, H0, _, rfl, HPH0.out, leaf_early HRcb.out (Nat.le_refl _) (by first | exact HRucb.out.z | exact HRubb.out.z | exact HRuab.out.z | (have hq1 := HRucb.out.z; simp; omega) | (have hq1 := HRubb.out.z; simp; omega) | (have hq1 := HRuab.out.z; simp; omega)) (by first | (simp; done) | (have hq2 := hbucb.size; simp at hq2; omega) | (have hq1 := hbubb.size; have hq2 := hbucb.size; simp at hq1 hq2; omega) | (have hq0 := hbuab.size; have hq1 := hbubb.size; have hq2 := hbucb.size; simp at hq0 hq1 hq2; omega)) HOOH0.out HNH0.out z0 z1 z2 z3 z4⟩))
  obtain ⟨hv23, H0, Bt, rfl, hpG, hoG, hnG, hxG, hBg, hRg, t0, t1, t2, t3, t4⟩ := hcut
  subst hv23
  have HPH0 := Lib.hid hpG
  have HNH0 := Lib.hid hnG
  have HOH0_23 := Lib.hid (hoG.base HB22.out.size)
  have HXt_H0 := Lib.hid hxG
  have HXc_H0 : Hid (w.heap.size ∉ H0.blks) := Lib.hid (fun hk => by have h1 := (hoG.lt _ hk).1; have h2 := cell_lt c0; simp only at h2; omega)
  have HXd_H0 : Hid (w.heap.size + 1 ∉ H0.blks) := Lib.hid (fun hk => by have h1 := (hoG.lt _ hk).1; have h2 := cell_lt d0; simp only at h2; omega)
  have HXp_H0 : Hid (Bp ∉ H0.blks) := Lib.hid (fun hk => by have h1 := (hoG.lt _ hk).1; have h2 := cell_lt p0; simp only at h2; omega)
  have HXq_H0 : Hid (w5.heap.size ∉ H0.blks) := Lib.hid (fun hk => by have h1 := (hoG.lt _ hk).1; have h2 := cell_lt q0; simp only at h2; omega)
  have HXs_H0 : Hid (w8.heap.size ∉ H0.blks) := Lib.hid (fun hk => by have h1 := (hoG.lt _ hk).1; have h2 := cell_lt s0; simp only at h2; omega)
  have HXg_H0 : Hid (w10.heap.size ∉ H0.blks) := Lib.hid (fun hk => by have h1 := (hoG.lt _ hk).1; have h2 := cell_lt g0; simp only at h2; omega)
  have HDH0_G1 : Hid (∀ k ∈ H0.blks, k ∉ G1.blks) := Lib.hid (fun k hk hk2 => by have h1 := (hoG.lt k hk).1; have h2 := (HOG1_22.out.lt k hk2).2; omega)
  have HDG1_H0 : Hid (∀ k ∈ G1.blks, k ∉ H0.blks) := Lib.hid (fun k hk hk2 => by have h1 := (hoG.lt k hk2).1; have h2 := (HOG1_22.out.lt k hk).2; omega)
  have HXt_G1 : Hid (Bt ∉ G1.blks) := Lib.hid (fun hk => by have h2 := (HOG1_22.out.lt _ hk).2; omega)
  have HB23 := Lib.hid (HB22.out.trans (hRg.b.mono HB22.out.size))
  replace c0 := keep_below hRg.b c0
  replace c1 := keep_below hRg.b c1
  replace c2 := keep_below hRg.b c2
  replace c3 := keep_below hRg.b c3
  replace c4 := keep_below hRg.b c4
  replace d0 := keep_below hRg.b d0
  replace d1 := keep_below hRg.b d1
  replace d2 := keep_below hRg.b d2
  replace d3 := keep_below hRg.b d3
  replace d4 := keep_below hRg.b d4
  replace p0 := keep_below hRg.b p0
  replace p1 := keep_below hRg.b p1
  replace p2 := keep_below hRg.b p2
  replace p3 := keep_below hRg.b p3
  replace p4 := keep_below hRg.b p4
  replace q0 := keep_below hRg.b q0
  replace q1 := keep_below hRg.b q1
  replace q2 := keep_below hRg.b q2
  replace q3 := keep_below hRg.b q3
  replace q4 := keep_below hRg.b q4
  replace s0 := keep_below hRg.b s0
  replace s1 := keep_below hRg.b s1
  replace s2 := keep_below hRg.b s2
  replace s3 := keep_below hRg.b s3
  replace s4 := keep_below hRg.b s4
  replace g0 := keep_below hRg.b g0
  replace g1 := keep_below hRg.b g1
  replace g2 := keep_below hRg.b g2
  replace g3 := keep_below hRg.b g3
  replace g4 := keep_below hRg.b g4
  have HOG1_23 := Lib.hid (HOG1_22.out.blw hRg.b)
  clear HOG1_22
  have HMG0_23 := Lib.hid (HMG0_22.out.blw hRg.b)
  clear HMG0_22
  clear hpG hoG hnG hxG hBg hRg
  go_wp2_with fail
  refine (HER.out H0 G1 HPH0.out HPG1.out _ HOH0_23.out.in HOG1_23.out.in).mono ?_
  rintro e w24 ⟨rfl, hb24⟩
  have HB24 := Lib.hid (HB23.out.trans (hb24.mono HB23.out.size))
  replace c0 := keep_below hb24 c0
  replace c1 := keep_below hb24 c1
  replace c2 := keep_below hb24 c2
  replace c3 := keep_below hb24 c3
  replace c4 := keep_below hb24 c4
  replace d0 := keep_below hb24 d0
  replace d1 := keep_below hb24 d1
  replace d2 := keep_below hb24 d2
  replace d3 := keep_below hb24 d3
  replace d4 := keep_below hb24 d4
  replace p0 := keep_below hb24 p0
  replace p1 := keep_below hb24 p1
  replace p2 := keep_below hb24 p2
  replace p3 := keep_below hb24 p3
  replace p4 := keep_below hb24 p4
  replace q0 := keep_below hb24 q0
  replace q1 := keep_below hb24 q1
  replace q2 := keep_below hb24 q2
  replace q3 := keep_below hb24 q3
  replace q4 := keep_below hb24 q4
  replace s0 := keep_below hb24 s0
  replace s1 := keep_below hb24 s1
  replace s2 := keep_below hb24 s2
  replace s3 := keep_below hb24 s3
  replace s4 := keep_below hb24 s4
  replace g0 := keep_below hb24 g0
  replace g1 := keep_below hb24 g1
  replace g2 := keep_below hb24 g2
  replace g3 := keep_below hb24 g3
  replace g4 := keep_below hb24 g4
  replace t0 := keep_below hb24 t0
  replace t1 := keep_below hb24 t1
  replace t2 := keep_below hb24 t2
  replace t3 := keep_below hb24 t3
  replace t4 := keep_below hb24 t4
  have HOG1_24 := Lib.hid (HOG1_23.out.blw hb24)
  clear HOG1_23
  have HOH0_24 := Lib.hid (HOH0_23.out.blw hb24)
  clear HOH0_23
  have HMG0_24 := Lib.hid (HMG0_23.out.blw hb24)
  clear HMG0_23
  clear hb24
  go_wp2_with fail
  refine (held_tree G0 _ _ HMG0_24.out (HCN.out G0 HPG0.out)).mono ?_
  rintro e w25 ⟨rfl, hb25⟩
  have HB25 := Lib.hid (HB24.out.trans (hb25.mono HB24.out.size))
  replace c0 := keep_below hb25 c0
  replace c1 := keep_below hb25 c1
  replace c2 := keep_below hb25 c2
  replace c3 := keep_below hb25 c3
  replace c4 := keep_below hb25 c4
  replace d0 := keep_below hb25 d0
  replace d1 := keep_below hb25 d1
  replace d2 := keep_below hb25 d2
  replace d3 := keep_below hb25 d3
  replace d4 := keep_below hb25 d4
  replace p0 := keep_below hb25 p0
  replace p1 := keep_below hb25 p1
  replace p2 := keep_below hb25 p2
  replace p3 := keep_below hb25 p3
  replace p4 := keep_below hb25 p4
  replace q0 := keep_below hb25 q0
  replace q1 := keep_below hb25 q1
  replace q2 := keep_below hb25 q2
  replace q3 := keep_below hb25 q3
  replace q4 := keep_below hb25 q4
  replace s0 := keep_below hb25 s0
  replace s1 := keep_below hb25 s1
  replace s2 := keep_below hb25 s2
  replace s3 := keep_below hb25 s3
  replace s4 := keep_below hb25 s4
  replace g0 := keep_below hb25 g0
  replace g1 := keep_below hb25 g1
  replace g2 := keep_below hb25 g2
  replace g3 := keep_below hb25 g3
  replace g4 := keep_below hb25 g4
  replace t0 := keep_below hb25 t0
  replace t1 := keep_below hb25 t1
  replace t2 := keep_below hb25 t2
  replace t3 := keep_below hb25 t3
  replace t4 := keep_below hb25 t4
  have HOG1_25 := Lib.hid (HOG1_24.out.blw hb25)
  clear HOG1_24
  have HOH0_25 := Lib.hid (HOH0_24.out.blw hb25)
  clear HOH0_24
  have HMG0_25 := Lib.hid (HMG0_24.out.blw hb25)
  clear HMG0_24
  clear hb25
  rw [HCC.out G0 HPG0.out, ← HMM.out]
  go_wp2
  go_ret
  exact ⟨rfl, HB25.out⟩
theorem walk (T : AT) (lP : List St) (aP : Option Addr) (capP : Nat) (U : AT) (w : World) (hinT : T.In w w.heap.size) (hwfT : T.pt.Wf) (hsP : SAt w w.heap.size aP capP lP) (hlP : lP.length ≤ 9223372036854775807) (hinU : U.In w w.heap.size) (hwfU : U.pt.Wf) : Calls Try.prog 13 #[T.val, .slice aP lP.length capP, U.val] w fun e w' => e = .returned (.bool true) ∧ Below w.heap.size w w' := by
  by_cases hzT : T.pt.sz ≤ 1048576
  case neg => exact big1 T lP aP capP U w hinT hwfT hsP hlP hinU hwfU hzT
  by_cases hzP : lP.length ≤ 1048576 - T.pt.sz
  case neg => exact big2 T lP aP capP U w hinT hwfT hsP hlP hinU hwfU hzT hzP
  by_cases hzU : U.pt.sz ≤ 1048576 - T.pt.sz - lP.length
  case neg => exact big3 T lP aP capP U w hinT hwfT hsP hlP hinU hwfU hzT hzP hzU
  exact main T lP aP capP U w hinT hwfT hsP hlP hinU hwfU hzT hzP hzU

set_option maxRecDepth 100000 in
theorem contract (H : Type) (enc : TypeId × Value → H) (W : World) (base : Nat) (args : Array Value) (ds gs : List (DataW H)) (before : List MemPlace)
    (hval : ∀ (j : Nat) t v, Try.f13.params[j]? = some t → args[j]? = some v → Value.okWide Try.prog W .any base t v)
    (hW : DataW.Whole enc Try.prog Try.f13.params.toList Rows.fnExactPutAtSpec.vars false W args.toList ds gs before)
    (hcond : ∀ k, (OpenSpec.ofChange Rows.fnExactPutAtSpec).cond = some k → k H (ds ++ gs) = true)
    (hsz : (DataW.weightsEach Try.prog (Try.f13.params.toList ++ (OpenSpec.ofChange Rows.fnExactPutAtSpec).bare.plain.varTypes Try.prog) (ds ++ gs)).all (· ≤ reachBytes) = true)
    (hL : laidMetH Try.prog Rows.fnExactPutAtRow.laid W) :
    Calls Try.prog 13 args W fun e W' => ∃ v, e = .returned v ∧ Rows.fnExactPutAtSpec.post enc Try.prog Try.f13 false true false false W args v W' := by
  have hW' := hW
  have hlt := hW'.lt
  obtain ⟨p, q, hA0, hV, rfl, hfz, hnd⟩ := hW
  have hA : DataW.TrodAll enc Try.prog W 0 (fun _ => true) true Try.f13.params.toList args.toList ds p := hA0
  rw [Try.params13] at hA hval hsz
  obtain ⟨v0, vs0, d0, ds0, p0, q0, hargs, rfl, rfl, h0, r0⟩ := trodAll_cons hA
  obtain ⟨v1, vs1, d1, ds1, p1, q1, rfl, rfl, rfl, h1, r1⟩ := trodAll_cons r0
  obtain ⟨v2, vs2, d2, ds2, p2, q2, rfl, rfl, rfl, h2, r2⟩ := trodAll_cons r1
  obtain ⟨rfl, rfl, rfl⟩ := trodAll_nil r2
  obtain rfl : args = #[v0, v1, v2] := by cases args; simp_all
  obtain ⟨rfl, rfl⟩ := trodVars_none hV
  simp only [List.append_nil] at hW' hlt
  have hlt0 : ∀ x ∈ p0, x.block < W.heap.size := fun x hx => hlt x (by simp [hx])
  have hlt1 : ∀ x ∈ p1, x.block < W.heap.size := fun x hx => hlt x (by simp [hx])
  have hlt2 : ∀ x ∈ p2, x.block < W.heap.size := fun x hx => hlt x (by simp [hx])
  have hk0 := h0
  have hk1 := h1
  have hk2 := h2
  obtain ⟨T0, rfl, hin0, hwf0⟩ := open_val (hval 0 57 v0 rfl rfl) h0
  obtain ⟨a1, cap1, l1, rfl, hs1, hlen1, hwf1⟩ := open_steps (hval 1 68 v1 rfl rfl) h1
  obtain ⟨T2, rfl, hin2, hwf2⟩ := open_val (hval 2 57 v2 rfl rfl) h2
  clear hA0 hA
  have fin : ∀ W' : World, Below W.heap.size W W' → Rows.fnExactPutAtSpec.post enc Try.prog Try.f13 false true false false W _ (.bool true) W' := fun W' hb =>
    ⟨_, _, _, [], _, [], hW', trodAll_mk1 (shut_bool Try.underlying4 _), (trodAll_cons_mk (Below.trod laidOut (by kernel_rfl) (of_decide_eq_true (by kernel_rfl)) hk0 hb hlt0) (trodAll_cons_mk (Below.trod laidOut (by kernel_rfl) (of_decide_eq_true (by kernel_rfl)) hk1 hb hlt1) (trodAll_cons_mk (Below.trod laidOut (by kernel_rfl) (of_decide_eq_true (by kernel_rfl)) hk2 hb hlt2) trodAll_mk0))), rfl, hb.frame _, fun h => by cases h⟩
  refine Calls.mono (R := fun e w' => e = .returned (.bool true) ∧ Below W.heap.size W w') ?_ (fun e W' h => ⟨_, h.1, fin W' h.2⟩)
  clear fin
  exact walk T0 l1 a1 cap1 T2 W hin0 hwf0 hs1 hlen1 hin2 hwf2

theorem laid_met (os : Os) : laidMet Try.prog Rows.fnExactPutAtRow.laid (((World.holding Try.prog os ⟨#[], #[], []⟩)).forCall (fun _ _ => 0) ⟨#[], #[.agg #[.int .i64 0, .int .i64 0, .int .i64 0, .string ⟨#[]⟩, .slice none 0 0], .slice none 0 0, .agg #[.int .i64 0, .int .i64 0, .int .i64 0, .string ⟨#[]⟩, .slice none 0 0]], []⟩).memory :=
  ⟨[], rfl, List.nodup_nil, fun _ _ h => by cases h⟩
theorem reads (os : Os) {H : Type} (enc : TypeId × Value → H) : ∃ places, DataW.whole enc Try.prog (((World.holding Try.prog os ⟨#[], #[], []⟩)).forCall (fun _ _ => 0) ⟨#[], #[.agg #[.int .i64 0, .int .i64 0, .int .i64 0, .string ⟨#[]⟩, .slice none 0 0], .slice none 0 0, .agg #[.int .i64 0, .int .i64 0, .int .i64 0, .string ⟨#[]⟩, .slice none 0 0]], []⟩).memory Try.f13.params.toList Rows.fnExactPutAtSpec.vars false (#[.agg #[.int .i64 0, .int .i64 0, .int .i64 0, .string ⟨#[]⟩, .slice none 0 0], .slice none 0 0, .agg #[.int .i64 0, .int .i64 0, .int .i64 0, .string ⟨#[]⟩, .slice none 0 0]] : Array Value).toList 8 = some ([.agg [.lit (.int .i64 0), .lit (.int .i64 0), .lit (.int .i64 0), .lit (.string []), .nil], .nil, .agg [.lit (.int .i64 0), .lit (.int .i64 0), .lit (.int .i64 0), .lit (.string []), .nil]], [], places) :=
  ⟨[], by kernel_rfl⟩

set_option maxRecDepth 100000 in
theorem lifted (os : Os) (started : os.Started) (H : Type) (enc : TypeId × Value → H) (F : Stop.Interp) :
    ReturnsInHanded {} Try.checked os 13 .any ((OpenSpec.ofChange Rows.fnExactPutAtSpec).preRow enc Try.prog Try.f13 Rows.fnExactPutAtRow.domain false Rows.fnExactPutAtRow.laid) (((OpenSpec.ofChange Rows.fnExactPutAtSpec).at F).post enc Try.prog Try.f13 false true false false) := by
  obtain ⟨places, hx⟩ := reads os enc
  refine returnsInHanded_of_row (C := Try.checked) (s := OpenSpec.ofChange Rows.fnExactPutAtSpec) own started (by kernel_rfl) Try.func13
    (witness_row_at (enc := enc) (C := Try.checked) false (World.holding Try.prog os ⟨#[], #[], []⟩) #[.agg #[.int .i64 0, .int .i64 0, .int .i64 0, .string ⟨#[]⟩, .slice none 0 0], .slice none 0 0, .agg #[.int .i64 0, .int .i64 0, .int .i64 0, .string ⟨#[]⟩, .slice none 0 0]] rfl (by kernel_rfl) (by kernel_rfl) (by kernel_rfl)
      (OpenSpec.preRow_of_cond 8 hx (by kernel_rfl) (fun k hk => by cases hk) (by kernel_rfl) (laid_met os))) ?_
  intro W base args ds gs before hval hW _ hcond hsz hL _ _
  exact contract H enc W base args ds gs before hval hW hcond hsz hL

theorem said : Rows.FnExactPutAtSaid :=
  OpenClaim.holds_of_cond 13 Try.f13 rfl rfl rfl rfl rfl rfl rfl ⟨rfl, rfl, rfl, rfl, rfl⟩ rfl rfl rfl rfl rfl (by kernel_rfl) Try.func13 (by kernel_rfl)
    (of_decide_eq_true (by kernel_rfl)) (by unfold Func.isWrapper; first | (rw [if_pos (by decide +kernel)]; kernel_rfl) | (rw [if_neg (by decide +kernel)]; exact ⟨rfl, rfl⟩))
    (fun os started H enc _ F => by rw [OpenClaim.pre_eq_preRow]; exact lifted os started H enc F)

theorem proved : Rows.FnExactPutAtSaid := said
#print axioms proved
end Go.Proofs.Ytgfebmnlcihpnaa.fnExactPutAt
