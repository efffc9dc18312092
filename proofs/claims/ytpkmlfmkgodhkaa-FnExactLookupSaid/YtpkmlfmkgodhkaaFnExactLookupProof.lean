/- For every input the law FnExactLookup returns true and its arguments read afterwards as they read before; beside what the row states there is no condition. -/
import Derived.Test.YtpkmlfmkgodhkaaRows
import Derived.WalkKit
import Derived.ProofKit
import Derived.OpenShut
import Derived.SizedLaws
import Derived.Carry
import Derived.Deep.DeepHandedRow


import Derived.Lib.LaidTab
import Derived.Stop.LaidErr
import Derived.Test.YtpkmlfmkgodhkaaSz
import Derived.Test.YtpkmlfmkgodhkaaOpen
import Derived.Test.YtpkmlfmkgodhkaaToVal
import Derived.Test.YtpkmlfmkgodhkaaEqVal
import Derived.Test.YtpkmlfmkgodhkaaKeepVal
import Derived.Test.YtpkmlfmkgodhkaaMarkLaw
import Derived.Test.YtpkmlfmkgodhkaaLookAll
import Derived.Deep.DeepCutAuto
import Derived.Deep.RegionHeld3

namespace Go.Proofs.Ytpkmlfmkgodhkaa.fnExactLookup
open Go.ChangeShapes Go.WideShapes Go.ChangeAt Go.RowKit
open Go.ChangeMaps (open_string shut_string)
set_option linter.unusedVariables false

theorem own : ownKnob Try.prog.godebug = none := by kernel_rfl
theorem laidOut : laidOutB Try.prog = true := by kernel_rfl

set_option maxHeartbeats 1000000 in
theorem big1 (T : AT) (U : AT) (w : World) (hinT : T.In w w.heap.size) (hwfT : T.pt.Wf) (hinU : U.In w w.heap.size) (hwfU : U.pt.Wf)  (hzT : ¬ T.pt.sz ≤ 1048576) : Calls Try.prog 9 #[T.val, U.val] w fun e w' => e = .returned (.bool true) ∧ Below w.heap.size w w' := by
  have HSZT := Lib.hid (fun (w1 : World) (hb : Below w.heap.size w w1) => szVal_any T hwfT w1 w.heap.size (1048576) (hinT.blw hb (Nat.le_refl _)) hb.size (by omega))
  have HRT : Hid (szR T.pt.sz (1048576) = -1) := Lib.hid (by unfold szR; rw [if_neg hzT])
  clear hinT hwfT hinU hwfU hzT
  show Calls Try.prog 9 #[.agg #[.int .i64 T.k, .int .i64 T.n, .int .i64 T.x, .string ⟨T.s.toArray⟩, .slice T.a T.l.length T.cap], .agg #[.int .i64 U.k, .int .i64 U.n, .int .i64 U.x, .string ⟨U.s.toArray⟩, .slice U.a U.l.length U.cap]] w _
  go_enter Try.func9, Try.ntmps9
  go_wp2_with fail
  have hbox : Below w.heap.size w ((w.alloc (.cells #[.int .i64 T.k, .int .i64 T.n, .int .i64 T.x, .string ⟨T.s.toArray⟩, .slice T.a T.l.length T.cap] 52)).alloc (.cells #[.int .i64 U.k, .int .i64 U.n, .int .i64 U.x, .string ⟨U.s.toArray⟩, .slice U.a U.l.length U.cap] 52)) := boxes2 w (.cells #[.int .i64 T.k, .int .i64 T.n, .int .i64 T.x, .string ⟨T.s.toArray⟩, .slice T.a T.l.length T.cap] 52) (.cells #[.int .i64 U.k, .int .i64 U.n, .int .i64 U.x, .string ⟨U.s.toArray⟩, .slice U.a U.l.length U.cap] 52)
  have hc : ((w.alloc (.cells #[.int .i64 T.k, .int .i64 T.n, .int .i64 T.x, .string ⟨T.s.toArray⟩, .slice T.a T.l.length T.cap] 52)).alloc (.cells #[.int .i64 U.k, .int .i64 U.n, .int .i64 U.x, .string ⟨U.s.toArray⟩, .slice U.a U.l.length U.cap] 52)).cell? ⟨w.heap.size, 0, none⟩ = some (.int .i64 T.k) ∧ ((w.alloc (.cells #[.int .i64 T.k, .int .i64 T.n, .int .i64 T.x, .string ⟨T.s.toArray⟩, .slice T.a T.l.length T.cap] 52)).alloc (.cells #[.int .i64 U.k, .int .i64 U.n, .int .i64 U.x, .string ⟨U.s.toArray⟩, .slice U.a U.l.length U.cap] 52)).cell? ⟨w.heap.size, 1, none⟩ = some (.int .i64 T.n) ∧ ((w.alloc (.cells #[.int .i64 T.k, .int .i64 T.n, .int .i64 T.x, .string ⟨T.s.toArray⟩, .slice T.a T.l.length T.cap] 52)).alloc (.cells #[.int .i64 U.k, .int .i64 U.n, .int .i64 U.x, .string ⟨U.s.toArray⟩, .slice U.a U.l.length U.cap] 52)).cell? ⟨w.heap.size, 2, none⟩ = some (.int .i64 T.x) ∧ ((w.alloc (.cells #[.int .i64 T.k, .int .i64 T.n, .int .i64 T.x, .string ⟨T.s.toArray⟩, .slice T.a T.l.length T.cap] 52)).alloc (.cells #[.int .i64 U.k, .int .i64 U.n, .int .i64 U.x, .string ⟨U.s.toArray⟩, .slice U.a U.l.length U.cap] 52)).cell? ⟨w.heap.size, 3, none⟩ = some (.string ⟨T.s.toArray⟩) ∧ ((w.alloc (.cells #[.int .i64 T.k, .int .i64 T.n, .int .i64 T.x, .string ⟨T.s.toArray⟩, .slice T.a T.l.length T.cap] 52)).alloc (.cells #[.int .i64 U.k, .int .i64 U.n, .int .i64 U.x, .string ⟨U.s.toArray⟩, .slice U.a U.l.length U.cap] 52)).cell? ⟨w.heap.size, 4, none⟩ = some (.slice T.a T.l.length T.cap) := by refine ⟨?_, ?_, ?_, ?_, ?_⟩ <;> simp [go_sem]
  obtain ⟨c0, c1, c2, c3, c4⟩ := hc
  have hd : ((w.alloc (.cells #[.int .i64 T.k, .int .i64 T.n, .int .i64 T.x, .string ⟨T.s.toArray⟩, .slice T.a T.l.length T.cap] 52)).alloc (.cells #[.int .i64 U.k, .int .i64 U.n, .int .i64 U.x, .string ⟨U.s.toArray⟩, .slice U.a U.l.length U.cap] 52)).cell? ⟨w.heap.size + 1, 0, none⟩ = some (.int .i64 U.k) ∧ ((w.alloc (.cells #[.int .i64 T.k, .int .i64 T.n, .int .i64 T.x, .string ⟨T.s.toArray⟩, .slice T.a T.l.length T.cap] 52)).alloc (.cells #[.int .i64 U.k, .int .i64 U.n, .int .i64 U.x, .string ⟨U.s.toArray⟩, .slice U.a U.l.length U.cap] 52)).cell? ⟨w.heap.size + 1, 1, none⟩ = some (.int .i64 U.n) ∧ ((w.alloc (.cells #[.int .i64 T.k, .int .i64 T.n, .int .i64 T.x, .string ⟨T.s.toArray⟩, .slice T.a T.l.length T.cap] 52)).alloc (.cells #[.int .i64 U.k, .int .i64 U.n, .int .i64 U.x, .string ⟨U.s.toArray⟩, .slice U.a U.l.length U.cap] 52)).cell? ⟨w.heap.size + 1, 2, none⟩ = some (.int .i64 U.x) ∧ ((w.alloc (.cells #[.int .i64 T.k, .int .i64 T.n, .int .i64 T.x, .string ⟨T.s.toArray⟩, .slice T.a T.l.length T.cap] 52)).alloc (.cells #[.int .i64 U.k, .int .i64 U.n, .int .i64 U.x, .string ⟨U.s.toArray⟩, .slice U.a U.l.length U.cap] 52)).cell? ⟨w.heap.size + 1, 3, none⟩ = some (.string ⟨U.s.toArray⟩) ∧ ((w.alloc (.cells #[.int .i64 T.k, .int .i64 T.n, .int .i64 T.x, .string ⟨T.s.toArray⟩, .slice T.a T.l.length T.cap] 52)).alloc (.cells #[.int .i64 U.k, .int .i64 U.n, .int .i64 U.x, .string ⟨U.s.toArray⟩, .slice U.a U.l.length U.cap] 52)).cell? ⟨w.heap.size + 1, 4, none⟩ = some (.slice U.a U.l.length U.cap) := by refine ⟨?_, ?_, ?_, ?_, ?_⟩ <;> simp [go_sem]
  obtain ⟨d0, d1, d2, d3, d4⟩ := hd
  generalize ((w.alloc (.cells #[.int .i64 T.k, .int .i64 T.n, .int .i64 T.x, .string ⟨T.s.toArray⟩, .slice T.a T.l.length T.cap] 52)).alloc (.cells #[.int .i64 U.k, .int .i64 U.n, .int .i64 U.x, .string ⟨U.s.toArray⟩, .slice U.a U.l.length U.cap] 52)) = w0 at *
  have HB0 := Lib.hid hbox
  clear hbox
  refine (HSZT.out _ HB0.out).mono ?_
  rintro e w1 ⟨rfl, hb1⟩
  have HB1 := Lib.hid (HB0.out.trans (hb1.mono HB0.out.size))
  replace c0 := keep_below hb1 c0
  replace c1 := keep_below hb1 c1
  replace c2 := keep_below hb1 c2
  replace c3 := keep_below hb1 c3
  replace c4 := keep_below hb1 c4
  replace d0 := keep_below hb1 d0
  replace d1 := keep_below hb1 d1
  replace d2 := keep_below hb1 d2
  replace d3 := keep_below hb1 d3
  replace d4 := keep_below hb1 d4
  clear hb1
  rw [HRT.out]
  go_wp2
  go_ret
  exact ⟨rfl, HB1.out⟩
set_option maxHeartbeats 1000000 in
theorem big2 (T : AT) (U : AT) (w : World) (hinT : T.In w w.heap.size) (hwfT : T.pt.Wf) (hinU : U.In w w.heap.size) (hwfU : U.pt.Wf) (hzT : T.pt.sz ≤ 1048576) (hzU : ¬ U.pt.sz ≤ 1048576 - T.pt.sz) : Calls Try.prog 9 #[T.val, U.val] w fun e w' => e = .returned (.bool true) ∧ Below w.heap.size w w' := by
  have HSZT := Lib.hid (fun (w1 : World) (hb : Below w.heap.size w w1) => szVal_any T hwfT w1 w.heap.size (1048576) (hinT.blw hb (Nat.le_refl _)) hb.size (by omega))
  have HRT : Hid (szR T.pt.sz (1048576) = ((1048576 - T.pt.sz : Nat) : Int)) := Lib.hid (by unfold szR; rw [if_pos hzT]; omega)
  have hnegT : ¬ (((1048576 - T.pt.sz : Nat) : Int) < 0) := by omega
  have HSZU := Lib.hid (fun (w1 : World) (hb : Below w.heap.size w w1) => szVal_any U hwfU w1 w.heap.size (1048576 - T.pt.sz) (hinU.blw hb (Nat.le_refl _)) hb.size (by omega))
  have HRU : Hid (szR U.pt.sz (1048576 - T.pt.sz) = -1) := Lib.hid (by unfold szR; rw [if_neg hzU])
  clear hinT hwfT hinU hwfU hzT hzU
  generalize 1048576 - T.pt.sz = leftT at *
  show Calls Try.prog 9 #[.agg #[.int .i64 T.k, .int .i64 T.n, .int .i64 T.x, .string ⟨T.s.toArray⟩, .slice T.a T.l.length T.cap], .agg #[.int .i64 U.k, .int .i64 U.n, .int .i64 U.x, .string ⟨U.s.toArray⟩, .slice U.a U.l.length U.cap]] w _
  go_enter Try.func9, Try.ntmps9
  go_wp2_with fail
  have hbox : Below w.heap.size w ((w.alloc (.cells #[.int .i64 T.k, .int .i64 T.n, .int .i64 T.x, .string ⟨T.s.toArray⟩, .slice T.a T.l.length T.cap] 52)).alloc (.cells #[.int .i64 U.k, .int .i64 U.n, .int .i64 U.x, .string ⟨U.s.toArray⟩, .slice U.a U.l.length U.cap] 52)) := boxes2 w (.cells #[.int .i64 T.k, .int .i64 T.n, .int .i64 T.x, .string ⟨T.s.toArray⟩, .slice T.a T.l.length T.cap] 52) (.cells #[.int .i64 U.k, .int .i64 U.n, .int .i64 U.x, .string ⟨U.s.toArray⟩, .slice U.a U.l.length U.cap] 52)
  have hc : ((w.alloc (.cells #[.int .i64 T.k, .int .i64 T.n, .int .i64 T.x, .string ⟨T.s.toArray⟩, .slice T.a T.l.length T.cap] 52)).alloc (.cells #[.int .i64 U.k, .int .i64 U.n, .int .i64 U.x, .string ⟨U.s.toArray⟩, .slice U.a U.l.length U.cap] 52)).cell? ⟨w.heap.size, 0, none⟩ = some (.int .i64 T.k) ∧ ((w.alloc (.cells #[.int .i64 T.k, .int .i64 T.n, .int .i64 T.x, .string ⟨T.s.toArray⟩, .slice T.a T.l.length T.cap] 52)).alloc (.cells #[.int .i64 U.k, .int .i64 U.n, .int .i64 U.x, .string ⟨U.s.toArray⟩, .slice U.a U.l.length U.cap] 52)).cell? ⟨w.heap.size, 1, none⟩ = some (.int .i64 T.n) ∧ ((w.alloc (.cells #[.int .i64 T.k, .int .i64 T.n, .int .i64 T.x, .string ⟨T.s.toArray⟩, .slice T.a T.l.length T.cap] 52)).alloc (.cells #[.int .i64 U.k, .int .i64 U.n, .int .i64 U.x, .string ⟨U.s.toArray⟩, .slice U.a U.l.length U.cap] 52)).cell? ⟨w.heap.size, 2, none⟩ = some (.int .i64 T.x) ∧ ((w.alloc (.cells #[.int .i64 T.k, .int .i64 T.n, .int .i64 T.x, .string ⟨T.s.toArray⟩, .slice T.a T.l.length T.cap] 52)).alloc (.cells #[.int .i64 U.k, .int .i64 U.n, .int .i64 U.x, .string ⟨U.s.toArray⟩, .slice U.a U.l.length U.cap] 52)).cell? ⟨w.heap.size, 3, none⟩ = some (.string ⟨T.s.toArray⟩) ∧ ((w.alloc (.cells #[.int .i64 T.k, .int .i64 T.n, .int .i64 T.x, .string ⟨T.s.toArray⟩, .slice T.a T.l.length T.cap] 52)).alloc (.cells #[.int .i64 U.k, .int .i64 U.n, .int .i64 U.x, .string ⟨U.s.toArray⟩, .slice U.a U.l.length U.cap] 52)).cell? ⟨w.heap.size, 4, none⟩ = some (.slice T.a T.l.length T.cap) := by refine ⟨?_, ?_, ?_, ?_, ?_⟩ <;> simp [go_sem]
  obtain ⟨c0, c1, c2, c3, c4⟩ := hc
  have hd : ((w.alloc (.cells #[.int .i64 T.k, .int .i64 T.n, .int .i64 T.x, .string ⟨T.s.toArray⟩, .slice T.a T.l.length T.cap] 52)).alloc (.cells #[.int .i64 U.k, .int .i64 U.n, .int .i64 U.x, .string ⟨U.s.toArray⟩, .slice U.a U.l.length U.cap] 52)).cell? ⟨w.heap.size + 1, 0, none⟩ = some (.int .i64 U.k) ∧ ((w.alloc (.cells #[.int .i64 T.k, .int .i64 T.n, .int .i64 T.x, .string ⟨T.s.toArray⟩, .slice T.a T.l.length T.cap] 52)).alloc (.cells #[.int .i64 U.k, .int .i64 U.n, .int .i64 U.x, .string ⟨U.s.toArray⟩, .slice U.a U.l.length U.cap] 52)).cell? ⟨w.heap.size + 1, 1, none⟩ = some (.int .i64 U.n) ∧ ((w.alloc (.cells #[.int .i64 T.k, .int .i64 T.n, .int .i64 T.x, .string ⟨T.s.toArray⟩, .slice T.a T.l.length T.cap] 52)).alloc (.cells #[.int .i64 U.k, .int .i64 U.n, .int .i64 U.x, .string ⟨U.s.toArray⟩, .slice U.a U.l.length U.cap] 52)).cell? ⟨w.heap.size + 1, 2, none⟩ = some (.int .i64 U.x) ∧ ((w.alloc (.cells #[.int .i64 T.k, .int .i64 T.n, .int .i64 T.x, .string ⟨T.s.toArray⟩, .slice T.a T.l.length T.cap] 52)).alloc (.cells #[.int .i64 U.k, .int .i64 U.n, .int .i64 U.x, .string ⟨U.s.toArray⟩, .slice U.a U.l.length U.cap] 52)).cell? ⟨w.heap.size + 1, 3, none⟩ = some (.string ⟨U.s.toArray⟩) ∧ ((w.alloc (.cells #[.int .i64 T.k, .int .i64 T.n, .int .i64 T.x, .string ⟨T.s.toArray⟩, .slice T.a T.l.length T.cap] 52)).alloc (.cells #[.int .i64 U.k, .int .i64 U.n, .int .i64 U.x, .string ⟨U.s.toArray⟩, .slice U.a U.l.length U.cap] 52)).cell? ⟨w.heap.size + 1, 4, none⟩ = some (.slice U.a U.l.length U.cap) := by refine ⟨?_, ?_, ?_, ?_, ?_⟩ <;> simp [go_sem]
  obtain ⟨d0, d1, d2, d3, d4⟩ := hd
  generalize ((w.alloc (.cells #[.int .i64 T.k, .int .i64 T.n, .int .i64 T.x, .string ⟨T.s.toArray⟩, .slice T.a T.l.length T.cap] 52)).alloc (.cells #[.int .i64 U.k, .int .i64 U.n, .int .i64 U.x, .string ⟨U.s.toArray⟩, .slice U.a U.l.length U.cap] 52)) = w0 at *
  have HB0 := Lib.hid hbox
  clear hbox
  refine (HSZT.out _ HB0.out).mono ?_
  rintro e w1 ⟨rfl, hb1⟩
  have HB1 := Lib.hid (HB0.out.trans (hb1.mono HB0.out.size))
  replace c0 := keep_below hb1 c0
  replace c1 := keep_below hb1 c1
  replace c2 := keep_below hb1 c2
  replace c3 := keep_below hb1 c3
  replace c4 := keep_below hb1 c4
  replace d0 := keep_below hb1 d0
  replace d1 := keep_below hb1 d1
  replace d2 := keep_below hb1 d2
  replace d3 := keep_below hb1 d3
  replace d4 := keep_below hb1 d4
  clear hb1
  rw [HRT.out]
  go_wp2_with fail
  refine (HSZU.out _ HB1.out).mono ?_
  rintro e w2 ⟨rfl, hb2⟩
  have HB2 := Lib.hid (HB1.out.trans (hb2.mono HB1.out.size))
  replace c0 := keep_below hb2 c0
  replace c1 := keep_below hb2 c1
  replace c2 := keep_below hb2 c2
  replace c3 := keep_below hb2 c3
  replace c4 := keep_below hb2 c4
  replace d0 := keep_below hb2 d0
  replace d1 := keep_below hb2 d1
  replace d2 := keep_below hb2 d2
  replace d3 := keep_below hb2 d3
  replace d4 := keep_below hb2 d4
  clear hb2
  rw [HRU.out]
  go_wp2
  go_ret
  exact ⟨rfl, HB2.out⟩
set_option maxHeartbeats 16000000 in
set_option maxRecDepth 100000 in
theorem main (T : AT) (U : AT) (w : World) (hinT : T.In w w.heap.size) (hwfT : T.pt.Wf) (hinU : U.In w w.heap.size) (hwfU : U.pt.Wf) (hzT : T.pt.sz ≤ 1048576) (hzU : U.pt.sz ≤ 1048576 - T.pt.sz) : Calls Try.prog 9 #[T.val, U.val] w fun e w' => e = .returned (.bool true) ∧ Below w.heap.size w w' := by
  have HSZT := Lib.hid (fun (w1 : World) (hb : Below w.heap.size w w1) => szVal_any T hwfT w1 w.heap.size (1048576) (hinT.blw hb (Nat.le_refl _)) hb.size (by omega))
  have HRT : Hid (szR T.pt.sz (1048576) = ((1048576 - T.pt.sz : Nat) : Int)) := Lib.hid (by unfold szR; rw [if_pos hzT]; omega)
  have hnegT : ¬ (((1048576 - T.pt.sz : Nat) : Int) < 0) := by omega
  have HSZU := Lib.hid (fun (w1 : World) (hb : Below w.heap.size w w1) => szVal_any U hwfU w1 w.heap.size (1048576 - T.pt.sz) (hinU.blw hb (Nat.le_refl _)) hb.size (by omega))
  have HRU : Hid (szR U.pt.sz (1048576 - T.pt.sz) = ((1048576 - T.pt.sz - U.pt.sz : Nat) : Int)) := Lib.hid (by unfold szR; rw [if_pos hzU]; omega)
  have hnegU : ¬ (((1048576 - T.pt.sz - U.pt.sz : Nat) : Int) < 0) := by omega
  have hsT : T.pt.sz ≤ 1048576 := by omega
  have HTVT := Lib.hid (fun (w1 : World) (hb : Below w.heap.size w w1) => toVal_any T hwfT hsT w1 w.heap.size (hinT.blw hb (Nat.le_refl _)) hb.size)
  have HEQT := Lib.hid (fun (T' U' : AT) (hp : T'.pt = T.pt) (hu : U'.pt = T.pt) (w1 : World) (hi : T'.In w1 w1.heap.size) (hj : U'.In w1 w1.heap.size) => eqVal_any T' (by rw [hp]; exact hwfT) U' w1 w1.heap.size (by rw [hp, hu]) hi hj (Nat.le_refl _))
  have HCAT : Hid (∀ X : AT, X.pt = T.pt → X.pt.cnt ≤ 2097152) := Lib.hid (fun X hX => by rw [hX]; have := cnt_le_sz T.pt; omega)
  have HCBT : Hid (∀ X : AT, X.pt = T.pt → PT.cntL (AT.ptL X.l) = PT.cntL (AT.ptL T.l)) := Lib.hid (fun X hX => by have h1 := cnt_eq X; have h2 := cnt_eq T; rw [hX] at h1; omega)
  have hsU : U.pt.sz ≤ 1048576 := by omega
  have HTVU := Lib.hid (fun (w1 : World) (hb : Below w.heap.size w w1) => toVal_any U hwfU hsU w1 w.heap.size (hinU.blw hb (Nat.le_refl _)) hb.size)
  have HEQU := Lib.hid (fun (T' U' : AT) (hp : T'.pt = U.pt) (hu : U'.pt = U.pt) (w1 : World) (hi : T'.In w1 w1.heap.size) (hj : U'.In w1 w1.heap.size) => eqVal_any T' (by rw [hp]; exact hwfU) U' w1 w1.heap.size (by rw [hp, hu]) hi hj (Nat.le_refl _))
  have HCAU : Hid (∀ X : AT, X.pt = U.pt → X.pt.cnt ≤ 2097152) := Lib.hid (fun X hX => by rw [hX]; have := cnt_le_sz U.pt; omega)
  have HCBU : Hid (∀ X : AT, X.pt = U.pt → PT.cntL (AT.ptL X.l) = PT.cntL (AT.ptL U.l)) := Lib.hid (fun X hX => by have h1 := cnt_eq X; have h2 := cnt_eq U; rw [hX] at h1; omega)
  obtain ⟨p, bv, hp⟩ : ∃ p bv, (p, bv) = T.pt.look U.pt := ⟨_, _, rfl⟩
  have HCS := Lib.hid (fun (X0 X1 : AT) (hX0 : X0.pt = T.pt) (hX1 : X1.pt = U.pt) (w1 : World) (ho0 : X0.In w1 w1.heap.size) (ho1 : X1.In w1 w1.heap.size) => (show Calls Try.prog 47 #[X0.val, X1.val] w1 (LookPost w1 (p, bv)) from by have h := look_spec X0 X1 w1 w1.heap.size (by rw [hX0]; exact hwfT) (by rw [hX1]; exact hwfU) ho0 ho1 (by rw [hX0]; exact hsT) (Nat.le_refl _); rw [hX0, hX1, ← hp] at h; exact h))
  have HCI := Lib.hid (fun (X0 X1 : AT) (hX0 : X0.pt = T.pt) (hX1 : X1.pt = U.pt) (w1 : World) (B0 : Nat) (ho0 : X0.Own w1 B0) (ho1 : X1.In w1 w1.heap.size) => (show Calls Try.prog 46 #[X0.val, X1.val] w1 (LookPost w1 (p, bv)) from by have h := look_impl X0 X1 w1 B0 ho0 ho1 (by rw [hX0]; exact hsT) (by rw [hX1]; exact hsU); rw [hX0, hX1, ← hp] at h; exact h))
  have hlw := look_wf T.pt U.pt hwfT (by have := cnt_le_sz T.pt; omega : T.pt.cnt ≤ 1048578)
  rw [← hp] at hlw
  obtain ⟨hvw, hpc⟩ := hlw
  simp only at hvw hpc
  have HER := Lib.hid (fun (X Y : AT) (hX : X.pt = p) (hY : Y.pt = p) (w1 : World) (ho : X.In w1 w1.heap.size) (hy : Y.In w1 w1.heap.size) => eqVal_any X (pt_wf hX hvw) Y w1 w1.heap.size (hX.trans hY.symm) ho hy (Nat.le_refl _))
  have HCN : Hid (∀ X : AT, X.pt = p → X.pt.cnt ≤ 2097152) := Lib.hid (fun X hX => by rw [hX]; omega)
  have HCC : Hid (∀ X : AT, X.pt = p → PT.cntL (AT.ptL X.l) = p.cnt - 1) := Lib.hid (fun X hX => by have h1 := cnt_eq X; rw [hX] at h1; omega)
  obtain ⟨MM, hMM⟩ : ∃ MM, MM = 1 + 4 * (p.cnt - 1) := ⟨_, rfl⟩
  have HMM := Lib.hid hMM
  have hneg2 : ¬ ((MM : Int) < 0) := by omega
  obtain ⟨M1, hM1⟩ : ∃ M1, M1 = 1 + 4 * PT.cntL (AT.ptL T.l) := ⟨_, rfl⟩
  have HM1 := Lib.hid hM1
  have hm1 : M1 ≤ 4194310 := by have h1 := cnt_le_sz T.pt; have h2 := cnt_eq T; omega
  have hm0 : 1 ≤ M1 := by omega
  obtain ⟨M2, hM2⟩ : ∃ M2, M2 = M1 + 4 * PT.cntL (AT.ptL U.l) := ⟨_, rfl⟩
  have HM2 := Lib.hid hM2
  have hneg3 : ¬ ((M2 : Int) < 0) := by omega
  clear hp hvw hpc hMM hM1 hM2 hinT hwfT hzT hsT hinU hwfU hzU hsU
  generalize 1048576 - T.pt.sz - U.pt.sz = leftU at *
  generalize 1048576 - T.pt.sz = leftT at *
  show Calls Try.prog 9 #[.agg #[.int .i64 T.k, .int .i64 T.n, .int .i64 T.x, .string ⟨T.s.toArray⟩, .slice T.a T.l.length T.cap], .agg #[.int .i64 U.k, .int .i64 U.n, .int .i64 U.x, .string ⟨U.s.toArray⟩, .slice U.a U.l.length U.cap]] w _
  go_enter Try.func9, Try.ntmps9
  go_wp2_with fail
  have hbox : Below w.heap.size w ((w.alloc (.cells #[.int .i64 T.k, .int .i64 T.n, .int .i64 T.x, .string ⟨T.s.toArray⟩, .slice T.a T.l.length T.cap] 52)).alloc (.cells #[.int .i64 U.k, .int .i64 U.n, .int .i64 U.x, .string ⟨U.s.toArray⟩, .slice U.a U.l.length U.cap] 52)) := boxes2 w (.cells #[.int .i64 T.k, .int .i64 T.n, .int .i64 T.x, .string ⟨T.s.toArray⟩, .slice T.a T.l.length T.cap] 52) (.cells #[.int .i64 U.k, .int .i64 U.n, .int .i64 U.x, .string ⟨U.s.toArray⟩, .slice U.a U.l.length U.cap] 52)
  have hc : ((w.alloc (.cells #[.int .i64 T.k, .int .i64 T.n, .int .i64 T.x, .string ⟨T.s.toArray⟩, .slice T.a T.l.length T.cap] 52)).alloc (.cells #[.int .i64 U.k, .int .i64 U.n, .int .i64 U.x, .string ⟨U.s.toArray⟩, .slice U.a U.l.length U.cap] 52)).cell? ⟨w.heap.size, 0, none⟩ = some (.int .i64 T.k) ∧ ((w.alloc (.cells #[.int .i64 T.k, .int .i64 T.n, .int .i64 T.x, .string ⟨T.s.toArray⟩, .slice T.a T.l.length T.cap] 52)).alloc (.cells #[.int .i64 U.k, .int .i64 U.n, .int .i64 U.x, .string ⟨U.s.toArray⟩, .slice U.a U.l.length U.cap] 52)).cell? ⟨w.heap.size, 1, none⟩ = some (.int .i64 T.n) ∧ ((w.alloc (.cells #[.int .i64 T.k, .int .i64 T.n, .int .i64 T.x, .string ⟨T.s.toArray⟩, .slice T.a T.l.length T.cap] 52)).alloc (.cells #[.int .i64 U.k, .int .i64 U.n, .int .i64 U.x, .string ⟨U.s.toArray⟩, .slice U.a U.l.length U.cap] 52)).cell? ⟨w.heap.size, 2, none⟩ = some (.int .i64 T.x) ∧ ((w.alloc (.cells #[.int .i64 T.k, .int .i64 T.n, .int .i64 T.x, .string ⟨T.s.toArray⟩, .slice T.a T.l.length T.cap] 52)).alloc (.cells #[.int .i64 U.k, .int .i64 U.n, .int .i64 U.x, .string ⟨U.s.toArray⟩, .slice U.a U.l.length U.cap] 52)).cell? ⟨w.heap.size, 3, none⟩ = some (.string ⟨T.s.toArray⟩) ∧ ((w.alloc (.cells #[.int .i64 T.k, .int .i64 T.n, .int .i64 T.x, .string ⟨T.s.toArray⟩, .slice T.a T.l.length T.cap] 52)).alloc (.cells #[.int .i64 U.k, .int .i64 U.n, .int .i64 U.x, .string ⟨U.s.toArray⟩, .slice U.a U.l.length U.cap] 52)).cell? ⟨w.heap.size, 4, none⟩ = some (.slice T.a T.l.length T.cap) := by refine ⟨?_, ?_, ?_, ?_, ?_⟩ <;> simp [go_sem]
  obtain ⟨c0, c1, c2, c3, c4⟩ := hc
  have hd : ((w.alloc (.cells #[.int .i64 T.k, .int .i64 T.n, .int .i64 T.x, .string ⟨T.s.toArray⟩, .slice T.a T.l.length T.cap] 52)).alloc (.cells #[.int .i64 U.k, .int .i64 U.n, .int .i64 U.x, .string ⟨U.s.toArray⟩, .slice U.a U.l.length U.cap] 52)).cell? ⟨w.heap.size + 1, 0, none⟩ = some (.int .i64 U.k) ∧ ((w.alloc (.cells #[.int .i64 T.k, .int .i64 T.n, .int .i64 T.x, .string ⟨T.s.toArray⟩, .slice T.a T.l.length T.cap] 52)).alloc (.cells #[.int .i64 U.k, .int .i64 U.n, .int .i64 U.x, .string ⟨U.s.toArray⟩, .slice U.a U.l.length U.cap] 52)).cell? ⟨w.heap.size + 1, 1, none⟩ = some (.int .i64 U.n) ∧ ((w.alloc (.cells #[.int .i64 T.k, .int .i64 T.n, .int .i64 T.x, .string ⟨T.s.toArray⟩, .slice T.a T.l.length T.cap] 52)).alloc (.cells #[.int .i64 U.k, .int .i64 U.n, .int .i64 U.x, .string ⟨U.s.toArray⟩, .slice U.a U.l.length U.cap] 52)).cell? ⟨w.heap.size + 1, 2, none⟩ = some (.int .i64 U.x) ∧ ((w.alloc (.cells #[.int .i64 T.k, .int .i64 T.n, .int .i64 T.x, .string ⟨T.s.toArray⟩, .slice T.a T.l.length T.cap] 52)).alloc (.cells #[.int .i64 U.k, .int .i64 U.n, .int .i64 U.x, .string ⟨U.s.toArray⟩, .slice U.a U.l.length U.cap] 52)).cell? ⟨w.heap.size + 1, 3, none⟩ = some (.string ⟨U.s.toArray⟩) ∧ ((w.alloc (.cells #[.int .i64 T.k, .int .i64 T.n, .int .i64 T.x, .string ⟨T.s.toArray⟩, .slice T.a T.l.length T.cap] 52)).alloc (.cells #[.int .i64 U.k, .int .i64 U.n, .int .i64 U.x, .string ⟨U.s.toArray⟩, .slice U.a U.l.length U.cap] 52)).cell? ⟨w.heap.size + 1, 4, none⟩ = some (.slice U.a U.l.length U.cap) := by refine ⟨?_, ?_, ?_, ?_, ?_⟩ <;> simp [go_sem]
  obtain ⟨d0, d1, d2, d3, d4⟩ := hd
  generalize ((w.alloc (.cells #[.int .i64 T.k, .int .i64 T.n, .int .i64 T.x, .string ⟨T.s.toArray⟩, .slice T.a T.l.length T.cap] 52)).alloc (.cells #[.int .i64 U.k, .int .i64 U.n, .int .i64 U.x, .string ⟨U.s.toArray⟩, .slice U.a U.l.length U.cap] 52)) = w0 at *
  have HB0 := Lib.hid hbox
  clear hbox
  refine (HSZT.out _ HB0.out).mono ?_
  rintro e w1 ⟨rfl, hb1⟩
  have HB1 := Lib.hid (HB0.out.trans (hb1.mono HB0.out.size))
  replace c0 := keep_below hb1 c0
  replace c1 := keep_below hb1 c1
  replace c2 := keep_below hb1 c2
  replace c3 := keep_below hb1 c3
  replace c4 := keep_below hb1 c4
  replace d0 := keep_below hb1 d0
  replace d1 := keep_below hb1 d1
  replace d2 := keep_below hb1 d2
  replace d3 := keep_below hb1 d3
  replace d4 := keep_below hb1 d4
  clear hb1
  rw [HRT.out]
  go_wp2_with fail
  refine (HSZU.out _ HB1.out).mono ?_
  rintro e w2 ⟨rfl, hb2⟩
  have HB2 := Lib.hid (HB1.out.trans (hb2.mono HB1.out.size))
  replace c0 := keep_below hb2 c0
  replace c1 := keep_below hb2 c1
  replace c2 := keep_below hb2 c2
  replace c3 := keep_below hb2 c3
  replace c4 := keep_below hb2 c4
  replace d0 := keep_below hb2 d0
  replace d1 := keep_below hb2 d1
  replace d2 := keep_below hb2 d2
  replace d3 := keep_below hb2 d3
  replace d4 := keep_below hb2 d4
  clear hb2
  rw [HRU.out]
  go_upto_region 8 with fail
  go_cut [6, 7] from 17 (fun v0 v1 W' => v1 = .bool bv ∧ ∃ (X : AT) (B : Nat), v0 = .pointer (some ⟨B, 0, none⟩) ∧ X.pt = p ∧ X.Own W' w2.heap.size ∧ X.blks.Nodup ∧ B ∉ X.blks ∧ w2.heap.size ≤ B ∧ Rl w2 W' ∧ W'.cell? ⟨B, 0, none⟩ = some (.int .i64 X.k) ∧ W'.cell? ⟨B, 1, none⟩ = some (.int .i64 X.n) ∧ W'.cell? ⟨B, 2, none⟩ = some (.int .i64 X.x) ∧ W'.cell? ⟨B, 3, none⟩ = some (.string ⟨X.s.toArray⟩) ∧ W'.cell? ⟨B, 4, none⟩ = some (.slice X.a X.l.length X.cap))
  case first =>
    have HK := Lib.hid (fun (W' : World) (h : Rl w2 W') => (show Rl w2 W' ∧ W'.cell? ⟨w.heap.size, 0, none⟩ = some (.int .i64 T.k) ∧ W'.cell? ⟨w.heap.size, 1, none⟩ = some (.int .i64 T.n) ∧ W'.cell? ⟨w.heap.size, 2, none⟩ = some (.int .i64 T.x) ∧ W'.cell? ⟨w.heap.size, 3, none⟩ = some (.string ⟨T.s.toArray⟩) ∧ W'.cell? ⟨w.heap.size, 4, none⟩ = some (.slice T.a T.l.length T.cap) ∧ W'.cell? ⟨w.heap.size + 1, 0, none⟩ = some (.int .i64 U.k) ∧ W'.cell? ⟨w.heap.size + 1, 1, none⟩ = some (.int .i64 U.n) ∧ W'.cell? ⟨w.heap.size + 1, 2, none⟩ = some (.int .i64 U.x) ∧ W'.cell? ⟨w.heap.size + 1, 3, none⟩ = some (.string ⟨U.s.toArray⟩) ∧ W'.cell? ⟨w.heap.size + 1, 4, none⟩ = some (.slice U.a U.l.length U.cap) ∧ Below w.heap.size w W' from ⟨h, keep_below h.b c0, keep_below h.b c1, keep_below h.b c2, keep_below h.b c3, keep_below h.b c4, keep_below h.b d0, keep_below h.b d1, keep_below h.b d2, keep_below h.b d3, keep_below h.b d4, HB2.out.trans (h.b.mono HB2.out.size)⟩))
    go_region_held3 (fun W' => Rl w2 W' ∧ W'.cell? ⟨w.heap.size, 0, none⟩ = some (.int .i64 T.k) ∧ W'.cell? ⟨w.heap.size, 1, none⟩ = some (.int .i64 T.n) ∧ W'.cell? ⟨w.heap.size, 2, none⟩ = some (.int .i64 T.x) ∧ W'.cell? ⟨w.heap.size, 3, none⟩ = some (.string ⟨T.s.toArray⟩) ∧ W'.cell? ⟨w.heap.size, 4, none⟩ = some (.slice T.a T.l.length T.cap) ∧ W'.cell? ⟨w.heap.size + 1, 0, none⟩ = some (.int .i64 U.k) ∧ W'.cell? ⟨w.heap.size + 1, 1, none⟩ = some (.int .i64 U.n) ∧ W'.cell? ⟨w.heap.size + 1, 2, none⟩ = some (.int .i64 U.x) ∧ W'.cell? ⟨w.heap.size + 1, 3, none⟩ = some (.string ⟨U.s.toArray⟩) ∧ W'.cell? ⟨w.heap.size + 1, 4, none⟩ = some (.slice U.a U.l.length U.cap) ∧ Below w.heap.size w W') ((go_split_ands; refine HK.out _ ?_; first | with_reducible assumption | with_reducible exact (Rl.refl _).drew | with_reducible exact HRca.out | with_reducible exact HRba.out | with_reducible exact HRaa.out | with_reducible exact Rl.alloc (by assumption) _ | with_reducible exact Rl.alloc HRca.out _ | with_reducible exact (Rl.alloc (Rl.refl _) _).drew | with_reducible exact Rl.drew (by assumption) | with_reducible exact Rl.five (by assumption) HRba.out.z | with_reducible exact Rl.five (by assumption) HRaa.out.z | with_reducible exact Rl.five (by assumption) (Nat.le_refl _))) ((first | (go_at_call 58; go_split_ands; ((with_reducible refine (HTVT.out _ (by assumption)).mono ?_); rintro e uaa ⟨Yaa, hpuaa, rfl, houaa, hnuaa, hbuaa⟩; have HOuaa := Lib.hid houaa; have HPuaa := Lib.hid hpuaa; clear houaa hnuaa hpuaa); have HRaa := Lib.hid (Rl.below (W0 := w2) (by assumption) hbuaa); (first | (have hz := mboxD hbuaa; obtain ⟨z0, z1, z2, z3, z4, zf⟩ := hz) | (have hz := mbox hbuaa; obtain ⟨z0, z1, z2, z3, z4, zf⟩ := hz) | skip)) | (go_at_call 58; go_split_ands; ((with_reducible refine (HTVU.out _ (by assumption)).mono ?_); rintro e uba ⟨Yba, hpuba, rfl, houba, hnuba, hbuba⟩; have HOuba := Lib.hid houba; have HPuba := Lib.hid hpuba; clear houba hnuba hpuba); have HRba := Lib.hid (Rl.below (W0 := w2) (by assumption) hbuba); (first | have HOYa := Lib.hid (own_blw hbuba HOuaa.out) | have HOYa := Lib.hid (own_blw hbuba (own_alloc HOuaa.out))); (first | (have hz := mboxD hbuba; obtain ⟨z0, z1, z2, z3, z4, zf⟩ := hz) | (have hz := mbox hbuba; obtain ⟨z0, z1, z2, z3, z4, zf⟩ := hz) | (have hz := mboxK hbuba z0 z1 z2 z3 z4 zf; obtain ⟨z0, z1, z2, z3, z4, zf⟩ := hz) | skip)) | (go_at_call 47; go_split_ands; refine (HCS.out Yaa Yba HPuaa.out HPuba.out _ (by first | exact HOYa.out.in | exact (own_alloc HOYa.out).in) (by first | exact HOuba.out.in | exact (own_alloc HOuba.out).in)).mono ?_; rintro e waa ⟨G1, hpa, rfl, hoa, hna, hba⟩; have HPG1 := Lib.hid hpa; have HOOG1 := Lib.hid hoa; have HNG1 := Lib.hid hna; clear hpa hoa hna; have HRca := Lib.hid (Rl.below (W0 := w2) (by assumption) hba); (first | (have hz := mboxD hba; obtain ⟨z0, z1, z2, z3, z4, zf⟩ := hz) | (have hz := mbox hba; obtain ⟨z0, z1, z2, z3, z4, zf⟩ := hz) | (have hz := mboxK hba z0 z1 z2 z3 z4 zf; obtain ⟨z0, z1, z2, z3, z4, zf⟩ := hz) | skip))))
    all_goals (go_wp2_with fail; go_meet; (first | with_reducible exact ⟨rfl, G1, _, rfl, HPG1.out, leaf_last HRca.out (by first | exact HRba.out.z | (have hq1 := HRba.out.z; simp; omega)) HOOG1.out HNG1.out⟩ | with_reducible exact ⟨rfl, G1, _, rfl, HPG1.out, leaf_early HRca.out HRba.out.z (by first | exact HRba.out.z | (have hq1 := HRba.out.z; simp; omega)) (by first | (simp; done) | (have hq1 := hbuba.size; simp at hq1; omega) | (have hq1 := hbuaa.size; have hq2 := hbuba.size; simp at hq1 hq2; omega)) HOOG1.out HNG1.out z0 z1 z2 z3 z4⟩ | with_reducible exact ⟨rfl, G1, _, rfl, HPG1.out, leaf_early HRca.out HRaa.out.z (by first | exact HRba.out.z | (have hq1 := HRba.out.z; simp; omega)) (by first | (simp; done) | (have hq1 := hbuba.size; simp at hq1; omega) | (have hq1 := hbuaa.size; have hq2 := hbuba.size; simp at hq1 hq2; omega)) HOOG1.out HNG1.out z0 z1 z2 z3 z4⟩ | with_reducible exact ⟨rfl, G1, _, rfl, HPG1.out, leaf_early HRca.out (Nat.le_refl _) (by first | exact HRba.out.z | (have hq1 := HRba.out.z; simp; omega)) (by first | (simp; done) | (have hq1 := hbuba.size; simp at hq1; omega) | (have hq1 := hbuaa.size; have hq2 := hbuba.size; simp at hq1 hq2; omega)) HOOG1.out HNG1.out z0 z1 z2 z3 z4⟩))
  obtain ⟨hv3, G1, Bp, rfl, hpG, hoG, hnG, hxG, hBg, hRg, p0, p1, p2, p3, p4⟩ := hcut
  subst hv3
  have HPG1 := Lib.hid hpG
  have HNG1 := Lib.hid hnG
  have HOG1_3 := Lib.hid (hoG.base HB2.out.size)
  have HXp_G1 := Lib.hid hxG
  have HXc_G1 : Hid (w.heap.size ∉ G1.blks) := Lib.hid (fun hk => by have h1 := (hoG.lt _ hk).1; have h2 := cell_lt c0; simp only at h2; omega)
  have HXd_G1 : Hid (w.heap.size + 1 ∉ G1.blks) := Lib.hid (fun hk => by have h1 := (hoG.lt _ hk).1; have h2 := cell_lt d0; simp only at h2; omega)
  have HB3 := Lib.hid (HB2.out.trans (hRg.b.mono HB2.out.size))
  replace c0 := keep_below hRg.b c0
  replace c1 := keep_below hRg.b c1
  replace c2 := keep_below hRg.b c2
  replace c3 := keep_below hRg.b c3
  replace c4 := keep_below hRg.b c4
  replace d0 := keep_below hRg.b d0
  replace d1 := keep_below hRg.b d1
  replace d2 := keep_below hRg.b d2
  replace d3 := keep_below hRg.b d3
  replace d4 := keep_below hRg.b d4
  clear hpG hoG hnG hxG hBg hRg
  have hbb : (bv != bv) = false := by cases bv <;> rfl
  go_wp2_with fail
  refine (HTVT.out _ HB3.out).mono ?_
  rintro e w4 ⟨X0, hp4, rfl, ho4, hn4, hb4⟩
  have HB4 := Lib.hid (HB3.out.trans (hb4.mono HB3.out.size))
  have HDX0_G1 : Hid (∀ k ∈ X0.blks, k ∉ G1.blks) := Lib.hid (fun k hk hk2 => by have h1 := (ho4.lt k hk).1; have h2 := (HOG1_3.out.lt k hk2).2; omega)
  have HDG1_X0 : Hid (∀ k ∈ G1.blks, k ∉ X0.blks) := Lib.hid (fun k hk hk2 => by have h1 := (ho4.lt k hk2).1; have h2 := (HOG1_3.out.lt k hk).2; omega)
  have HXc_X0 : Hid (w.heap.size ∉ X0.blks) := Lib.hid (fun hk => by have h1 := (ho4.lt _ hk).1; have h2 := cell_lt c0; simp only at h2; omega)
  have HXd_X0 : Hid (w.heap.size + 1 ∉ X0.blks) := Lib.hid (fun hk => by have h1 := (ho4.lt _ hk).1; have h2 := cell_lt d0; simp only at h2; omega)
  have HXp_X0 : Hid (Bp ∉ X0.blks) := Lib.hid (fun hk => by have h1 := (ho4.lt _ hk).1; have h2 := cell_lt p0; simp only at h2; omega)
  replace c0 := keep_below hb4 c0
  replace c1 := keep_below hb4 c1
  replace c2 := keep_below hb4 c2
  replace c3 := keep_below hb4 c3
  replace c4 := keep_below hb4 c4
  replace d0 := keep_below hb4 d0
  replace d1 := keep_below hb4 d1
  replace d2 := keep_below hb4 d2
  replace d3 := keep_below hb4 d3
  replace d4 := keep_below hb4 d4
  replace p0 := keep_below hb4 p0
  replace p1 := keep_below hb4 p1
  replace p2 := keep_below hb4 p2
  replace p3 := keep_below hb4 p3
  replace p4 := keep_below hb4 p4
  have HOG1_4 := Lib.hid (HOG1_3.out.blw hb4)
  clear HOG1_3
  have HPX0 := Lib.hid hp4
  have HOX0_4 := Lib.hid (ho4.base HB3.out.size)
  have HNX0 := Lib.hid hn4
  clear hp4 ho4 hn4
  clear hb4
  have HXq_G1 : Hid (w4.heap.size ∉ G1.blks) := Lib.hid (fun hk => by have h2 := (HOG1_4.out.lt _ hk).2; omega)
  have HXq_X0 : Hid (w4.heap.size ∉ X0.blks) := Lib.hid (fun hk => by have h2 := (HOX0_4.out.lt _ hk).2; omega)
  have hv5 := vbox w4 (.cells #[.int .i64 X0.k, .int .i64 X0.n, .int .i64 X0.x, .string ⟨X0.s.toArray⟩, .slice X0.a X0.l.length X0.cap] 26)
  have HB5 := Lib.hid (HB4.out.trans (hv5.mono HB4.out.size))
  replace c0 := keep_below hv5 c0
  replace c1 := keep_below hv5 c1
  replace c2 := keep_below hv5 c2
  replace c3 := keep_below hv5 c3
  replace c4 := keep_below hv5 c4
  replace d0 := keep_below hv5 d0
  replace d1 := keep_below hv5 d1
  replace d2 := keep_below hv5 d2
  replace d3 := keep_below hv5 d3
  replace d4 := keep_below hv5 d4
  replace p0 := keep_below hv5 p0
  replace p1 := keep_below hv5 p1
  replace p2 := keep_below hv5 p2
  replace p3 := keep_below hv5 p3
  replace p4 := keep_below hv5 p4
  have HOG1_5 := Lib.hid (HOG1_4.out.blw hv5)
  clear HOG1_4
  have HOX0_5 := Lib.hid (HOX0_4.out.blw hv5)
  clear HOX0_4
  obtain ⟨q0, q1, q2, q3, q4⟩ := vcells5 w4 X0 26
  clear hv5
  go_wp2_with fail
  generalize (w4.alloc (.cells #[.int .i64 X0.k, .int .i64 X0.n, .int .i64 X0.x, .string ⟨X0.s.toArray⟩, .slice X0.a X0.l.length X0.cap] 26)) = w5 at *
  refine (HTVU.out _ HB5.out).mono ?_
  rintro e w6 ⟨X1, hp6, rfl, ho6, hn6, hb6⟩
  have HB6 := Lib.hid (HB5.out.trans (hb6.mono HB5.out.size))
  have HDX1_G1 : Hid (∀ k ∈ X1.blks, k ∉ G1.blks) := Lib.hid (fun k hk hk2 => by have h1 := (ho6.lt k hk).1; have h2 := (HOG1_5.out.lt k hk2).2; omega)
  have HDG1_X1 : Hid (∀ k ∈ G1.blks, k ∉ X1.blks) := Lib.hid (fun k hk hk2 => by have h1 := (ho6.lt k hk2).1; have h2 := (HOG1_5.out.lt k hk).2; omega)
  have HDX1_X0 : Hid (∀ k ∈ X1.blks, k ∉ X0.blks) := Lib.hid (fun k hk hk2 => by have h1 := (ho6.lt k hk).1; have h2 := (HOX0_5.out.lt k hk2).2; omega)
  have HDX0_X1 : Hid (∀ k ∈ X0.blks, k ∉ X1.blks) := Lib.hid (fun k hk hk2 => by have h1 := (ho6.lt k hk2).1; have h2 := (HOX0_5.out.lt k hk).2; omega)
  have HXc_X1 : Hid (w.heap.size ∉ X1.blks) := Lib.hid (fun hk => by have h1 := (ho6.lt _ hk).1; have h2 := cell_lt c0; simp only at h2; omega)
  have HXd_X1 : Hid (w.heap.size + 1 ∉ X1.blks) := Lib.hid (fun hk => by have h1 := (ho6.lt _ hk).1; have h2 := cell_lt d0; simp only at h2; omega)
  have HXp_X1 : Hid (Bp ∉ X1.blks) := Lib.hid (fun hk => by have h1 := (ho6.lt _ hk).1; have h2 := cell_lt p0; simp only at h2; omega)
  have HXq_X1 : Hid (w4.heap.size ∉ X1.blks) := Lib.hid (fun hk => by have h1 := (ho6.lt _ hk).1; have h2 := cell_lt q0; simp only at h2; omega)
  replace c0 := keep_below hb6 c0
  replace c1 := keep_below hb6 c1
  replace c2 := keep_below hb6 c2
  replace c3 := keep_below hb6 c3
  replace c4 := keep_below hb6 c4
  replace d0 := keep_below hb6 d0
  replace d1 := keep_below hb6 d1
  replace d2 := keep_below hb6 d2
  replace d3 := keep_below hb6 d3
  replace d4 := keep_below hb6 d4
  replace p0 := keep_below hb6 p0
  replace p1 := keep_below hb6 p1
  replace p2 := keep_below hb6 p2
  replace p3 := keep_below hb6 p3
  replace p4 := keep_below hb6 p4
  replace q0 := keep_below hb6 q0
  replace q1 := keep_below hb6 q1
  replace q2 := keep_below hb6 q2
  replace q3 := keep_below hb6 q3
  replace q4 := keep_below hb6 q4
  have HOG1_6 := Lib.hid (HOG1_5.out.blw hb6)
  clear HOG1_5
  have HOX0_6 := Lib.hid (HOX0_5.out.blw hb6)
  clear HOX0_5
  have HPX1 := Lib.hid hp6
  have HOX1_6 := Lib.hid (ho6.base HB5.out.size)
  have HNX1 := Lib.hid hn6
  clear hp6 ho6 hn6
  clear hb6
  have HXr_G1 : Hid (w6.heap.size ∉ G1.blks) := Lib.hid (fun hk => by have h2 := (HOG1_6.out.lt _ hk).2; omega)
  have HXr_X0 : Hid (w6.heap.size ∉ X0.blks) := Lib.hid (fun hk => by have h2 := (HOX0_6.out.lt _ hk).2; omega)
  have HXr_X1 : Hid (w6.heap.size ∉ X1.blks) := Lib.hid (fun hk => by have h2 := (HOX1_6.out.lt _ hk).2; omega)
  have hv7 := vbox w6 (.cells #[.int .i64 X1.k, .int .i64 X1.n, .int .i64 X1.x, .string ⟨X1.s.toArray⟩, .slice X1.a X1.l.length X1.cap] 26)
  have HB7 := Lib.hid (HB6.out.trans (hv7.mono HB6.out.size))
  replace c0 := keep_below hv7 c0
  replace c1 := keep_below hv7 c1
  replace c2 := keep_below hv7 c2
  replace c3 := keep_below hv7 c3
  replace c4 := keep_below hv7 c4
  replace d0 := keep_below hv7 d0
  replace d1 := keep_below hv7 d1
  replace d2 := keep_below hv7 d2
  replace d3 := keep_below hv7 d3
  replace d4 := keep_below hv7 d4
  replace p0 := keep_below hv7 p0
  replace p1 := keep_below hv7 p1
  replace p2 := keep_below hv7 p2
  replace p3 := keep_below hv7 p3
  replace p4 := keep_below hv7 p4
  replace q0 := keep_below hv7 q0
  replace q1 := keep_below hv7 q1
  replace q2 := keep_below hv7 q2
  replace q3 := keep_below hv7 q3
  replace q4 := keep_below hv7 q4
  have HOG1_7 := Lib.hid (HOG1_6.out.blw hv7)
  clear HOG1_6
  have HOX0_7 := Lib.hid (HOX0_6.out.blw hv7)
  clear HOX0_6
  have HOX1_7 := Lib.hid (HOX1_6.out.blw hv7)
  clear HOX1_6
  obtain ⟨r0, r1, r2, r3, r4⟩ := vcells5 w6 X1 26
  clear hv7
  go_wp2_with fail
  generalize (w6.alloc (.cells #[.int .i64 X1.k, .int .i64 X1.n, .int .i64 X1.x, .string ⟨X1.s.toArray⟩, .slice X1.a X1.l.length X1.cap] 26)) = w7 at *
  refine (HCI.out X0 X1 HPX0.out HPX1.out _ _ HOX0_7.out HOX1_7.out.in).mono ?_
  rintro e w8 ⟨G0, hp8, rfl, ho8, hn8, hb8⟩
  have HB8 := Lib.hid (HB7.out.trans (hb8.mono HB7.out.size))
  have HDG0_G1 : Hid (∀ k ∈ G0.blks, k ∉ G1.blks) := Lib.hid (fun k hk hk2 => by have h1 := (ho8.lt k hk).1; have h2 := (HOG1_7.out.lt k hk2).2; omega)
  have HDG1_G0 : Hid (∀ k ∈ G1.blks, k ∉ G0.blks) := Lib.hid (fun k hk hk2 => by have h1 := (ho8.lt k hk2).1; have h2 := (HOG1_7.out.lt k hk).2; omega)
  have HDG0_X0 : Hid (∀ k ∈ G0.blks, k ∉ X0.blks) := Lib.hid (fun k hk hk2 => by have h1 := (ho8.lt k hk).1; have h2 := (HOX0_7.out.lt k hk2).2; omega)
  have HDX0_G0 : Hid (∀ k ∈ X0.blks, k ∉ G0.blks) := Lib.hid (fun k hk hk2 => by have h1 := (ho8.lt k hk2).1; have h2 := (HOX0_7.out.lt k hk).2; omega)
  have HDG0_X1 : Hid (∀ k ∈ G0.blks, k ∉ X1.blks) := Lib.hid (fun k hk hk2 => by have h1 := (ho8.lt k hk).1; have h2 := (HOX1_7.out.lt k hk2).2; omega)
  have HDX1_G0 : Hid (∀ k ∈ X1.blks, k ∉ G0.blks) := Lib.hid (fun k hk hk2 => by have h1 := (ho8.lt k hk2).1; have h2 := (HOX1_7.out.lt k hk).2; omega)
  have HXc_G0 : Hid (w.heap.size ∉ G0.blks) := Lib.hid (fun hk => by have h1 := (ho8.lt _ hk).1; have h2 := cell_lt c0; simp only at h2; omega)
  have HXd_G0 : Hid (w.heap.size + 1 ∉ G0.blks) := Lib.hid (fun hk => by have h1 := (ho8.lt _ hk).1; have h2 := cell_lt d0; simp only at h2; omega)
  have HXp_G0 : Hid (Bp ∉ G0.blks) := Lib.hid (fun hk => by have h1 := (ho8.lt _ hk).1; have h2 := cell_lt p0; simp only at h2; omega)
  have HXq_G0 : Hid (w4.heap.size ∉ G0.blks) := Lib.hid (fun hk => by have h1 := (ho8.lt _ hk).1; have h2 := cell_lt q0; simp only at h2; omega)
  have HXr_G0 : Hid (w6.heap.size ∉ G0.blks) := Lib.hid (fun hk => by have h1 := (ho8.lt _ hk).1; have h2 := cell_lt r0; simp only at h2; omega)
  replace c0 := keep_below hb8 c0
  replace c1 := keep_below hb8 c1
  replace c2 := keep_below hb8 c2
  replace c3 := keep_below hb8 c3
  replace c4 := keep_below hb8 c4
  replace d0 := keep_below hb8 d0
  replace d1 := keep_below hb8 d1
  replace d2 := keep_below hb8 d2
  replace d3 := keep_below hb8 d3
  replace d4 := keep_below hb8 d4
  replace p0 := keep_below hb8 p0
  replace p1 := keep_below hb8 p1
  replace p2 := keep_below hb8 p2
  replace p3 := keep_below hb8 p3
  replace p4 := keep_below hb8 p4
  replace q0 := keep_below hb8 q0
  replace q1 := keep_below hb8 q1
  replace q2 := keep_below hb8 q2
  replace q3 := keep_below hb8 q3
  replace q4 := keep_below hb8 q4
  replace r0 := keep_below hb8 r0
  replace r1 := keep_below hb8 r1
  replace r2 := keep_below hb8 r2
  replace r3 := keep_below hb8 r3
  replace r4 := keep_below hb8 r4
  have HOG1_8 := Lib.hid (HOG1_7.out.blw hb8)
  clear HOG1_7
  have HOX0_8 := Lib.hid (HOX0_7.out.blw hb8)
  clear HOX0_7
  have HOX1_8 := Lib.hid (HOX1_7.out.blw hb8)
  clear HOX1_7
  have HPG0 := Lib.hid hp8
  have HOG0_8 := Lib.hid (ho8.base HB7.out.size)
  have HNG0 := Lib.hid hn8
  clear hp8 ho8 hn8
  clear hb8
  have HXs_G1 : Hid (w8.heap.size ∉ G1.blks) := Lib.hid (fun hk => by have h2 := (HOG1_8.out.lt _ hk).2; omega)
  have HXs_X0 : Hid (w8.heap.size ∉ X0.blks) := Lib.hid (fun hk => by have h2 := (HOX0_8.out.lt _ hk).2; omega)
  have HXs_X1 : Hid (w8.heap.size ∉ X1.blks) := Lib.hid (fun hk => by have h2 := (HOX1_8.out.lt _ hk).2; omega)
  have HXs_G0 : Hid (w8.heap.size ∉ G0.blks) := Lib.hid (fun hk => by have h2 := (HOG0_8.out.lt _ hk).2; omega)
  have hv9 := vbox w8 (.cells #[.int .i64 G0.k, .int .i64 G0.n, .int .i64 G0.x, .string ⟨G0.s.toArray⟩, .slice G0.a G0.l.length G0.cap] 26)
  have HB9 := Lib.hid (HB8.out.trans (hv9.mono HB8.out.size))
  replace c0 := keep_below hv9 c0
  replace c1 := keep_below hv9 c1
  replace c2 := keep_below hv9 c2
  replace c3 := keep_below hv9 c3
  replace c4 := keep_below hv9 c4
  replace d0 := keep_below hv9 d0
  replace d1 := keep_below hv9 d1
  replace d2 := keep_below hv9 d2
  replace d3 := keep_below hv9 d3
  replace d4 := keep_below hv9 d4
  replace p0 := keep_below hv9 p0
  replace p1 := keep_below hv9 p1
  replace p2 := keep_below hv9 p2
  replace p3 := keep_below hv9 p3
  replace p4 := keep_below hv9 p4
  replace q0 := keep_below hv9 q0
  replace q1 := keep_below hv9 q1
  replace q2 := keep_below hv9 q2
  replace q3 := keep_below hv9 q3
  replace q4 := keep_below hv9 q4
  replace r0 := keep_below hv9 r0
  replace r1 := keep_below hv9 r1
  replace r2 := keep_below hv9 r2
  replace r3 := keep_below hv9 r3
  replace r4 := keep_below hv9 r4
  have HOG1_9 := Lib.hid (HOG1_8.out.blw hv9)
  clear HOG1_8
  have HOX0_9 := Lib.hid (HOX0_8.out.blw hv9)
  clear HOX0_8
  have HOX1_9 := Lib.hid (HOX1_8.out.blw hv9)
  clear HOX1_8
  have HOG0_9 := Lib.hid (HOG0_8.out.blw hv9)
  clear HOG0_8
  obtain ⟨s0, s1, s2, s3, s4⟩ := vcells5 w8 G0 26
  clear hv9
  go_wp2_with fail
  generalize (w8.alloc (.cells #[.int .i64 G0.k, .int .i64 G0.n, .int .i64 G0.x, .string ⟨G0.s.toArray⟩, .slice G0.a G0.l.length G0.cap] 26)) = w9 at *
  refine (HER.out G0 G1 HPG0.out HPG1.out _ HOG0_9.out.in HOG1_9.out.in).mono ?_
  rintro e w10 ⟨rfl, hb10⟩
  have HB10 := Lib.hid (HB9.out.trans (hb10.mono HB9.out.size))
  replace c0 := keep_below hb10 c0
  replace c1 := keep_below hb10 c1
  replace c2 := keep_below hb10 c2
  replace c3 := keep_below hb10 c3
  replace c4 := keep_below hb10 c4
  replace d0 := keep_below hb10 d0
  replace d1 := keep_below hb10 d1
  replace d2 := keep_below hb10 d2
  replace d3 := keep_below hb10 d3
  replace d4 := keep_below hb10 d4
  replace p0 := keep_below hb10 p0
  replace p1 := keep_below hb10 p1
  replace p2 := keep_below hb10 p2
  replace p3 := keep_below hb10 p3
  replace p4 := keep_below hb10 p4
  replace q0 := keep_below hb10 q0
  replace q1 := keep_below hb10 q1
  replace q2 := keep_below hb10 q2
  replace q3 := keep_below hb10 q3
  replace q4 := keep_below hb10 q4
  replace r0 := keep_below hb10 r0
  replace r1 := keep_below hb10 r1
  replace r2 := keep_below hb10 r2
  replace r3 := keep_below hb10 r3
  replace r4 := keep_below hb10 r4
  replace s0 := keep_below hb10 s0
  replace s1 := keep_below hb10 s1
  replace s2 := keep_below hb10 s2
  replace s3 := keep_below hb10 s3
  replace s4 := keep_below hb10 s4
  have HOG1_10 := Lib.hid (HOG1_9.out.blw hb10)
  clear HOG1_9
  have HOX0_10 := Lib.hid (HOX0_9.out.blw hb10)
  clear HOX0_9
  have HOX1_10 := Lib.hid (HOX1_9.out.blw hb10)
  clear HOX1_9
  have HOG0_10 := Lib.hid (HOG0_9.out.blw hb10)
  clear HOG0_9
  clear hb10
  go_wp2_with fail
  have hownG1 := HOG1_10.out
  have hownX0 := HOX0_10.out
  have hownX1 := HOX1_10.out
  have hownG0 := HOG0_10.out
  have hbel := HB10.out
  go_region_held3 (fun W' => W'.cell? ⟨w.heap.size, 0, none⟩ = some (.int .i64 T.k) ∧ W'.cell? ⟨w.heap.size, 1, none⟩ = some (.int .i64 T.n) ∧ W'.cell? ⟨w.heap.size, 2, none⟩ = some (.int .i64 T.x) ∧ W'.cell? ⟨w.heap.size, 3, none⟩ = some (.string ⟨T.s.toArray⟩) ∧ W'.cell? ⟨w.heap.size, 4, none⟩ = some (.slice T.a T.l.length T.cap) ∧ W'.cell? ⟨w.heap.size + 1, 0, none⟩ = some (.int .i64 U.k) ∧ W'.cell? ⟨w.heap.size + 1, 1, none⟩ = some (.int .i64 U.n) ∧ W'.cell? ⟨w.heap.size + 1, 2, none⟩ = some (.int .i64 U.x) ∧ W'.cell? ⟨w.heap.size + 1, 3, none⟩ = some (.string ⟨U.s.toArray⟩) ∧ W'.cell? ⟨w.heap.size + 1, 4, none⟩ = some (.slice U.a U.l.length U.cap) ∧ W'.cell? ⟨Bp, 0, none⟩ = some (.int .i64 G1.k) ∧ W'.cell? ⟨Bp, 1, none⟩ = some (.int .i64 G1.n) ∧ W'.cell? ⟨Bp, 2, none⟩ = some (.int .i64 G1.x) ∧ W'.cell? ⟨Bp, 3, none⟩ = some (.string ⟨G1.s.toArray⟩) ∧ W'.cell? ⟨Bp, 4, none⟩ = some (.slice G1.a G1.l.length G1.cap) ∧ W'.cell? ⟨w4.heap.size, 0, none⟩ = some (.int .i64 X0.k) ∧ W'.cell? ⟨w4.heap.size, 1, none⟩ = some (.int .i64 X0.n) ∧ W'.cell? ⟨w4.heap.size, 2, none⟩ = some (.int .i64 X0.x) ∧ W'.cell? ⟨w4.heap.size, 3, none⟩ = some (.string ⟨X0.s.toArray⟩) ∧ W'.cell? ⟨w4.heap.size, 4, none⟩ = some (.slice X0.a X0.l.length X0.cap) ∧ W'.cell? ⟨w6.heap.size, 0, none⟩ = some (.int .i64 X1.k) ∧ W'.cell? ⟨w6.heap.size, 1, none⟩ = some (.int .i64 X1.n) ∧ W'.cell? ⟨w6.heap.size, 2, none⟩ = some (.int .i64 X1.x) ∧ W'.cell? ⟨w6.heap.size, 3, none⟩ = some (.string ⟨X1.s.toArray⟩) ∧ W'.cell? ⟨w6.heap.size, 4, none⟩ = some (.slice X1.a X1.l.length X1.cap) ∧ W'.cell? ⟨w8.heap.size, 0, none⟩ = some (.int .i64 G0.k) ∧ W'.cell? ⟨w8.heap.size, 1, none⟩ = some (.int .i64 G0.n) ∧ W'.cell? ⟨w8.heap.size, 2, none⟩ = some (.int .i64 G0.x) ∧ W'.cell? ⟨w8.heap.size, 3, none⟩ = some (.string ⟨G0.s.toArray⟩) ∧ W'.cell? ⟨w8.heap.size, 4, none⟩ = some (.slice G0.a G0.l.length G0.cap) ∧ Below w.heap.size w W' ∧ G1.Own W' w.heap.size ∧ X0.Own W' w.heap.size ∧ X1.Own W' w.heap.size ∧ G0.Own W' w.heap.size) ((refine ⟨?_, ?_, ?_, ?_, ?_, ?_, ?_, ?_, ?_, ?_, ?_, ?_, ?_, ?_, ?_, ?_, ?_, ?_, ?_, ?_, ?_, ?_, ?_, ?_, ?_, ?_, ?_, ?_, ?_, ?_, ?_, ?_, ?_, ?_, ?_⟩ <;> first | assumption | (refine Below.drew ?_; assumption) | (refine AT.Own.drew ?_; assumption) | exact keep_below (by assumption) (by assumption) | exact below_tr (by assumption) (by assumption) | exact own_blw (by assumption) (by assumption))) ((first | (go_at_call 58; go_split_ands; ((with_reducible refine (HTVT.out _ (by assumption)).mono ?_); rintro e u1 ⟨Y1, hpu1, rfl, hou1, hnu1, hbu1⟩; have HOu1 := Lib.hid hou1; have HPu1 := Lib.hid hpu1; clear hou1 hnu1 hpu1)) | (go_at_call 59; go_split_ands; refine (HEQT.out X0 Y1 HPX0.out HPu1.out _ (AT.Own.in (by assumption)) HOu1.out.in).mono ?_; rintro e v1 ⟨rfl, hbv1⟩)))
  go_split_ands
  replace c0 : v1.cell? ⟨w.heap.size, 0, none⟩ = some (.int .i64 T.k) := by assumption
  replace c1 : v1.cell? ⟨w.heap.size, 1, none⟩ = some (.int .i64 T.n) := by assumption
  replace c2 : v1.cell? ⟨w.heap.size, 2, none⟩ = some (.int .i64 T.x) := by assumption
  replace c3 : v1.cell? ⟨w.heap.size, 3, none⟩ = some (.string ⟨T.s.toArray⟩) := by assumption
  replace c4 : v1.cell? ⟨w.heap.size, 4, none⟩ = some (.slice T.a T.l.length T.cap) := by assumption
  replace d0 : v1.cell? ⟨w.heap.size + 1, 0, none⟩ = some (.int .i64 U.k) := by assumption
  replace d1 : v1.cell? ⟨w.heap.size + 1, 1, none⟩ = some (.int .i64 U.n) := by assumption
  replace d2 : v1.cell? ⟨w.heap.size + 1, 2, none⟩ = some (.int .i64 U.x) := by assumption
  replace d3 : v1.cell? ⟨w.heap.size + 1, 3, none⟩ = some (.string ⟨U.s.toArray⟩) := by assumption
  replace d4 : v1.cell? ⟨w.heap.size + 1, 4, none⟩ = some (.slice U.a U.l.length U.cap) := by assumption
  replace p0 : v1.cell? ⟨Bp, 0, none⟩ = some (.int .i64 G1.k) := by assumption
  replace p1 : v1.cell? ⟨Bp, 1, none⟩ = some (.int .i64 G1.n) := by assumption
  replace p2 : v1.cell? ⟨Bp, 2, none⟩ = some (.int .i64 G1.x) := by assumption
  replace p3 : v1.cell? ⟨Bp, 3, none⟩ = some (.string ⟨G1.s.toArray⟩) := by assumption
  replace p4 : v1.cell? ⟨Bp, 4, none⟩ = some (.slice G1.a G1.l.length G1.cap) := by assumption
  replace q0 : v1.cell? ⟨w4.heap.size, 0, none⟩ = some (.int .i64 X0.k) := by assumption
  replace q1 : v1.cell? ⟨w4.heap.size, 1, none⟩ = some (.int .i64 X0.n) := by assumption
  replace q2 : v1.cell? ⟨w4.heap.size, 2, none⟩ = some (.int .i64 X0.x) := by assumption
  replace q3 : v1.cell? ⟨w4.heap.size, 3, none⟩ = some (.string ⟨X0.s.toArray⟩) := by assumption
  replace q4 : v1.cell? ⟨w4.heap.size, 4, none⟩ = some (.slice X0.a X0.l.length X0.cap) := by assumption
  replace r0 : v1.cell? ⟨w6.heap.size, 0, none⟩ = some (.int .i64 X1.k) := by assumption
  replace r1 : v1.cell? ⟨w6.heap.size, 1, none⟩ = some (.int .i64 X1.n) := by assumption
  replace r2 : v1.cell? ⟨w6.heap.size, 2, none⟩ = some (.int .i64 X1.x) := by assumption
  replace r3 : v1.cell? ⟨w6.heap.size, 3, none⟩ = some (.string ⟨X1.s.toArray⟩) := by assumption
  replace r4 : v1.cell? ⟨w6.heap.size, 4, none⟩ = some (.slice X1.a X1.l.length X1.cap) := by assumption
  replace s0 : v1.cell? ⟨w8.heap.size, 0, none⟩ = some (.int .i64 G0.k) := by assumption
  replace s1 : v1.cell? ⟨w8.heap.size, 1, none⟩ = some (.int .i64 G0.n) := by assumption
  replace s2 : v1.cell? ⟨w8.heap.size, 2, none⟩ = some (.int .i64 G0.x) := by assumption
  replace s3 : v1.cell? ⟨w8.heap.size, 3, none⟩ = some (.string ⟨G0.s.toArray⟩) := by assumption
  replace s4 : v1.cell? ⟨w8.heap.size, 4, none⟩ = some (.slice G0.a G0.l.length G0.cap) := by assumption
  have HB11 : Hid (Below w.heap.size w v1) := Lib.hid (by assumption)
  have HOG1_11 : Hid (G1.Own v1 w.heap.size) := Lib.hid (by assumption)
  have HOX0_11 : Hid (X0.Own v1 w.heap.size) := Lib.hid (by assumption)
  have HOX1_11 : Hid (X1.Own v1 w.heap.size) := Lib.hid (by assumption)
  have HOG0_11 : Hid (G0.Own v1 w.heap.size) := Lib.hid (by assumption)
  clear hbel hownG1 hownX0 hownX1 hownG0
  go_wp2_with fail
  have hownG1 := HOG1_11.out
  have hownX0 := HOX0_11.out
  have hownX1 := HOX1_11.out
  have hownG0 := HOG0_11.out
  have hbel := HB11.out
  go_region_held3 (fun W' => W'.cell? ⟨w.heap.size, 0, none⟩ = some (.int .i64 T.k) ∧ W'.cell? ⟨w.heap.size, 1, none⟩ = some (.int .i64 T.n) ∧ W'.cell? ⟨w.heap.size, 2, none⟩ = some (.int .i64 T.x) ∧ W'.cell? ⟨w.heap.size, 3, none⟩ = some (.string ⟨T.s.toArray⟩) ∧ W'.cell? ⟨w.heap.size, 4, none⟩ = some (.slice T.a T.l.length T.cap) ∧ W'.cell? ⟨w.heap.size + 1, 0, none⟩ = some (.int .i64 U.k) ∧ W'.cell? ⟨w.heap.size + 1, 1, none⟩ = some (.int .i64 U.n) ∧ W'.cell? ⟨w.heap.size + 1, 2, none⟩ = some (.int .i64 U.x) ∧ W'.cell? ⟨w.heap.size + 1, 3, none⟩ = some (.string ⟨U.s.toArray⟩) ∧ W'.cell? ⟨w.heap.size + 1, 4, none⟩ = some (.slice U.a U.l.length U.cap) ∧ W'.cell? ⟨Bp, 0, none⟩ = some (.int .i64 G1.k) ∧ W'.cell? ⟨Bp, 1, none⟩ = some (.int .i64 G1.n) ∧ W'.cell? ⟨Bp, 2, none⟩ = some (.int .i64 G1.x) ∧ W'.cell? ⟨Bp, 3, none⟩ = some (.string ⟨G1.s.toArray⟩) ∧ W'.cell? ⟨Bp, 4, none⟩ = some (.slice G1.a G1.l.length G1.cap) ∧ W'.cell? ⟨w4.heap.size, 0, none⟩ = some (.int .i64 X0.k) ∧ W'.cell? ⟨w4.heap.size, 1, none⟩ = some (.int .i64 X0.n) ∧ W'.cell? ⟨w4.heap.size, 2, none⟩ = some (.int .i64 X0.x) ∧ W'.cell? ⟨w4.heap.size, 3, none⟩ = some (.string ⟨X0.s.toArray⟩) ∧ W'.cell? ⟨w4.heap.size, 4, none⟩ = some (.slice X0.a X0.l.length X0.cap) ∧ W'.cell? ⟨w6.heap.size, 0, none⟩ = some (.int .i64 X1.k) ∧ W'.cell? ⟨w6.heap.size, 1, none⟩ = some (.int .i64 X1.n) ∧ W'.cell? ⟨w6.heap.size, 2, none⟩ = some (.int .i64 X1.x) ∧ W'.cell? ⟨w6.heap.size, 3, none⟩ = some (.string ⟨X1.s.toArray⟩) ∧ W'.cell? ⟨w6.heap.size, 4, none⟩ = some (.slice X1.a X1.l.length X1.cap) ∧ W'.cell? ⟨w8.heap.size, 0, none⟩ = some (.int .i64 G0.k) ∧ W'.cell? ⟨w8.heap.size, 1, none⟩ = some (.int .i64 G0.n) ∧ W'.cell? ⟨w8.heap.size, 2, none⟩ = some (.int .i64 G0.x) ∧ W'.cell? ⟨w8.heap.size, 3, none⟩ = some (.string ⟨G0.s.toArray⟩) ∧ W'.cell? ⟨w8.heap.size, 4, none⟩ = some (.slice G0.a G0.l.length G0.cap) ∧ Below w.heap.size w W' ∧ G1.Own W' w.heap.size ∧ X0.Own W' w.heap.size ∧ X1.Own W' w.heap.size ∧ G0.Own W' w.heap.size) ((refine ⟨?_, ?_, ?_, ?_, ?_, ?_, ?_, ?_, ?_, ?_, ?_, ?_, ?_, ?_, ?_, ?_, ?_, ?_, ?_, ?_, ?_, ?_, ?_, ?_, ?_, ?_, ?_, ?_, ?_, ?_, ?_, ?_, ?_, ?_, ?_⟩ <;> first | assumption | (refine Below.drew ?_; assumption) | (refine AT.Own.drew ?_; assumption) | exact keep_below (by assumption) (by assumption) | exact below_tr (by assumption) (by assumption) | exact own_blw (by assumption) (by assumption))) ((first | (go_at_call 58; go_split_ands; ((with_reducible refine (HTVU.out _ (by assumption)).mono ?_); rintro e u2 ⟨Y2, hpu2, rfl, hou2, hnu2, hbu2⟩; have HOu2 := Lib.hid hou2; have HPu2 := Lib.hid hpu2; clear hou2 hnu2 hpu2)) | (go_at_call 59; go_split_ands; refine (HEQU.out X1 Y2 HPX1.out HPu2.out _ (AT.Own.in (by assumption)) HOu2.out.in).mono ?_; rintro e v2 ⟨rfl, hbv2⟩)))
  go_split_ands
  replace c0 : v2.cell? ⟨w.heap.size, 0, none⟩ = some (.int .i64 T.k) := by assumption
  replace c1 : v2.cell? ⟨w.heap.size, 1, none⟩ = some (.int .i64 T.n) := by assumption
  replace c2 : v2.cell? ⟨w.heap.size, 2, none⟩ = some (.int .i64 T.x) := by assumption
  replace c3 : v2.cell? ⟨w.heap.size, 3, none⟩ = some (.string ⟨T.s.toArray⟩) := by assumption
  replace c4 : v2.cell? ⟨w.heap.size, 4, none⟩ = some (.slice T.a T.l.length T.cap) := by assumption
  replace d0 : v2.cell? ⟨w.heap.size + 1, 0, none⟩ = some (.int .i64 U.k) := by assumption
  replace d1 : v2.cell? ⟨w.heap.size + 1, 1, none⟩ = some (.int .i64 U.n) := by assumption
  replace d2 : v2.cell? ⟨w.heap.size + 1, 2, none⟩ = some (.int .i64 U.x) := by assumption
  replace d3 : v2.cell? ⟨w.heap.size + 1, 3, none⟩ = some (.string ⟨U.s.toArray⟩) := by assumption
  replace d4 : v2.cell? ⟨w.heap.size + 1, 4, none⟩ = some (.slice U.a U.l.length U.cap) := by assumption
  replace p0 : v2.cell? ⟨Bp, 0, none⟩ = some (.int .i64 G1.k) := by assumption
  replace p1 : v2.cell? ⟨Bp, 1, none⟩ = some (.int .i64 G1.n) := by assumption
  replace p2 : v2.cell? ⟨Bp, 2, none⟩ = some (.int .i64 G1.x) := by assumption
  replace p3 : v2.cell? ⟨Bp, 3, none⟩ = some (.string ⟨G1.s.toArray⟩) := by assumption
  replace p4 : v2.cell? ⟨Bp, 4, none⟩ = some (.slice G1.a G1.l.length G1.cap) := by assumption
  replace q0 : v2.cell? ⟨w4.heap.size, 0, none⟩ = some (.int .i64 X0.k) := by assumption
  replace q1 : v2.cell? ⟨w4.heap.size, 1, none⟩ = some (.int .i64 X0.n) := by assumption
  replace q2 : v2.cell? ⟨w4.heap.size, 2, none⟩ = some (.int .i64 X0.x) := by assumption
  replace q3 : v2.cell? ⟨w4.heap.size, 3, none⟩ = some (.string ⟨X0.s.toArray⟩) := by assumption
  replace q4 : v2.cell? ⟨w4.heap.size, 4, none⟩ = some (.slice X0.a X0.l.length X0.cap) := by assumption
  replace r0 : v2.cell? ⟨w6.heap.size, 0, none⟩ = some (.int .i64 X1.k) := by assumption
  replace r1 : v2.cell? ⟨w6.heap.size, 1, none⟩ = some (.int .i64 X1.n) := by assumption
  replace r2 : v2.cell? ⟨w6.heap.size, 2, none⟩ = some (.int .i64 X1.x) := by assumption
  replace r3 : v2.cell? ⟨w6.heap.size, 3, none⟩ = some (.string ⟨X1.s.toArray⟩) := by assumption
  replace r4 : v2.cell? ⟨w6.heap.size, 4, none⟩ = some (.slice X1.a X1.l.length X1.cap) := by assumption
  replace s0 : v2.cell? ⟨w8.heap.size, 0, none⟩ = some (.int .i64 G0.k) := by assumption
  replace s1 : v2.cell? ⟨w8.heap.size, 1, none⟩ = some (.int .i64 G0.n) := by assumption
  replace s2 : v2.cell? ⟨w8.heap.size, 2, none⟩ = some (.int .i64 G0.x) := by assumption
  replace s3 : v2.cell? ⟨w8.heap.size, 3, none⟩ = some (.string ⟨G0.s.toArray⟩) := by assumption
  replace s4 : v2.cell? ⟨w8.heap.size, 4, none⟩ = some (.slice G0.a G0.l.length G0.cap) := by assumption
  have HB12 : Hid (Below w.heap.size w v2) := Lib.hid (by assumption)
  have HOG1_12 : Hid (G1.Own v2 w.heap.size) := Lib.hid (by assumption)
  have HOX0_12 : Hid (X0.Own v2 w.heap.size) := Lib.hid (by assumption)
  have HOX1_12 : Hid (X1.Own v2 w.heap.size) := Lib.hid (by assumption)
  have HOG0_12 : Hid (G0.Own v2 w.heap.size) := Lib.hid (by assumption)
  clear hbel hownG1 hownX0 hownX1 hownG0
  go_wp2_with fail
  refine (mark_tree X0 _ _ HOX0_12.out HNX0.out (HCAT.out X0 HPX0.out)).mono ?_
  rintro e w13 ⟨⟨rfl, -⟩, hbs13⟩
  have HB13 := Lib.hid (HB12.out.trans (hbs13.below (fun k hk => (HOX0_12.out.lt k hk).1) HB12.out.size))
  replace c0 := hbs13.cell HXc_X0.out c0
  replace c1 := hbs13.cell HXc_X0.out c1
  replace c2 := hbs13.cell HXc_X0.out c2
  replace c3 := hbs13.cell HXc_X0.out c3
  replace c4 := hbs13.cell HXc_X0.out c4
  replace d0 := hbs13.cell HXd_X0.out d0
  replace d1 := hbs13.cell HXd_X0.out d1
  replace d2 := hbs13.cell HXd_X0.out d2
  replace d3 := hbs13.cell HXd_X0.out d3
  replace d4 := hbs13.cell HXd_X0.out d4
  replace p0 := hbs13.cell HXp_X0.out p0
  replace p1 := hbs13.cell HXp_X0.out p1
  replace p2 := hbs13.cell HXp_X0.out p2
  replace p3 := hbs13.cell HXp_X0.out p3
  replace p4 := hbs13.cell HXp_X0.out p4
  replace q0 := hbs13.cell HXq_X0.out q0
  replace q1 := hbs13.cell HXq_X0.out q1
  replace q2 := hbs13.cell HXq_X0.out q2
  replace q3 := hbs13.cell HXq_X0.out q3
  replace q4 := hbs13.cell HXq_X0.out q4
  replace r0 := hbs13.cell HXr_X0.out r0
  replace r1 := hbs13.cell HXr_X0.out r1
  replace r2 := hbs13.cell HXr_X0.out r2
  replace r3 := hbs13.cell HXr_X0.out r3
  replace r4 := hbs13.cell HXr_X0.out r4
  replace s0 := hbs13.cell HXs_X0.out s0
  replace s1 := hbs13.cell HXs_X0.out s1
  replace s2 := hbs13.cell HXs_X0.out s2
  replace s3 := hbs13.cell HXs_X0.out s3
  replace s4 := hbs13.cell HXs_X0.out s4
  have HOG1_13 := Lib.hid (HOG1_12.out.onlyBs hbs13 HDG1_X0.out)
  clear HOG1_12
  have HOX1_13 := Lib.hid (HOX1_12.out.onlyBs hbs13 HDX1_X0.out)
  clear HOX1_12
  have HOG0_13 := Lib.hid (HOG0_12.out.onlyBs hbs13 HDG0_X0.out)
  clear HOG0_12
  clear hbs13 HOX0_12
  rw [HCBT.out X0 HPX0.out, ← HM1.out]
  go_wp2_with fail
  refine (mark_from X1 _ _ M1 HOX1_13.out HNX1.out (HCAU.out X1 HPX1.out) hm0 hm1).mono ?_
  rintro e w14 ⟨⟨rfl, -⟩, hbs14⟩
  have HB14 := Lib.hid (HB13.out.trans (hbs14.below (fun k hk => (HOX1_13.out.lt k hk).1) HB13.out.size))
  replace c0 := hbs14.cell HXc_X1.out c0
  replace c1 := hbs14.cell HXc_X1.out c1
  replace c2 := hbs14.cell HXc_X1.out c2
  replace c3 := hbs14.cell HXc_X1.out c3
  replace c4 := hbs14.cell HXc_X1.out c4
  replace d0 := hbs14.cell HXd_X1.out d0
  replace d1 := hbs14.cell HXd_X1.out d1
  replace d2 := hbs14.cell HXd_X1.out d2
  replace d3 := hbs14.cell HXd_X1.out d3
  replace d4 := hbs14.cell HXd_X1.out d4
  replace p0 := hbs14.cell HXp_X1.out p0
  replace p1 := hbs14.cell HXp_X1.out p1
  replace p2 := hbs14.cell HXp_X1.out p2
  replace p3 := hbs14.cell HXp_X1.out p3
  replace p4 := hbs14.cell HXp_X1.out p4
  replace q0 := hbs14.cell HXq_X1.out q0
  replace q1 := hbs14.cell HXq_X1.out q1
  replace q2 := hbs14.cell HXq_X1.out q2
  replace q3 := hbs14.cell HXq_X1.out q3
  replace q4 := hbs14.cell HXq_X1.out q4
  replace r0 := hbs14.cell HXr_X1.out r0
  replace r1 := hbs14.cell HXr_X1.out r1
  replace r2 := hbs14.cell HXr_X1.out r2
  replace r3 := hbs14.cell HXr_X1.out r3
  replace r4 := hbs14.cell HXr_X1.out r4
  replace s0 := hbs14.cell HXs_X1.out s0
  replace s1 := hbs14.cell HXs_X1.out s1
  replace s2 := hbs14.cell HXs_X1.out s2
  replace s3 := hbs14.cell HXs_X1.out s3
  replace s4 := hbs14.cell HXs_X1.out s4
  have HOG1_14 := Lib.hid (HOG1_13.out.onlyBs hbs14 HDG1_X1.out)
  clear HOG1_13
  have HOG0_14 := Lib.hid (HOG0_13.out.onlyBs hbs14 HDG0_X1.out)
  clear HOG0_13
  clear hbs14 HOX1_13
  rw [HCBU.out X1 HPX1.out, ← HM2.out]
  go_wp2_with fail
  refine (HER.out G0 G1 HPG0.out HPG1.out _ HOG0_14.out.in HOG1_14.out.in).mono ?_
  rintro e w15 ⟨rfl, hb15⟩
  have HB15 := Lib.hid (HB14.out.trans (hb15.mono HB14.out.size))
  replace c0 := keep_below hb15 c0
  replace c1 := keep_below hb15 c1
  replace c2 := keep_below hb15 c2
  replace c3 := keep_below hb15 c3
  replace c4 := keep_below hb15 c4
  replace d0 := keep_below hb15 d0
  replace d1 := keep_below hb15 d1
  replace d2 := keep_below hb15 d2
  replace d3 := keep_below hb15 d3
  replace d4 := keep_below hb15 d4
  replace p0 := keep_below hb15 p0
  replace p1 := keep_below hb15 p1
  replace p2 := keep_below hb15 p2
  replace p3 := keep_below hb15 p3
  replace p4 := keep_below hb15 p4
  replace q0 := keep_below hb15 q0
  replace q1 := keep_below hb15 q1
  replace q2 := keep_below hb15 q2
  replace q3 := keep_below hb15 q3
  replace q4 := keep_below hb15 q4
  replace r0 := keep_below hb15 r0
  replace r1 := keep_below hb15 r1
  replace r2 := keep_below hb15 r2
  replace r3 := keep_below hb15 r3
  replace r4 := keep_below hb15 r4
  replace s0 := keep_below hb15 s0
  replace s1 := keep_below hb15 s1
  replace s2 := keep_below hb15 s2
  replace s3 := keep_below hb15 s3
  replace s4 := keep_below hb15 s4
  have HOG1_15 := Lib.hid (HOG1_14.out.blw hb15)
  clear HOG1_14
  have HOG0_15 := Lib.hid (HOG0_14.out.blw hb15)
  clear HOG0_14
  clear hb15
  go_wp2_with fail
  refine (mark_tree G0 _ _ HOG0_15.out HNG0.out (HCN.out G0 HPG0.out)).mono ?_
  rintro e w16 ⟨⟨rfl, hm16⟩, hbs16⟩
  have HB16 := Lib.hid (HB15.out.trans (hbs16.below (fun k hk => (HOG0_15.out.lt k hk).1) HB15.out.size))
  replace c0 := hbs16.cell HXc_G0.out c0
  replace c1 := hbs16.cell HXc_G0.out c1
  replace c2 := hbs16.cell HXc_G0.out c2
  replace c3 := hbs16.cell HXc_G0.out c3
  replace c4 := hbs16.cell HXc_G0.out c4
  replace d0 := hbs16.cell HXd_G0.out d0
  replace d1 := hbs16.cell HXd_G0.out d1
  replace d2 := hbs16.cell HXd_G0.out d2
  replace d3 := hbs16.cell HXd_G0.out d3
  replace d4 := hbs16.cell HXd_G0.out d4
  replace p0 := hbs16.cell HXp_G0.out p0
  replace p1 := hbs16.cell HXp_G0.out p1
  replace p2 := hbs16.cell HXp_G0.out p2
  replace p3 := hbs16.cell HXp_G0.out p3
  replace p4 := hbs16.cell HXp_G0.out p4
  replace q0 := hbs16.cell HXq_G0.out q0
  replace q1 := hbs16.cell HXq_G0.out q1
  replace q2 := hbs16.cell HXq_G0.out q2
  replace q3 := hbs16.cell HXq_G0.out q3
  replace q4 := hbs16.cell HXq_G0.out q4
  replace r0 := hbs16.cell HXr_G0.out r0
  replace r1 := hbs16.cell HXr_G0.out r1
  replace r2 := hbs16.cell HXr_G0.out r2
  replace r3 := hbs16.cell HXr_G0.out r3
  replace r4 := hbs16.cell HXr_G0.out r4
  replace s0 := hbs16.cell HXs_G0.out s0
  replace s1 := hbs16.cell HXs_G0.out s1
  replace s2 := hbs16.cell HXs_G0.out s2
  replace s3 := hbs16.cell HXs_G0.out s3
  replace s4 := hbs16.cell HXs_G0.out s4
  have HOG1_16 := Lib.hid (HOG1_15.out.onlyBs hbs16 HDG1_G0.out)
  clear HOG1_15
  have HMG0_16 := Lib.hid hm16
  clear hm16
  clear hbs16 HOG0_15
  rw [HCC.out G0 HPG0.out, ← HMM.out]
  go_wp2_with fail
  refine (held_tree G0 _ _ HMG0_16.out (HCN.out G0 HPG0.out)).mono ?_
  rintro e w17 ⟨rfl, hb17⟩
  have HB17 := Lib.hid (HB16.out.trans (hb17.mono HB16.out.size))
  replace c0 := keep_below hb17 c0
  replace c1 := keep_below hb17 c1
  replace c2 := keep_below hb17 c2
  replace c3 := keep_below hb17 c3
  replace c4 := keep_below hb17 c4
  replace d0 := keep_below hb17 d0
  replace d1 := keep_below hb17 d1
  replace d2 := keep_below hb17 d2
  replace d3 := keep_below hb17 d3
  replace d4 := keep_below hb17 d4
  replace p0 := keep_below hb17 p0
  replace p1 := keep_below hb17 p1
  replace p2 := keep_below hb17 p2
  replace p3 := keep_below hb17 p3
  replace p4 := keep_below hb17 p4
  replace q0 := keep_below hb17 q0
  replace q1 := keep_below hb17 q1
  replace q2 := keep_below hb17 q2
  replace q3 := keep_below hb17 q3
  replace q4 := keep_below hb17 q4
  replace r0 := keep_below hb17 r0
  replace r1 := keep_below hb17 r1
  replace r2 := keep_below hb17 r2
  replace r3 := keep_below hb17 r3
  replace r4 := keep_below hb17 r4
  replace s0 := keep_below hb17 s0
  replace s1 := keep_below hb17 s1
  replace s2 := keep_below hb17 s2
  replace s3 := keep_below hb17 s3
  replace s4 := keep_below hb17 s4
  have HOG1_17 := Lib.hid (HOG1_16.out.blw hb17)
  clear HOG1_16
  have HMG0_17 := Lib.hid (HMG0_16.out.blw hb17)
  clear HMG0_16
  clear hb17
  rw [HCC.out G0 HPG0.out, ← HMM.out]
  go_upto_region 31 with fail
  go_cut [15, 16] from 17 (fun v0 v1 W' => v1 = .bool bv ∧ ∃ (X : AT) (B : Nat), v0 = .pointer (some ⟨B, 0, none⟩) ∧ X.pt = p ∧ X.Own W' w17.heap.size ∧ X.blks.Nodup ∧ B ∉ X.blks ∧ w17.heap.size ≤ B ∧ Rl w17 W' ∧ W'.cell? ⟨B, 0, none⟩ = some (.int .i64 X.k) ∧ W'.cell? ⟨B, 1, none⟩ = some (.int .i64 X.n) ∧ W'.cell? ⟨B, 2, none⟩ = some (.int .i64 X.x) ∧ W'.cell? ⟨B, 3, none⟩ = some (.string ⟨X.s.toArray⟩) ∧ W'.cell? ⟨B, 4, none⟩ = some (.slice X.a X.l.length X.cap))
  case first =>
    have HK := Lib.hid (fun (W' : World) (h : Rl w17 W') => (show Rl w17 W' ∧ W'.cell? ⟨w.heap.size, 0, none⟩ = some (.int .i64 T.k) ∧ W'.cell? ⟨w.heap.size, 1, none⟩ = some (.int .i64 T.n) ∧ W'.cell? ⟨w.heap.size, 2, none⟩ = some (.int .i64 T.x) ∧ W'.cell? ⟨w.heap.size, 3, none⟩ = some (.string ⟨T.s.toArray⟩) ∧ W'.cell? ⟨w.heap.size, 4, none⟩ = some (.slice T.a T.l.length T.cap) ∧ W'.cell? ⟨w.heap.size + 1, 0, none⟩ = some (.int .i64 U.k) ∧ W'.cell? ⟨w.heap.size + 1, 1, none⟩ = some (.int .i64 U.n) ∧ W'.cell? ⟨w.heap.size + 1, 2, none⟩ = some (.int .i64 U.x) ∧ W'.cell? ⟨w.heap.size + 1, 3, none⟩ = some (.string ⟨U.s.toArray⟩) ∧ W'.cell? ⟨w.heap.size + 1, 4, none⟩ = some (.slice U.a U.l.length U.cap) ∧ W'.cell? ⟨Bp, 0, none⟩ = some (.int .i64 G1.k) ∧ W'.cell? ⟨Bp, 1, none⟩ = some (.int .i64 G1.n) ∧ W'.cell? ⟨Bp, 2, none⟩ = some (.int .i64 G1.x) ∧ W'.cell? ⟨Bp, 3, none⟩ = some (.string ⟨G1.s.toArray⟩) ∧ W'.cell? ⟨Bp, 4, none⟩ = some (.slice G1.a G1.l.length G1.cap) ∧ W'.cell? ⟨w4.heap.size, 0, none⟩ = some (.int .i64 X0.k) ∧ W'.cell? ⟨w4.heap.size, 1, none⟩ = some (.int .i64 X0.n) ∧ W'.cell? ⟨w4.heap.size, 2, none⟩ = some (.int .i64 X0.x) ∧ W'.cell? ⟨w4.heap.size, 3, none⟩ = some (.string ⟨X0.s.toArray⟩) ∧ W'.cell? ⟨w4.heap.size, 4, none⟩ = some (.slice X0.a X0.l.length X0.cap) ∧ W'.cell? ⟨w6.heap.size, 0, none⟩ = some (.int .i64 X1.k) ∧ W'.cell? ⟨w6.heap.size, 1, none⟩ = some (.int .i64 X1.n) ∧ W'.cell? ⟨w6.heap.size, 2, none⟩ = some (.int .i64 X1.x) ∧ W'.cell? ⟨w6.heap.size, 3, none⟩ = some (.string ⟨X1.s.toArray⟩) ∧ W'.cell? ⟨w6.heap.size, 4, none⟩ = some (.slice X1.a X1.l.length X1.cap) ∧ W'.cell? ⟨w8.heap.size, 0, none⟩ = some (.int .i64 G0.k) ∧ W'.cell? ⟨w8.heap.size, 1, none⟩ = some (.int .i64 G0.n) ∧ W'.cell? ⟨w8.heap.size, 2, none⟩ = some (.int .i64 G0.x) ∧ W'.cell? ⟨w8.heap.size, 3, none⟩ = some (.string ⟨G0.s.toArray⟩) ∧ W'.cell? ⟨w8.heap.size, 4, none⟩ = some (.slice G0.a G0.l.length G0.cap) ∧ Below w.heap.size w W' ∧ G1.Own W' w.heap.size ∧ OwnL W' w.heap.size G0.a G0.cap (AT.markL 1 G0.l) from ⟨h, keep_below h.b c0, keep_below h.b c1, keep_below h.b c2, keep_below h.b c3, keep_below h.b c4, keep_below h.b d0, keep_below h.b d1, keep_below h.b d2, keep_below h.b d3, keep_below h.b d4, keep_below h.b p0, keep_below h.b p1, keep_below h.b p2, keep_below h.b p3, keep_below h.b p4, keep_below h.b q0, keep_below h.b q1, keep_below h.b q2, keep_below h.b q3, keep_below h.b q4, keep_below h.b r0, keep_below h.b r1, keep_below h.b r2, keep_below h.b r3, keep_below h.b r4, keep_below h.b s0, keep_below h.b s1, keep_below h.b s2, keep_below h.b s3, keep_below h.b s4, HB17.out.trans (h.b.mono HB17.out.size), HOG1_17.out.blw h.b, HMG0_17.out.blw h.b⟩))
    go_region_held3 (fun W' => Rl w17 W' ∧ W'.cell? ⟨w.heap.size, 0, none⟩ = some (.int .i64 T.k) ∧ W'.cell? ⟨w.heap.size, 1, none⟩ = some (.int .i64 T.n) ∧ W'.cell? ⟨w.heap.size, 2, none⟩ = some (.int .i64 T.x) ∧ W'.cell? ⟨w.heap.size, 3, none⟩ = some (.string ⟨T.s.toArray⟩) ∧ W'.cell? ⟨w.heap.size, 4, none⟩ = some (.slice T.a T.l.length T.cap) ∧ W'.cell? ⟨w.heap.size + 1, 0, none⟩ = some (.int .i64 U.k) ∧ W'.cell? ⟨w.heap.size + 1, 1, none⟩ = some (.int .i64 U.n) ∧ W'.cell? ⟨w.heap.size + 1, 2, none⟩ = some (.int .i64 U.x) ∧ W'.cell? ⟨w.heap.size + 1, 3, none⟩ = some (.string ⟨U.s.toArray⟩) ∧ W'.cell? ⟨w.heap.size + 1, 4, none⟩ = some (.slice U.a U.l.length U.cap) ∧ W'.cell? ⟨Bp, 0, none⟩ = some (.int .i64 G1.k) ∧ W'.cell? ⟨Bp, 1, none⟩ = some (.int .i64 G1.n) ∧ W'.cell? ⟨Bp, 2, none⟩ = some (.int .i64 G1.x) ∧ W'.cell? ⟨Bp, 3, none⟩ = some (.string ⟨G1.s.toArray⟩) ∧ W'.cell? ⟨Bp, 4, none⟩ = some (.slice G1.a G1.l.length G1.cap) ∧ W'.cell? ⟨w4.heap.size, 0, none⟩ = some (.int .i64 X0.k) ∧ W'.cell? ⟨w4.heap.size, 1, none⟩ = some (.int .i64 X0.n) ∧ W'.cell? ⟨w4.heap.size, 2, none⟩ = some (.int .i64 X0.x) ∧ W'.cell? ⟨w4.heap.size, 3, none⟩ = some (.string ⟨X0.s.toArray⟩) ∧ W'.cell? ⟨w4.heap.size, 4, none⟩ = some (.slice X0.a X0.l.length X0.cap) ∧ W'.cell? ⟨w6.heap.size, 0, none⟩ = some (.int .i64 X1.k) ∧ W'.cell? ⟨w6.heap.size, 1, none⟩ = some (.int .i64 X1.n) ∧ W'.cell? ⟨w6.heap.size, 2, none⟩ = some (.int .i64 X1.x) ∧ W'.cell? ⟨w6.heap.size, 3, none⟩ = some (.string ⟨X1.s.toArray⟩) ∧ W'.cell? ⟨w6.heap.size, 4, none⟩ = some (.slice X1.a X1.l.length X1.cap) ∧ W'.cell? ⟨w8.heap.size, 0, none⟩ = some (.int .i64 G0.k) ∧ W'.cell? ⟨w8.heap.size, 1, none⟩ = some (.int .i64 G0.n) ∧ W'.cell? ⟨w8.heap.size, 2, none⟩ = some (.int .i64 G0.x) ∧ W'.cell? ⟨w8.heap.size, 3, none⟩ = some (.string ⟨G0.s.toArray⟩) ∧ W'.cell? ⟨w8.heap.size, 4, none⟩ = some (.slice G0.a G0.l.length G0.cap) ∧ Below w.heap.size w W' ∧ G1.Own W' w.heap.size ∧ OwnL W' w.heap.size G0.a G0.cap (AT.markL 1 G0.l)) ((go_split_ands; refine HK.out _ ?_; first | with_reducible assumption | with_reducible exact (Rl.refl _).drew | with_reducible exact HRcb.out | with_reducible exact HRbb.out | with_reducible exact HRab.out | with_reducible exact Rl.alloc (by assumption) _ | with_reducible exact Rl.alloc HRcb.out _ | with_reducible exact (Rl.alloc (Rl.refl _) _).drew | with_reducible exact Rl.drew (by assumption) | with_reducible exact Rl.five (by assumption) HRbb.out.z | with_reducible exact Rl.five (by assumption) HRab.out.z | with_reducible exact Rl.five (by assumption) (Nat.le_refl _))) ((first | (go_at_call 58; go_split_ands; ((with_reducible refine (HTVT.out _ (by assumption)).mono ?_); rintro e uab ⟨Yab, hpuab, rfl, houab, hnuab, hbuab⟩; have HOuab := Lib.hid houab; have HPuab := Lib.hid hpuab; clear houab hnuab hpuab); have HRab := Lib.hid (Rl.below (W0 := w17) (by assumption) hbuab); (first | (have hz := mboxD hbuab; obtain ⟨z0, z1, z2, z3, z4, zf⟩ := hz) | (have hz := mbox hbuab; obtain ⟨z0, z1, z2, z3, z4, zf⟩ := hz) | skip)) | (go_at_call 58; go_split_ands; ((with_reducible refine (HTVU.out _ (by assumption)).mono ?_); rintro e ubb ⟨Ybb, hpubb, rfl, houbb, hnubb, hbubb⟩; have HOubb := Lib.hid houbb; have HPubb := Lib.hid hpubb; clear houbb hnubb hpubb); have HRbb := Lib.hid (Rl.below (W0 := w17) (by assumption) hbubb); (first | have HOYb := Lib.hid (own_blw hbubb HOuab.out) | have HOYb := Lib.hid (own_blw hbubb (own_alloc HOuab.out))); (first | (have hz := mboxD hbubb; obtain ⟨z0, z1, z2, z3, z4, zf⟩ := hz) | (have hz := mbox hbubb; obtain ⟨z0, z1, z2, z3, z4, zf⟩ := hz) | (have hz := mboxK hbubb z0 z1 z2 z3 z4 zf; obtain ⟨z0, z1, z2, z3, z4, zf⟩ := hz) | skip)) | (go_at_call 46; go_split_ands; refine (HCI.out Yab Ybb HPuab.out HPubb.out _ _ (by first | exact HOYb.out | exact own_alloc HOYb.out) (by first | exact HOubb.out.in | exact (own_alloc HOubb.out).in)).mono ?_; rintro e wab ⟨H0, hpb, rfl, hob, hnb, hbb⟩; have HPH0 := Lib.hid hpb; have HOOH0 := Lib.hid hob; have HNH0 := Lib.hid hnb; clear hpb hob hnb; have HRcb := Lib.hid (Rl.below (W0 := w17) (by assumption) hbb); (first | (have hz := mboxD hbb; obtain ⟨z0, z1, z2, z3, z4, zf⟩ := hz) | (have hz := mbox hbb; obtain ⟨z0, z1, z2, z3, z4, zf⟩ := hz) | (have hz := mboxK hbb z0 z1 z2 z3 z4 zf; obtain ⟨z0, z1, z2, z3, z4, zf⟩ := hz) | skip))))
    all_goals (go_wp2_with fail; go_meet; (first | with_reducible exact ⟨rfl, H0, _, rfl, HPH0.out, leaf_last HRcb.out (by first | exact HRbb.out.z | (have hq1 := HRbb.out.z; simp; omega)) HOOH0.out HNH0.out⟩ | with_reducible exact ⟨rfl, H0, _, rfl, HPH0.out, leaf_early HRcb.out HRbb.out.z (by first | exact HRbb.out.z | (have hq1 := HRbb.out.z; simp; omega)) (by first | (simp; done) | (have hq1 := hbubb.size; simp at hq1; omega) | (have hq1 := hbuab.size; have hq2 := hbubb.size; simp at hq1 hq2; omega)) HOOH0.out HNH0.out z0 z1 z2 z3 z4⟩ | with_reducible exact ⟨rfl, H0, _, rfl, HPH0.out, leaf_early HRcb.out HRab.out.z (by first | exact HRbb.out.z | (have hq1 := HRbb.out.z; simp; omega)) (by first | (simp; done) | (have hq1 := hbubb.size; simp at hq1; omega) | (have hq1 := hbuab.size; have hq2 := hbubb.size; simp at hq1 hq2; omega)) HOOH0.out HNH0.out z0 z1 z2 z3 z4⟩ | with_reducible exact ⟨rfl, H0, _, rfl, HPH0.out, leaf_early HRcb.out (Nat.le_refl _) (by first | exact HRbb.out.z | (have hq1 := HRbb.out.z; simp; omega)) (by first | (simp; done) | (have hq1 := hbubb.size; simp at hq1; omega) | (have hq1 := hbuab.size; have hq2 := hbubb.size; simp at hq1 hq2; omega)) HOOH0.out HNH0.out z0 z1 z2 z3 z4⟩))
  obtain ⟨hv18, H0, Bt, rfl, hpG, hoG, hnG, hxG, hBg, hRg, t0, t1, t2, t3, t4⟩ := hcut
  subst hv18
  have HPH0 := Lib.hid hpG
  have HNH0 := Lib.hid hnG
  have HOH0_18 := Lib.hid (hoG.base HB17.out.size)
  have HXt_H0 := Lib.hid hxG
  have HXc_H0 : Hid (w.heap.size ∉ H0.blks) := Lib.hid (fun hk => by have h1 := (hoG.lt _ hk).1; have h2 := cell_lt c0; simp only at h2; omega)
  have HXd_H0 : Hid (w.heap.size + 1 ∉ H0.blks) := Lib.hid (fun hk => by have h1 := (hoG.lt _ hk).1; have h2 := cell_lt d0; simp only at h2; omega)
  have HXp_H0 : Hid (Bp ∉ H0.blks) := Lib.hid (fun hk => by have h1 := (hoG.lt _ hk).1; have h2 := cell_lt p0; simp only at h2; omega)
  have HXq_H0 : Hid (w4.heap.size ∉ H0.blks) := Lib.hid (fun hk => by have h1 := (hoG.lt _ hk).1; have h2 := cell_lt q0; simp only at h2; omega)
  have HXr_H0 : Hid (w6.heap.size ∉ H0.blks) := Lib.hid (fun hk => by have h1 := (hoG.lt _ hk).1; have h2 := cell_lt r0; simp only at h2; omega)
  have HXs_H0 : Hid (w8.heap.size ∉ H0.blks) := Lib.hid (fun hk => by have h1 := (hoG.lt _ hk).1; have h2 := cell_lt s0; simp only at h2; omega)
  have HDH0_G1 : Hid (∀ k ∈ H0.blks, k ∉ G1.blks) := Lib.hid (fun k hk hk2 => by have h1 := (hoG.lt k hk).1; have h2 := (HOG1_17.out.lt k hk2).2; omega)
  have HDG1_H0 : Hid (∀ k ∈ G1.blks, k ∉ H0.blks) := Lib.hid (fun k hk hk2 => by have h1 := (hoG.lt k hk2).1; have h2 := (HOG1_17.out.lt k hk).2; omega)
  have HXt_G1 : Hid (Bt ∉ G1.blks) := Lib.hid (fun hk => by have h2 := (HOG1_17.out.lt _ hk).2; omega)
  have HB18 := Lib.hid (HB17.out.trans (hRg.b.mono HB17.out.size))
  replace c0 := keep_below hRg.b c0
  replace c1 := keep_below hRg.b c1
  replace c2 := keep_below hRg.b c2
  replace c3 := keep_below hRg.b c3
  replace c4 := keep_below hRg.b c4
  replace d0 := keep_below hRg.b d0
  replace d1 := keep_below hRg.b d1
  replace d2 := keep_below hRg.b d2
  replace d3 := keep_below hRg.b d3
  replace d4 := keep_below hRg.b d4
  replace p0 := keep_below hRg.b p0
  replace p1 := keep_below hRg.b p1
  replace p2 := keep_below hRg.b p2
  replace p3 := keep_below hRg.b p3
  replace p4 := keep_below hRg.b p4
  replace q0 := keep_below hRg.b q0
  replace q1 := keep_below hRg.b q1
  replace q2 := keep_below hRg.b q2
  replace q3 := keep_below hRg.b q3
  replace q4 := keep_below hRg.b q4
  replace r0 := keep_below hRg.b r0
  replace r1 := keep_below hRg.b r1
  replace r2 := keep_below hRg.b r2
  replace r3 := keep_below hRg.b r3
  replace r4 := keep_below hRg.b r4
  replace s0 := keep_below hRg.b s0
  replace s1 := keep_below hRg.b s1
  replace s2 := keep_below hRg.b s2
  replace s3 := keep_below hRg.b s3
  replace s4 := keep_below hRg.b s4
  have HOG1_18 := Lib.hid (HOG1_17.out.blw hRg.b)
  clear HOG1_17
  have HMG0_18 := Lib.hid (HMG0_17.out.blw hRg.b)
  clear HMG0_17
  clear hpG hoG hnG hxG hBg hRg
  go_wp2_with fail
  refine (HER.out H0 G1 HPH0.out HPG1.out _ HOH0_18.out.in HOG1_18.out.in).mono ?_
  rintro e w19 ⟨rfl, hb19⟩
  have HB19 := Lib.hid (HB18.out.trans (hb19.mono HB18.out.size))
  replace c0 := keep_below hb19 c0
  replace c1 := keep_below hb19 c1
  replace c2 := keep_below hb19 c2
  replace c3 := keep_below hb19 c3
  replace c4 := keep_below hb19 c4
  replace d0 := keep_below hb19 d0
  replace d1 := keep_below hb19 d1
  replace d2 := keep_below hb19 d2
  replace d3 := keep_below hb19 d3
  replace d4 := keep_below hb19 d4
  replace p0 := keep_below hb19 p0
  replace p1 := keep_below hb19 p1
  replace p2 := keep_below hb19 p2
  replace p3 := keep_below hb19 p3
  replace p4 := keep_below hb19 p4
  replace q0 := keep_below hb19 q0
  replace q1 := keep_below hb19 q1
  replace q2 := keep_below hb19 q2
  replace q3 := keep_below hb19 q3
  replace q4 := keep_below hb19 q4
  replace r0 := keep_below hb19 r0
  replace r1 := keep_below hb19 r1
  replace r2 := keep_below hb19 r2
  replace r3 := keep_below hb19 r3
  replace r4 := keep_below hb19 r4
  replace s0 := keep_below hb19 s0
  replace s1 := keep_below hb19 s1
  replace s2 := keep_below hb19 s2
  replace s3 := keep_below hb19 s3
  replace s4 := keep_below hb19 s4
  replace t0 := keep_below hb19 t0
  replace t1 := keep_below hb19 t1
  replace t2 := keep_below hb19 t2
  replace t3 := keep_below hb19 t3
  replace t4 := keep_below hb19 t4
  have HOG1_19 := Lib.hid (HOG1_18.out.blw hb19)
  clear HOG1_18
  have HOH0_19 := Lib.hid (HOH0_18.out.blw hb19)
  clear HOH0_18
  have HMG0_19 := Lib.hid (HMG0_18.out.blw hb19)
  clear HMG0_18
  clear hb19
  go_wp2_with fail
  refine (held_tree G0 _ _ HMG0_19.out (HCN.out G0 HPG0.out)).mono ?_
  rintro e w20 ⟨rfl, hb20⟩
  have HB20 := Lib.hid (HB19.out.trans (hb20.mono HB19.out.size))
  replace c0 := keep_below hb20 c0
  replace c1 := keep_below hb20 c1
  replace c2 := keep_below hb20 c2
  replace c3 := keep_below hb20 c3
  replace c4 := keep_below hb20 c4
  replace d0 := keep_below hb20 d0
  replace d1 := keep_below hb20 d1
  replace d2 := keep_below hb20 d2
  replace d3 := keep_below hb20 d3
  replace d4 := keep_below hb20 d4
  replace p0 := keep_below hb20 p0
  replace p1 := keep_below hb20 p1
  replace p2 := keep_below hb20 p2
  replace p3 := keep_below hb20 p3
  replace p4 := keep_below hb20 p4
  replace q0 := keep_below hb20 q0
  replace q1 := keep_below hb20 q1
  replace q2 := keep_below hb20 q2
  replace q3 := keep_below hb20 q3
  replace q4 := keep_below hb20 q4
  replace r0 := keep_below hb20 r0
  replace r1 := keep_below hb20 r1
  replace r2 := keep_below hb20 r2
  replace r3 := keep_below hb20 r3
  replace r4 := keep_below hb20 r4
  replace s0 := keep_below hb20 s0
  replace s1 := keep_below hb20 s1
  replace s2 := keep_below hb20 s2
  replace s3 := keep_below hb20 s3
  replace s4 := keep_below hb20 s4
  replace t0 := keep_below hb20 t0
  replace t1 := keep_below hb20 t1
  replace t2 := keep_below hb20 t2
  replace t3 := keep_below hb20 t3
  replace t4 := keep_below hb20 t4
  have HOG1_20 := Lib.hid (HOG1_19.out.blw hb20)
  clear HOG1_19
  have HOH0_20 := Lib.hid (HOH0_19.out.blw hb20)
  clear HOH0_19
  have HMG0_20 := Lib.hid (HMG0_19.out.blw hb20)
  clear HMG0_19
  clear hb20
  rw [HCC.out G0 HPG0.out, ← HMM.out]
  go_wp2
  go_ret
  exact ⟨rfl, HB20.out⟩
theorem walk (T : AT) (U : AT) (w : World) (hinT : T.In w w.heap.size) (hwfT : T.pt.Wf) (hinU : U.In w w.heap.size) (hwfU : U.pt.Wf) : Calls Try.prog 9 #[T.val, U.val] w fun e w' => e = .returned (.bool true) ∧ Below w.heap.size w w' := by
  by_cases hzT : T.pt.sz ≤ 1048576
  case neg => exact big1 T U w hinT hwfT hinU hwfU hzT
  by_cases hzU : U.pt.sz ≤ 1048576 - T.pt.sz
  case neg => exact big2 T U w hinT hwfT hinU hwfU hzT hzU
  exact main T U w hinT hwfT hinU hwfU hzT hzU

set_option maxRecDepth 100000 in
theorem contract (H : Type) (enc : TypeId × Value → H) (W : World) (base : Nat) (args : Array Value) (ds gs : List (DataW H)) (before : List MemPlace)
    (hval : ∀ (j : Nat) t v, Try.f9.params[j]? = some t → args[j]? = some v → Value.okWide Try.prog W .any base t v)
    (hW : DataW.Whole enc Try.prog Try.f9.params.toList Rows.fnExactLookupSpec.vars false W args.toList ds gs before)
    (hcond : ∀ k, (OpenSpec.ofChange Rows.fnExactLookupSpec).cond = some k → k H (ds ++ gs) = true)
    (hsz : (DataW.weightsEach Try.prog (Try.f9.params.toList ++ (OpenSpec.ofChange Rows.fnExactLookupSpec).bare.plain.varTypes Try.prog) (ds ++ gs)).all (· ≤ reachBytes) = true)
    (hL : laidMetH Try.prog Rows.fnExactLookupRow.laid W) :
    Calls Try.prog 9 args W fun e W' => ∃ v, e = .returned v ∧ Rows.fnExactLookupSpec.post enc Try.prog Try.f9 false true false false W args v W' := by
  have hW' := hW
  have hlt := hW'.lt
  obtain ⟨p, q, hA0, hV, rfl, hfz, hnd⟩ := hW
  have hA : DataW.TrodAll enc Try.prog W 0 (fun _ => true) true Try.f9.params.toList args.toList ds p := hA0
  rw [Try.params9] at hA hval hsz
  obtain ⟨v0, vs0, d0, ds0, p0, q0, hargs, rfl, rfl, h0, r0⟩ := trodAll_cons hA
  obtain ⟨v1, vs1, d1, ds1, p1, q1, rfl, rfl, rfl, h1, r1⟩ := trodAll_cons r0
  obtain ⟨rfl, rfl, rfl⟩ := trodAll_nil r1
  obtain rfl : args = #[v0, v1] := by cases args; simp_all
  obtain ⟨rfl, rfl⟩ := trodVars_none hV
  simp only [List.append_nil] at hW' hlt
  have hlt0 : ∀ x ∈ p0, x.block < W.heap.size := fun x hx => hlt x (by simp [hx])
  have hlt1 : ∀ x ∈ p1, x.block < W.heap.size := fun x hx => hlt x (by simp [hx])
  have hk0 := h0
  have hk1 := h1
  obtain ⟨T0, rfl, hin0, hwf0⟩ := open_val (hval 0 52 v0 rfl rfl) h0
  obtain ⟨T1, rfl, hin1, hwf1⟩ := open_val (hval 1 52 v1 rfl rfl) h1
  clear hA0 hA
  have fin : ∀ W' : World, Below W.heap.size W W' → Rows.fnExactLookupSpec.post enc Try.prog Try.f9 false true false false W _ (.bool true) W' := fun W' hb =>
    ⟨_, _, _, [], _, [], hW', trodAll_mk1 (shut_bool Try.underlying4 _), (trodAll_cons_mk (Below.trod laidOut (by kernel_rfl) (of_decide_eq_true (by kernel_rfl)) hk0 hb hlt0) (trodAll_cons_mk (Below.trod laidOut (by kernel_rfl) (of_decide_eq_true (by kernel_rfl)) hk1 hb hlt1) trodAll_mk0)), rfl, hb.frame _, fun h => by cases h⟩
  refine Calls.mono (R := fun e w' => e = .returned (.bool true) ∧ Below W.heap.size W w') ?_ (fun e W' h => ⟨_, h.1, fin W' h.2⟩)
  clear fin
  exact walk T0 T1 W hin0 hwf0 hin1 hwf1

theorem laid_met (os : Os) : laidMet Try.prog Rows.fnExactLookupRow.laid (((World.holding Try.prog os ⟨#[], #[], []⟩)).forCall (fun _ _ => 0) ⟨#[], #[.agg #[.int .i64 0, .int .i64 0, .int .i64 0, .string ⟨#[]⟩, .slice none 0 0], .agg #[.int .i64 0, .int .i64 0, .int .i64 0, .string ⟨#[]⟩, .slice none 0 0]], []⟩).memory :=
  ⟨[], rfl, List.nodup_nil, fun _ _ h => by cases h⟩
theorem reads (os : Os) {H : Type} (enc : TypeId × Value → H) : ∃ places, DataW.whole enc Try.prog (((World.holding Try.prog os ⟨#[], #[], []⟩)).forCall (fun _ _ => 0) ⟨#[], #[.agg #[.int .i64 0, .int .i64 0, .int .i64 0, .string ⟨#[]⟩, .slice none 0 0], .agg #[.int .i64 0, .int .i64 0, .int .i64 0, .string ⟨#[]⟩, .slice none 0 0]], []⟩).memory Try.f9.params.toList Rows.fnExactLookupSpec.vars false (#[.agg #[.int .i64 0, .int .i64 0, .int .i64 0, .string ⟨#[]⟩, .slice none 0 0], .agg #[.int .i64 0, .int .i64 0, .int .i64 0, .string ⟨#[]⟩, .slice none 0 0]] : Array Value).toList 8 = some ([.agg [.lit (.int .i64 0), .lit (.int .i64 0), .lit (.int .i64 0), .lit (.string []), .nil], .agg [.lit (.int .i64 0), .lit (.int .i64 0), .lit (.int .i64 0), .lit (.string []), .nil]], [], places) :=
  ⟨[], by kernel_rfl⟩

set_option maxRecDepth 100000 in
theorem lifted (os : Os) (started : os.Started) (H : Type) (enc : TypeId × Value → H) (F : Stop.Interp) :
    ReturnsInHanded {} Try.checked os 9 .any ((OpenSpec.ofChange Rows.fnExactLookupSpec).preRow enc Try.prog Try.f9 Rows.fnExactLookupRow.domain false Rows.fnExactLookupRow.laid) (((OpenSpec.ofChange Rows.fnExactLookupSpec).at F).post enc Try.prog Try.f9 false true false false) := by
  obtain ⟨places, hx⟩ := reads os enc
  refine returnsInHanded_of_row (C := Try.checked) (s := OpenSpec.ofChange Rows.fnExactLookupSpec) own started (by kernel_rfl) Try.func9
    (witness_row_at (enc := enc) (C := Try.checked) false (World.holding Try.prog os ⟨#[], #[], []⟩) #[.agg #[.int .i64 0, .int .i64 0, .int .i64 0, .string ⟨#[]⟩, .slice none 0 0], .agg #[.int .i64 0, .int .i64 0, .int .i64 0, .string ⟨#[]⟩, .slice none 0 0]] rfl (by kernel_rfl) (by kernel_rfl) (by kernel_rfl)
      (OpenSpec.preRow_of_cond 8 hx (by kernel_rfl) (fun k hk => by cases hk) (by kernel_rfl) (laid_met os))) ?_
  intro W base args ds gs before hval hW _ hcond hsz hL _ _
  exact contract H enc W base args ds gs before hval hW hcond hsz hL

theorem said : Rows.FnExactLookupSaid :=
  OpenClaim.holds_of_cond 9 Try.f9 rfl rfl rfl rfl rfl rfl rfl ⟨rfl, rfl, rfl, rfl, rfl⟩ rfl rfl rfl rfl rfl (by kernel_rfl) Try.func9 (by kernel_rfl)
    (of_decide_eq_true (by kernel_rfl)) (by unfold Func.isWrapper; first | (rw [if_pos (by decide +kernel)]; kernel_rfl) | (rw [if_neg (by decide +kernel)]; exact ⟨rfl, rfl⟩))
    (fun os started H enc _ F => by rw [OpenClaim.pre_eq_preRow]; exact lifted os started H enc F)

theorem proved : Rows.FnExactLookupSaid := said
#print axioms proved
end Go.Proofs.Ytpkmlfmkgodhkaa.fnExactLookup
