/- For every input the law FnExactAtPath returns true and its arguments read afterwards as they read before; beside what the row states there is no condition. -/
import Derived.Test.YtgfebmnlcihpnaaRows
import Derived.WalkKit
import Derived.ProofKit
import Derived.OpenShut
import Derived.SizedLaws
import Derived.Carry
import Derived.Deep.DeepHandedRow


import Derived.Lib.LaidTab
import Derived.Stop.LaidErr
import Derived.Test.YtgfebmnlcihpnaaSz
import Derived.Test.YtgfebmnlcihpnaaOpen
import Derived.Test.YtgfebmnlcihpnaaOpenStep
import Derived.Test.YtgfebmnlcihpnaaToVal
import Derived.Test.YtgfebmnlcihpnaaEqVal
import Derived.Test.YtgfebmnlcihpnaaKeepVal
import Derived.Test.YtgfebmnlcihpnaaMarkLaw
import Derived.Test.YtgfebmnlcihpnaaStepRow
import Derived.Test.YtgfebmnlcihpnaaAtSpec
import Derived.Test.YtgfebmnlcihpnaaAtImpl
import Derived.Deep.DeepCutAuto
import Derived.Deep.RegionHeld3

namespace Go.Proofs.Ytgfebmnlcihpnaa.fnExactAtPath
open Go.ChangeShapes Go.WideShapes Go.ChangeAt Go.RowKit
open Go.ChangeMaps (open_string shut_string)
set_option linter.unusedVariables false

theorem own : ownKnob Try.prog.godebug = none := by kernel_rfl
theorem laidOut : laidOutB Try.prog = true := by kernel_rfl

set_option maxHeartbeats 1000000 in
theorem big1 (T : AT) (lP : List St) (aP : Option Addr) (capP : Nat) (w : World) (hinT : T.In w w.heap.size) (hwfT : T.pt.Wf) (hsP : SAt w w.heap.size aP capP lP) (hlP : lP.length ≤ 9223372036854775807)  (hzT : ¬ T.pt.sz ≤ 1048576) : Calls Try.prog 10 #[T.val, .slice aP lP.length capP] w fun e w' => e = .returned (.bool true) ∧ Below w.heap.size w w' := by
  have HSZT := Lib.hid (fun (w1 : World) (hb : Below w.heap.size w w1) => szVal_any T hwfT w1 w.heap.size (1048576) (hinT.blw hb (Nat.le_refl _)) hb.size (by omega))
  have HRT : Hid (szR T.pt.sz (1048576) = -1) := Lib.hid (by unfold szR; rw [if_neg hzT])
  clear hinT hwfT hsP hlP hzT
  show Calls Try.prog 10 #[.agg #[.int .i64 T.k, .int .i64 T.n, .int .i64 T.x, .string ⟨T.s.toArray⟩, .slice T.a T.l.length T.cap], .slice aP lP.length capP] w _
  go_enter Try.func10, Try.ntmps10
  go_wp2_with fail
  have hbox : Below w.heap.size w (w.alloc (.cells #[.int .i64 T.k, .int .i64 T.n, .int .i64 T.x, .string ⟨T.s.toArray⟩, .slice T.a T.l.length T.cap] 57)) := boxes1 w (.cells #[.int .i64 T.k, .int .i64 T.n, .int .i64 T.x, .string ⟨T.s.toArray⟩, .slice T.a T.l.length T.cap] 57)
  have hc : (w.alloc (.cells #[.int .i64 T.k, .int .i64 T.n, .int .i64 T.x, .string ⟨T.s.toArray⟩, .slice T.a T.l.length T.cap] 57)).cell? ⟨w.heap.size, 0, none⟩ = some (.int .i64 T.k) ∧ (w.alloc (.cells #[.int .i64 T.k, .int .i64 T.n, .int .i64 T.x, .string ⟨T.s.toArray⟩, .slice T.a T.l.length T.cap] 57)).cell? ⟨w.heap.size, 1, none⟩ = some (.int .i64 T.n) ∧ (w.alloc (.cells #[.int .i64 T.k, .int .i64 T.n, .int .i64 T.x, .string ⟨T.s.toArray⟩, .slice T.a T.l.length T.cap] 57)).cell? ⟨w.heap.size, 2, none⟩ = some (.int .i64 T.x) ∧ (w.alloc (.cells #[.int .i64 T.k, .int .i64 T.n, .int .i64 T.x, .string ⟨T.s.toArray⟩, .slice T.a T.l.length T.cap] 57)).cell? ⟨w.heap.size, 3, none⟩ = some (.string ⟨T.s.toArray⟩) ∧ (w.alloc (.cells #[.int .i64 T.k, .int .i64 T.n, .int .i64 T.x, .string ⟨T.s.toArray⟩, .slice T.a T.l.length T.cap] 57)).cell? ⟨w.heap.size, 4, none⟩ = some (.slice T.a T.l.length T.cap) := by refine ⟨?_, ?_, ?_, ?_, ?_⟩ <;> simp [go_sem]
  obtain ⟨c0, c1, c2, c3, c4⟩ := hc
  generalize (w.alloc (.cells #[.int .i64 T.k, .int .i64 T.n, .int .i64 T.x, .string ⟨T.s.toArray⟩, .slice T.a T.l.length T.cap] 57)) = w0 at *
  have HB0 := Lib.hid hbox
  clear hbox
  refine (HSZT.out _ HB0.out).mono ?_
  rintro e w1 ⟨rfl, hb1⟩
  have HB1 := Lib.hid (HB0.out.trans (hb1.mono HB0.out.size))
  replace c0 := keep_below hb1 c0
  replace c1 := keep_below hb1 c1
  replace c2 := keep_below hb1 c2
  replace c3 := keep_below hb1 c3
  replace c4 := keep_below hb1 c4
  clear hb1
  rw [HRT.out]
  go_wp2
  go_ret
  exact ⟨rfl, HB1.out⟩
set_option maxHeartbeats 1000000 in
theorem big2 (T : AT) (lP : List St) (aP : Option Addr) (capP : Nat) (w : World) (hinT : T.In w w.heap.size) (hwfT : T.pt.Wf) (hsP : SAt w w.heap.size aP capP lP) (hlP : lP.length ≤ 9223372036854775807) (hzT : T.pt.sz ≤ 1048576) (hzP : ¬ lP.length ≤ 1048576 - T.pt.sz) : Calls Try.prog 10 #[T.val, .slice aP lP.length capP] w fun e w' => e = .returned (.bool true) ∧ Below w.heap.size w w' := by
  have HSZT := Lib.hid (fun (w1 : World) (hb : Below w.heap.size w w1) => szVal_any T hwfT w1 w.heap.size (1048576) (hinT.blw hb (Nat.le_refl _)) hb.size (by omega))
  have HRT : Hid (szR T.pt.sz (1048576) = ((1048576 - T.pt.sz : Nat) : Int)) := Lib.hid (by unfold szR; rw [if_pos hzT]; omega)
  have hnegT : ¬ (((1048576 - T.pt.sz : Nat) : Int) < 0) := by omega
  have HSZP := Lib.hid (fun (w1 : World) (hb : Below w.heap.size w w1) => szStepS_any lP aP capP (1048576 - T.pt.sz) w1 hlP (by omega))
  have HRP : Hid (szR lP.length (1048576 - T.pt.sz) = -1) := Lib.hid (by unfold szR; rw [if_neg hzP])
  clear hinT hwfT hsP hlP hzT hzP
  generalize 1048576 - T.pt.sz = leftT at *
  show Calls Try.prog 10 #[.agg #[.int .i64 T.k, .int .i64 T.n, .int .i64 T.x, .string ⟨T.s.toArray⟩, .slice T.a T.l.length T.cap], .slice aP lP.length capP] w _
  go_enter Try.func10, Try.ntmps10
  go_wp2_with fail
  have hbox : Below w.heap.size w (w.alloc (.cells #[.int .i64 T.k, .int .i64 T.n, .int .i64 T.x, .string ⟨T.s.toArray⟩, .slice T.a T.l.length T.cap] 57)) := boxes1 w (.cells #[.int .i64 T.k, .int .i64 T.n, .int .i64 T.x, .string ⟨T.s.toArray⟩, .slice T.a T.l.length T.cap] 57)
  have hc : (w.alloc (.cells #[.int .i64 T.k, .int .i64 T.n, .int .i64 T.x, .string ⟨T.s.toArray⟩, .slice T.a T.l.length T.cap] 57)).cell? ⟨w.heap.size, 0, none⟩ = some (.int .i64 T.k) ∧ (w.alloc (.cells #[.int .i64 T.k, .int .i64 T.n, .int .i64 T.x, .string ⟨T.s.toArray⟩, .slice T.a T.l.length T.cap] 57)).cell? ⟨w.heap.size, 1, none⟩ = some (.int .i64 T.n) ∧ (w.alloc (.cells #[.int .i64 T.k, .int .i64 T.n, .int .i64 T.x, .string ⟨T.s.toArray⟩, .slice T.a T.l.length T.cap] 57)).cell? ⟨w.heap.size, 2, none⟩ = some (.int .i64 T.x) ∧ (w.alloc (.cells #[.int .i64 T.k, .int .i64 T.n, .int .i64 T.x, .string ⟨T.s.toArray⟩, .slice T.a T.l.length T.cap] 57)).cell? ⟨w.heap.size, 3, none⟩ = some (.string ⟨T.s.toArray⟩) ∧ (w.alloc (.cells #[.int .i64 T.k, .int .i64 T.n, .int .i64 T.x, .string ⟨T.s.toArray⟩, .slice T.a T.l.length T.cap] 57)).cell? ⟨w.heap.size, 4, none⟩ = some (.slice T.a T.l.length T.cap) := by refine ⟨?_, ?_, ?_, ?_, ?_⟩ <;> simp [go_sem]
  obtain ⟨c0, c1, c2, c3, c4⟩ := hc
  generalize (w.alloc (.cells #[.int .i64 T.k, .int .i64 T.n, .int .i64 T.x, .string ⟨T.s.toArray⟩, .slice T.a T.l.length T.cap] 57)) = w0 at *
  have HB0 := Lib.hid hbox
  clear hbox
  refine (HSZT.out _ HB0.out).mono ?_
  rintro e w1 ⟨rfl, hb1⟩
  have HB1 := Lib.hid (HB0.out.trans (hb1.mono HB0.out.size))
  replace c0 := keep_below hb1 c0
  replace c1 := keep_below hb1 c1
  replace c2 := keep_below hb1 c2
  replace c3 := keep_below hb1 c3
  replace c4 := keep_below hb1 c4
  clear hb1
  rw [HRT.out]
  go_wp2_with fail
  refine (HSZP.out _ HB1.out).mono ?_
  rintro e w2 ⟨rfl, hb2⟩
  have HB2 := Lib.hid (HB1.out.trans (hb2.mono HB1.out.size))
  replace c0 := keep_below hb2 c0
  replace c1 := keep_below hb2 c1
  replace c2 := keep_below hb2 c2
  replace c3 := keep_below hb2 c3
  replace c4 := keep_below hb2 c4
  clear hb2
  rw [HRP.out]
  go_wp2
  go_ret
  exact ⟨rfl, HB2.out⟩
set_option maxHeartbeats 16000000 in
set_option maxRecDepth 100000 in
theorem main (T : AT) (lP : List St) (aP : Option Addr) (capP : Nat) (w : World) (hinT : T.In w w.heap.size) (hwfT : T.pt.Wf) (hsP : SAt w w.heap.size aP capP lP) (hlP : lP.length ≤ 9223372036854775807) (hzT : T.pt.sz ≤ 1048576) (hzP : lP.length ≤ 1048576 - T.pt.sz) : Calls Try.prog 10 #[T.val, .slice aP lP.length capP] w fun e w' => e = .returned (.bool true) ∧ Below w.heap.size w w' := by
  have HSZT := Lib.hid (fun (w1 : World) (hb : Below w.heap.size w w1) => szVal_any T hwfT w1 w.heap.size (1048576) (hinT.blw hb (Nat.le_refl _)) hb.size (by omega))
  have HRT : Hid (szR T.pt.sz (1048576) = ((1048576 - T.pt.sz : Nat) : Int)) := Lib.hid (by unfold szR; rw [if_pos hzT]; omega)
  have hnegT : ¬ (((1048576 - T.pt.sz : Nat) : Int) < 0) := by omega
  have HSZP := Lib.hid (fun (w1 : World) (hb : Below w.heap.size w w1) => szStepS_any lP aP capP (1048576 - T.pt.sz) w1 hlP (by omega))
  have HRP : Hid (szR lP.length (1048576 - T.pt.sz) = ((1048576 - T.pt.sz - lP.length : Nat) : Int)) := Lib.hid (by unfold szR; rw [if_pos hzP]; omega)
  have hnegP : ¬ (((1048576 - T.pt.sz - lP.length : Nat) : Int) < 0) := by omega
  have hsT : T.pt.sz ≤ 1048576 := by omega
  have HTVT := Lib.hid (fun (w1 : World) (hb : Below w.heap.size w w1) => toVal_any T hwfT hsT w1 w.heap.size (hinT.blw hb (Nat.le_refl _)) hb.size)
  have HEQT := Lib.hid (fun (T' U' : AT) (hp : T'.pt = T.pt) (hu : U'.pt = T.pt) (w1 : World) (hi : T'.In w1 w1.heap.size) (hj : U'.In w1 w1.heap.size) => eqVal_any T' (by rw [hp]; exact hwfT) U' w1 w1.heap.size (by rw [hp, hu]) hi hj (Nat.le_refl _))
  have HCAT : Hid (∀ X : AT, X.pt = T.pt → X.pt.cnt ≤ 2097152) := Lib.hid (fun X hX => by rw [hX]; have := cnt_le_sz T.pt; omega)
  have HCBT : Hid (∀ X : AT, X.pt = T.pt → PT.cntL (AT.ptL X.l) = PT.cntL (AT.ptL T.l)) := Lib.hid (fun X hX => by have h1 := cnt_eq X; have h2 := cnt_eq T; rw [hX] at h1; omega)
  have hz2P : lP.length ≤ 1048576 := by omega
  have HTVP := Lib.hid (fun (w1 : World) (hb : Below w.heap.size w w1) => toSteps_row w1 w.heap.size aP capP lP (hsP.below hb (Nat.le_refl _)) hb.size hz2P)
  have HEQP := Lib.hid (fun (P Q : SR) (hP : P.l = lP) (hQ : Q.l = lP) (w1 : World) (h : SAt w1 w1.heap.size P.a P.cap P.l) (h2 : SAt w1 w1.heap.size Q.a Q.cap Q.l) => eqsteps_row P Q lP hP hQ hlP w1 h h2)
  have HCAP : Hid (∀ X : SR, X.l = lP → X.l.length ≤ 1048576) := Lib.hid (fun X hX => by rw [hX]; exact hz2P)
  have HCBP : Hid (∀ X : SR, X.l = lP → X.l.length = lP.length) := Lib.hid (fun X hX => by rw [hX])
  obtain ⟨p, bv, hp⟩ : ∃ p bv, (p, bv) = found (PT.at' lP T.pt) := ⟨_, _, rfl⟩
  have HCS := Lib.hid (fun (X0 : AT) (X1 : SR) (hX0 : X0.pt = T.pt) (hX1 : X1.l = lP) (w1 : World) (ho0 : X0.In w1 w1.heap.size) (ho1 : SAt w1 w1.heap.size X1.a X1.cap X1.l) => (show Calls Try.prog 72 #[X0.val, X1.val] w1 (LookPost w1 (p, bv)) from by
    have h := atpath_spec X0 X1.l X1.a X1.cap w1 w1.heap.size ho0 ho1 (by rw [hX0]; exact hsT) (by rw [hX1]; exact hz2P) (Nat.le_refl _); have e : found (PT.at' X1.l X0.pt) = (p, bv) := by rw [hX0, hX1, hp]
    rw [e] at h; exact h))
  have HCI := Lib.hid (fun (X0 : AT) (X1 : SR) (hX0 : X0.pt = T.pt) (hX1 : X1.l = lP) (w1 : World) (B0 : Nat) (ho0 : X0.Own w1 B0) (ho1 : SAt w1 w1.heap.size X1.a X1.cap X1.l) => (show Calls Try.prog 62 #[X0.val, X1.val] w1 (LookPost w1 (p, bv)) from by
    have h := atpath_impl X0 X1.l X1.a X1.cap w1 B0 w1.heap.size ho0 ho1 (Nat.le_refl _) (by rw [hX0]; exact hsT) (by rw [hX1]; exact hz2P); have e : found (PT.at' X1.l X0.pt) = (p, bv) := by rw [hX0, hX1, hp]
    rw [e] at h; exact h))
  have hlw := found_wf lP T.pt hwfT hsT
  rw [← hp] at hlw
  obtain ⟨hvw, hpc⟩ := hlw
  simp only at hvw hpc
  have HER := Lib.hid (fun (X Y : AT) (hX : X.pt = p) (hY : Y.pt = p) (w1 : World) (ho : X.In w1 w1.heap.size) (hy : Y.In w1 w1.heap.size) => eqVal_any X (pt_wf hX hvw) Y w1 w1.heap.size (hX.trans hY.symm) ho hy (Nat.le_refl _))
  have HCN : Hid (∀ X : AT, X.pt = p → X.pt.cnt ≤ 2097152) := Lib.hid (fun X hX => by rw [hX]; omega)
  have HCC : Hid (∀ X : AT, X.pt = p → PT.cntL (AT.ptL X.l) = p.cnt - 1) := Lib.hid (fun X hX => by have h1 := cnt_eq X; rw [hX] at h1; omega)
  obtain ⟨MM, hMM⟩ : ∃ MM, MM = 1 + 4 * (p.cnt - 1) := ⟨_, rfl⟩
  have HMM := Lib.hid hMM
  have hneg2 : ¬ ((MM : Int) < 0) := by omega
  obtain ⟨M0, hM0⟩ : ∃ M0, M0 = 1 + 4 * PT.cntL (AT.ptL T.l) := ⟨_, rfl⟩
  have HM0 := Lib.hid hM0
  have hm0a : 1 ≤ M0 := by omega
  have hm0b : M0 ≤ 4194310 := by have h10 := cnt_le_sz T.pt; have h20 := cnt_eq T; omega
  obtain ⟨M1, hM1⟩ : ∃ M1, M1 = M0 + 2 * lP.length := ⟨_, rfl⟩
  have HM1 := Lib.hid hM1
  have hm1a : 1 ≤ M1 := by omega
  have hm1b : M1 ≤ 8388700 := by have h10 := cnt_le_sz T.pt; have h20 := cnt_eq T; omega
  have hneg3 : ¬ ((M1 : Int) < 0) := by omega
  clear hp hvw hpc hMM hM0 hM1 hinT hwfT hzT hsT hsP hlP hzP hz2P
  generalize 1048576 - T.pt.sz - lP.length = leftP at *
  generalize 1048576 - T.pt.sz = leftT at *
  show Calls Try.prog 10 #[.agg #[.int .i64 T.k, .int .i64 T.n, .int .i64 T.x, .string ⟨T.s.toArray⟩, .slice T.a T.l.length T.cap], .slice aP lP.length capP] w _
  go_enter Try.func10, Try.ntmps10
  go_wp2_with fail
  have hbox : Below w.heap.size w (w.alloc (.cells #[.int .i64 T.k, .int .i64 T.n, .int .i64 T.x, .string ⟨T.s.toArray⟩, .slice T.a T.l.length T.cap] 57)) := boxes1 w (.cells #[.int .i64 T.k, .int .i64 T.n, .int .i64 T.x, .string ⟨T.s.toArray⟩, .slice T.a T.l.length T.cap] 57)
  have hc : (w.alloc (.cells #[.int .i64 T.k, .int .i64 T.n, .int .i64 T.x, .string ⟨T.s.toArray⟩, .slice T.a T.l.length T.cap] 57)).cell? ⟨w.heap.size, 0, none⟩ = some (.int .i64 T.k) ∧ (w.alloc (.cells #[.int .i64 T.k, .int .i64 T.n, .int .i64 T.x, .string ⟨T.s.toArray⟩, .slice T.a T.l.length T.cap] 57)).cell? ⟨w.heap.size, 1, none⟩ = some (.int .i64 T.n) ∧ (w.alloc (.cells #[.int .i64 T.k, .int .i64 T.n, .int .i64 T.x, .string ⟨T.s.toArray⟩, .slice T.a T.l.length T.cap] 57)).cell? ⟨w.heap.size, 2, none⟩ = some (.int .i64 T.x) ∧ (w.alloc (.cells #[.int .i64 T.k, .int .i64 T.n, .int .i64 T.x, .string ⟨T.s.toArray⟩, .slice T.a T.l.length T.cap] 57)).cell? ⟨w.heap.size, 3, none⟩ = some (.string ⟨T.s.toArray⟩) ∧ (w.alloc (.cells #[.int .i64 T.k, .int .i64 T.n, .int .i64 T.x, .string ⟨T.s.toArray⟩, .slice T.a T.l.length T.cap] 57)).cell? ⟨w.heap.size, 4, none⟩ = some (.slice T.a T.l.length T.cap) := by refine ⟨?_, ?_, ?_, ?_, ?_⟩ <;> simp [go_sem]
  obtain ⟨c0, c1, c2, c3, c4⟩ := hc
  generalize (w.alloc (.cells #[.int .i64 T.k, .int .i64 T.n, .int .i64 T.x, .string ⟨T.s.toArray⟩, .slice T.a T.l.length T.cap] 57)) = w0 at *
  have HB0 := Lib.hid hbox
  clear hbox
  refine (HSZT.out _ HB0.out).mono ?_
  rintro e w1 ⟨rfl, hb1⟩
  have HB1 := Lib.hid (HB0.out.trans (hb1.mono HB0.out.size))
  replace c0 := keep_below hb1 c0
  replace c1 := keep_below hb1 c1
  replace c2 := keep_below hb1 c2
  replace c3 := keep_below hb1 c3
  replace c4 := keep_below hb1 c4
  clear hb1
  rw [HRT.out]
  go_wp2_with fail
  refine (HSZP.out _ HB1.out).mono ?_
  rintro e w2 ⟨rfl, hb2⟩
  have HB2 := Lib.hid (HB1.out.trans (hb2.mono HB1.out.size))
  replace c0 := keep_below hb2 c0
  replace c1 := keep_below hb2 c1
  replace c2 := keep_below hb2 c2
  replace c3 := keep_below hb2 c3
  replace c4 := keep_below hb2 c4
  clear hb2
  rw [HRP.out]
  go_wp2_with fail
  refine (HTVT.out _ HB2.out).mono ?_
  rintro e w3 ⟨S0, hp3, rfl, ho3, hn3, hb3⟩
  have HB3 := Lib.hid (HB2.out.trans (hb3.mono HB2.out.size))
  have HXc_S0 : Hid (w.heap.size ∉ S0.blks) := Lib.hid (fun hk => by have h1 := (ho3.lt _ hk).1; have h2 := cell_lt c0; simp only at h2; omega)
  replace c0 := keep_below hb3 c0
  replace c1 := keep_below hb3 c1
  replace c2 := keep_below hb3 c2
  replace c3 := keep_below hb3 c3
  replace c4 := keep_below hb3 c4
  have HPS0 := Lib.hid hp3
  have HOS0_3 := Lib.hid (ho3.base HB2.out.size)
  have HNS0 := Lib.hid hn3
  clear hp3 ho3 hn3
  clear hb3
  go_wp2_with fail
  refine (HTVP.out _ HB3.out).mono ?_
  rintro e w4 ⟨S1, hp4, rfl, ho4, hn4, hb4⟩
  have HB4 := Lib.hid (HB3.out.trans (hb4.mono HB3.out.size))
  have HDS1_S0 : Hid (∀ k ∈ S1.blks, k ∉ S0.blks) := Lib.hid (fun k hk hk2 => by have h1 := (ho4.lt k hk).1; have h2 := (HOS0_3.out.lt k hk2).2; omega)
  have HDS0_S1 : Hid (∀ k ∈ S0.blks, k ∉ S1.blks) := Lib.hid (fun k hk hk2 => by have h1 := (ho4.lt k hk2).1; have h2 := (HOS0_3.out.lt k hk).2; omega)
  have HXc_S1 : Hid (w.heap.size ∉ S1.blks) := Lib.hid (fun hk => by have h1 := (ho4.lt _ hk).1; have h2 := cell_lt c0; simp only at h2; omega)
  replace c0 := keep_below hb4 c0
  replace c1 := keep_below hb4 c1
  replace c2 := keep_below hb4 c2
  replace c3 := keep_below hb4 c3
  replace c4 := keep_below hb4 c4
  have HOS0_4 := Lib.hid (HOS0_3.out.blw hb4)
  clear HOS0_3
  have HPS1 := Lib.hid hp4
  have HOS1_4 := Lib.hid (ho4.base HB3.out.size)
  have HNS1 := Lib.hid hn4
  clear hp4 ho4 hn4
  clear hb4
  go_wp2_with fail
  refine (HCS.out S0 S1 HPS0.out HPS1.out _ HOS0_4.out.in HOS1_4.out.sat).mono ?_
  rintro e w5 ⟨G1, hp5, rfl, ho5, hn5, hb5⟩
  have HB5 := Lib.hid (HB4.out.trans (hb5.mono HB4.out.size))
  have HDG1_S0 : Hid (∀ k ∈ G1.blks, k ∉ S0.blks) := Lib.hid (fun k hk hk2 => by have h1 := (ho5.lt k hk).1; have h2 := (HOS0_4.out.lt k hk2).2; omega)
  have HDS0_G1 : Hid (∀ k ∈ S0.blks, k ∉ G1.blks) := Lib.hid (fun k hk hk2 => by have h1 := (ho5.lt k hk2).1; have h2 := (HOS0_4.out.lt k hk).2; omega)
  have HDG1_S1 : Hid (∀ k ∈ G1.blks, k ∉ S1.blks) := Lib.hid (fun k hk hk2 => by have h1 := (ho5.lt k hk).1; have h2 := (HOS1_4.out.lt k hk2).2; omega)
  have HDS1_G1 : Hid (∀ k ∈ S1.blks, k ∉ G1.blks) := Lib.hid (fun k hk hk2 => by have h1 := (ho5.lt k hk2).1; have h2 := (HOS1_4.out.lt k hk).2; omega)
  have HXc_G1 : Hid (w.heap.size ∉ G1.blks) := Lib.hid (fun hk => by have h1 := (ho5.lt _ hk).1; have h2 := cell_lt c0; simp only at h2; omega)
  replace c0 := keep_below hb5 c0
  replace c1 := keep_below hb5 c1
  replace c2 := keep_below hb5 c2
  replace c3 := keep_below hb5 c3
  replace c4 := keep_below hb5 c4
  have HOS0_5 := Lib.hid (HOS0_4.out.blw hb5)
  clear HOS0_4
  have HOS1_5 := Lib.hid (HOS1_4.out.blw hb5)
  clear HOS1_4
  have HPG1 := Lib.hid hp5
  have HOG1_5 := Lib.hid (ho5.base HB4.out.size)
  have HNG1 := Lib.hid hn5
  clear hp5 ho5 hn5
  clear hb5
  have HXp_G1 : Hid (w5.heap.size ∉ G1.blks) := Lib.hid (fun hk => by have h2 := (HOG1_5.out.lt _ hk).2; omega)
  have hv6 := vbox w5 (.cells #[.int .i64 G1.k, .int .i64 G1.n, .int .i64 G1.x, .string ⟨G1.s.toArray⟩, .slice G1.a G1.l.length G1.cap] 26)
  have HB6 := Lib.hid (HB5.out.trans (hv6.mono HB5.out.size))
  replace c0 := keep_below hv6 c0
  replace c1 := keep_below hv6 c1
  replace c2 := keep_below hv6 c2
  replace c3 := keep_below hv6 c3
  replace c4 := keep_below hv6 c4
  have HOG1_6 := Lib.hid (HOG1_5.out.blw hv6)
  clear HOG1_5
  obtain ⟨p0, p1, p2, p3, p4⟩ := vcells5 w5 G1 26
  clear hv6
  go_wp2_with fail
  generalize (w5.alloc (.cells #[.int .i64 G1.k, .int .i64 G1.n, .int .i64 G1.x, .string ⟨G1.s.toArray⟩, .slice G1.a G1.l.length G1.cap] 26)) = w6 at *
  have hbb : (bv != bv) = false := by cases bv <;> rfl
  refine (HTVT.out _ HB6.out).mono ?_
  rintro e w7 ⟨X0, hp7, rfl, ho7, hn7, hb7⟩
  have HB7 := Lib.hid (HB6.out.trans (hb7.mono HB6.out.size))
  have HDX0_G1 : Hid (∀ k ∈ X0.blks, k ∉ G1.blks) := Lib.hid (fun k hk hk2 => by have h1 := (ho7.lt k hk).1; have h2 := (HOG1_6.out.lt k hk2).2; omega)
  have HDG1_X0 : Hid (∀ k ∈ G1.blks, k ∉ X0.blks) := Lib.hid (fun k hk hk2 => by have h1 := (ho7.lt k hk2).1; have h2 := (HOG1_6.out.lt k hk).2; omega)
  have HXc_X0 : Hid (w.heap.size ∉ X0.blks) := Lib.hid (fun hk => by have h1 := (ho7.lt _ hk).1; have h2 := cell_lt c0; simp only at h2; omega)
  have HXp_X0 : Hid (w5.heap.size ∉ X0.blks) := Lib.hid (fun hk => by have h1 := (ho7.lt _ hk).1; have h2 := cell_lt p0; simp only at h2; omega)
  replace c0 := keep_below hb7 c0
  replace c1 := keep_below hb7 c1
  replace c2 := keep_below hb7 c2
  replace c3 := keep_below hb7 c3
  replace c4 := keep_below hb7 c4
  replace p0 := keep_below hb7 p0
  replace p1 := keep_below hb7 p1
  replace p2 := keep_below hb7 p2
  replace p3 := keep_below hb7 p3
  replace p4 := keep_below hb7 p4
  have HOG1_7 := Lib.hid (HOG1_6.out.blw hb7)
  clear HOG1_6
  have HPX0 := Lib.hid hp7
  have HOX0_7 := Lib.hid (ho7.base HB6.out.size)
  have HNX0 := Lib.hid hn7
  clear hp7 ho7 hn7
  clear hb7
  have HXq_G1 : Hid (w7.heap.size ∉ G1.blks) := Lib.hid (fun hk => by have h2 := (HOG1_7.out.lt _ hk).2; omega)
  have HXq_X0 : Hid (w7.heap.size ∉ X0.blks) := Lib.hid (fun hk => by have h2 := (HOX0_7.out.lt _ hk).2; omega)
  have hv8 := vbox w7 (.cells #[.int .i64 X0.k, .int .i64 X0.n, .int .i64 X0.x, .string ⟨X0.s.toArray⟩, .slice X0.a X0.l.length X0.cap] 26)
  have HB8 := Lib.hid (HB7.out.trans (hv8.mono HB7.out.size))
  replace c0 := keep_below hv8 c0
  replace c1 := keep_below hv8 c1
  replace c2 := keep_below hv8 c2
  replace c3 := keep_below hv8 c3
  replace c4 := keep_below hv8 c4
  replace p0 := keep_below hv8 p0
  replace p1 := keep_below hv8 p1
  replace p2 := keep_below hv8 p2
  replace p3 := keep_below hv8 p3
  replace p4 := keep_below hv8 p4
  have HOG1_8 := Lib.hid (HOG1_7.out.blw hv8)
  clear HOG1_7
  have HOX0_8 := Lib.hid (HOX0_7.out.blw hv8)
  clear HOX0_7
  obtain ⟨q0, q1, q2, q3, q4⟩ := vcells5 w7 X0 26
  clear hv8
  go_wp2_with fail
  generalize (w7.alloc (.cells #[.int .i64 X0.k, .int .i64 X0.n, .int .i64 X0.x, .string ⟨X0.s.toArray⟩, .slice X0.a X0.l.length X0.cap] 26)) = w8 at *
  refine (HTVP.out _ HB8.out).mono ?_
  rintro e w9 ⟨X1, hp9, rfl, ho9, hn9, hb9⟩
  have HB9 := Lib.hid (HB8.out.trans (hb9.mono HB8.out.size))
  have HDX1_G1 : Hid (∀ k ∈ X1.blks, k ∉ G1.blks) := Lib.hid (fun k hk hk2 => by have h1 := (ho9.lt k hk).1; have h2 := (HOG1_8.out.lt k hk2).2; omega)
  have HDG1_X1 : Hid (∀ k ∈ G1.blks, k ∉ X1.blks) := Lib.hid (fun k hk hk2 => by have h1 := (ho9.lt k hk2).1; have h2 := (HOG1_8.out.lt k hk).2; omega)
  have HDX1_X0 : Hid (∀ k ∈ X1.blks, k ∉ X0.blks) := Lib.hid (fun k hk hk2 => by have h1 := (ho9.lt k hk).1; have h2 := (HOX0_8.out.lt k hk2).2; omega)
  have HDX0_X1 : Hid (∀ k ∈ X0.blks, k ∉ X1.blks) := Lib.hid (fun k hk hk2 => by have h1 := (ho9.lt k hk2).1; have h2 := (HOX0_8.out.lt k hk).2; omega)
  have HXc_X1 : Hid (w.heap.size ∉ X1.blks) := Lib.hid (fun hk => by have h1 := (ho9.lt _ hk).1; have h2 := cell_lt c0; simp only at h2; omega)
  have HXp_X1 : Hid (w5.heap.size ∉ X1.blks) := Lib.hid (fun hk => by have h1 := (ho9.lt _ hk).1; have h2 := cell_lt p0; simp only at h2; omega)
  have HXq_X1 : Hid (w7.heap.size ∉ X1.blks) := Lib.hid (fun hk => by have h1 := (ho9.lt _ hk).1; have h2 := cell_lt q0; simp only at h2; omega)
  replace c0 := keep_below hb9 c0
  replace c1 := keep_below hb9 c1
  replace c2 := keep_below hb9 c2
  replace c3 := keep_below hb9 c3
  replace c4 := keep_below hb9 c4
  replace p0 := keep_below hb9 p0
  replace p1 := keep_below hb9 p1
  replace p2 := keep_below hb9 p2
  replace p3 := keep_below hb9 p3
  replace p4 := keep_below hb9 p4
  replace q0 := keep_below hb9 q0
  replace q1 := keep_below hb9 q1
  replace q2 := keep_below hb9 q2
  replace q3 := keep_below hb9 q3
  replace q4 := keep_below hb9 q4
  have HOG1_9 := Lib.hid (HOG1_8.out.blw hb9)
  clear HOG1_8
  have HOX0_9 := Lib.hid (HOX0_8.out.blw hb9)
  clear HOX0_8
  have HPX1 := Lib.hid hp9
  have HOX1_9 := Lib.hid (ho9.base HB8.out.size)
  have HNX1 := Lib.hid hn9
  clear hp9 ho9 hn9
  clear hb9
  go_wp2_with fail
  refine (HCI.out X0 X1 HPX0.out HPX1.out _ _ HOX0_9.out HOX1_9.out.sat).mono ?_
  rintro e w10 ⟨G0, hp10, rfl, ho10, hn10, hb10⟩
  have HB10 := Lib.hid (HB9.out.trans (hb10.mono HB9.out.size))
  have HDG0_G1 : Hid (∀ k ∈ G0.blks, k ∉ G1.blks) := Lib.hid (fun k hk hk2 => by have h1 := (ho10.lt k hk).1; have h2 := (HOG1_9.out.lt k hk2).2; omega)
  have HDG1_G0 : Hid (∀ k ∈ G1.blks, k ∉ G0.blks) := Lib.hid (fun k hk hk2 => by have h1 := (ho10.lt k hk2).1; have h2 := (HOG1_9.out.lt k hk).2; omega)
  have HDG0_X0 : Hid (∀ k ∈ G0.blks, k ∉ X0.blks) := Lib.hid (fun k hk hk2 => by have h1 := (ho10.lt k hk).1; have h2 := (HOX0_9.out.lt k hk2).2; omega)
  have HDX0_G0 : Hid (∀ k ∈ X0.blks, k ∉ G0.blks) := Lib.hid (fun k hk hk2 => by have h1 := (ho10.lt k hk2).1; have h2 := (HOX0_9.out.lt k hk).2; omega)
  have HDG0_X1 : Hid (∀ k ∈ G0.blks, k ∉ X1.blks) := Lib.hid (fun k hk hk2 => by have h1 := (ho10.lt k hk).1; have h2 := (HOX1_9.out.lt k hk2).2; omega)
  have HDX1_G0 : Hid (∀ k ∈ X1.blks, k ∉ G0.blks) := Lib.hid (fun k hk hk2 => by have h1 := (ho10.lt k hk2).1; have h2 := (HOX1_9.out.lt k hk).2; omega)
  have HXc_G0 : Hid (w.heap.size ∉ G0.blks) := Lib.hid (fun hk => by have h1 := (ho10.lt _ hk).1; have h2 := cell_lt c0; simp only at h2; omega)
  have HXp_G0 : Hid (w5.heap.size ∉ G0.blks) := Lib.hid (fun hk => by have h1 := (ho10.lt _ hk).1; have h2 := cell_lt p0; simp only at h2; omega)
  have HXq_G0 : Hid (w7.heap.size ∉ G0.blks) := Lib.hid (fun hk => by have h1 := (ho10.lt _ hk).1; have h2 := cell_lt q0; simp only at h2; omega)
  replace c0 := keep_below hb10 c0
  replace c1 := keep_below hb10 c1
  replace c2 := keep_below hb10 c2
  replace c3 := keep_below hb10 c3
  replace c4 := keep_below hb10 c4
  replace p0 := keep_below hb10 p0
  replace p1 := keep_below hb10 p1
  replace p2 := keep_below hb10 p2
  replace p3 := keep_below hb10 p3
  replace p4 := keep_below hb10 p4
  replace q0 := keep_below hb10 q0
  replace q1 := keep_below hb10 q1
  replace q2 := keep_below hb10 q2
  replace q3 := keep_below hb10 q3
  replace q4 := keep_below hb10 q4
  have HOG1_10 := Lib.hid (HOG1_9.out.blw hb10)
  clear HOG1_9
  have HOX0_10 := Lib.hid (HOX0_9.out.blw hb10)
  clear HOX0_9
  have HOX1_10 := Lib.hid (HOX1_9.out.blw hb10)
  clear HOX1_9
  have HPG0 := Lib.hid hp10
  have HOG0_10 := Lib.hid (ho10.base HB9.out.size)
  have HNG0 := Lib.hid hn10
  clear hp10 ho10 hn10
  clear hb10
  have HXg_G1 : Hid (w10.heap.size ∉ G1.blks) := Lib.hid (fun hk => by have h2 := (HOG1_10.out.lt _ hk).2; omega)
  have HXg_X0 : Hid (w10.heap.size ∉ X0.blks) := Lib.hid (fun hk => by have h2 := (HOX0_10.out.lt _ hk).2; omega)
  have HXg_X1 : Hid (w10.heap.size ∉ X1.blks) := Lib.hid (fun hk => by have h2 := (HOX1_10.out.lt _ hk).2; omega)
  have HXg_G0 : Hid (w10.heap.size ∉ G0.blks) := Lib.hid (fun hk => by have h2 := (HOG0_10.out.lt _ hk).2; omega)
  have hv11 := vbox w10 (.cells #[.int .i64 G0.k, .int .i64 G0.n, .int .i64 G0.x, .string ⟨G0.s.toArray⟩, .slice G0.a G0.l.length G0.cap] 26)
  have HB11 := Lib.hid (HB10.out.trans (hv11.mono HB10.out.size))
  replace c0 := keep_below hv11 c0
  replace c1 := keep_below hv11 c1
  replace c2 := keep_below hv11 c2
  replace c3 := keep_below hv11 c3
  replace c4 := keep_below hv11 c4
  replace p0 := keep_below hv11 p0
  replace p1 := keep_below hv11 p1
  replace p2 := keep_below hv11 p2
  replace p3 := keep_below hv11 p3
  replace p4 := keep_below hv11 p4
  replace q0 := keep_below hv11 q0
  replace q1 := keep_below hv11 q1
  replace q2 := keep_below hv11 q2
  replace q3 := keep_below hv11 q3
  replace q4 := keep_below hv11 q4
  have HOG1_11 := Lib.hid (HOG1_10.out.blw hv11)
  clear HOG1_10
  have HOX0_11 := Lib.hid (HOX0_10.out.blw hv11)
  clear HOX0_10
  have HOX1_11 := Lib.hid (HOX1_10.out.blw hv11)
  clear HOX1_10
  have HOG0_11 := Lib.hid (HOG0_10.out.blw hv11)
  clear HOG0_10
  obtain ⟨g0, g1, g2, g3, g4⟩ := vcells5 w10 G0 26
  clear hv11
  go_wp2_with fail
  generalize (w10.alloc (.cells #[.int .i64 G0.k, .int .i64 G0.n, .int .i64 G0.x, .string ⟨G0.s.toArray⟩, .slice G0.a G0.l.length G0.cap] 26)) = w11 at *
  refine (HER.out G0 G1 HPG0.out HPG1.out _ HOG0_11.out.in HOG1_11.out.in).mono ?_
  rintro e w12 ⟨rfl, hb12⟩
  have HB12 := Lib.hid (HB11.out.trans (hb12.mono HB11.out.size))
  replace c0 := keep_below hb12 c0
  replace c1 := keep_below hb12 c1
  replace c2 := keep_below hb12 c2
  replace c3 := keep_below hb12 c3
  replace c4 := keep_below hb12 c4
  replace p0 := keep_below hb12 p0
  replace p1 := keep_below hb12 p1
  replace p2 := keep_below hb12 p2
  replace p3 := keep_below hb12 p3
  replace p4 := keep_below hb12 p4
  replace q0 := keep_below hb12 q0
  replace q1 := keep_below hb12 q1
  replace q2 := keep_below hb12 q2
  replace q3 := keep_below hb12 q3
  replace q4 := keep_below hb12 q4
  replace g0 := keep_below hb12 g0
  replace g1 := keep_below hb12 g1
  replace g2 := keep_below hb12 g2
  replace g3 := keep_below hb12 g3
  replace g4 := keep_below hb12 g4
  have HOG1_12 := Lib.hid (HOG1_11.out.blw hb12)
  clear HOG1_11
  have HOX0_12 := Lib.hid (HOX0_11.out.blw hb12)
  clear HOX0_11
  have HOX1_12 := Lib.hid (HOX1_11.out.blw hb12)
  clear HOX1_11
  have HOG0_12 := Lib.hid (HOG0_11.out.blw hb12)
  clear HOG0_11
  clear hb12
  go_wp2_with fail
  have hownG1 := HOG1_12.out
  have hownX0 := HOX0_12.out
  have hownX1 := HOX1_12.out
  have hownG0 := HOG0_12.out
  have hbel := HB12.out
  go_region_held3 (fun W' => W'.cell? ⟨w.heap.size, 0, none⟩ = some (.int .i64 T.k) ∧ W'.cell? ⟨w.heap.size, 1, none⟩ = some (.int .i64 T.n) ∧ W'.cell? ⟨w.heap.size, 2, none⟩ = some (.int .i64 T.x) ∧ W'.cell? ⟨w.heap.size, 3, none⟩ = some (.string ⟨T.s.toArray⟩) ∧ W'.cell? ⟨w.heap.size, 4, none⟩ = some (.slice T.a T.l.length T.cap) ∧ W'.cell? ⟨w5.heap.size, 0, none⟩ = some (.int .i64 G1.k) ∧ W'.cell? ⟨w5.heap.size, 1, none⟩ = some (.int .i64 G1.n) ∧ W'.cell? ⟨w5.heap.size, 2, none⟩ = some (.int .i64 G1.x) ∧ W'.cell? ⟨w5.heap.size, 3, none⟩ = some (.string ⟨G1.s.toArray⟩) ∧ W'.cell? ⟨w5.heap.size, 4, none⟩ = some (.slice G1.a G1.l.length G1.cap) ∧ W'.cell? ⟨w7.heap.size, 0, none⟩ = some (.int .i64 X0.k) ∧ W'.cell? ⟨w7.heap.size, 1, none⟩ = some (.int .i64 X0.n) ∧ W'.cell? ⟨w7.heap.size, 2, none⟩ = some (.int .i64 X0.x) ∧ W'.cell? ⟨w7.heap.size, 3, none⟩ = some (.string ⟨X0.s.toArray⟩) ∧ W'.cell? ⟨w7.heap.size, 4, none⟩ = some (.slice X0.a X0.l.length X0.cap) ∧ W'.cell? ⟨w10.heap.size, 0, none⟩ = some (.int .i64 G0.k) ∧ W'.cell? ⟨w10.heap.size, 1, none⟩ = some (.int .i64 G0.n) ∧ W'.cell? ⟨w10.heap.size, 2, none⟩ = some (.int .i64 G0.x) ∧ W'.cell? ⟨w10.heap.size, 3, none⟩ = some (.string ⟨G0.s.toArray⟩) ∧ W'.cell? ⟨w10.heap.size, 4, none⟩ = some (.slice G0.a G0.l.length G0.cap) ∧ Below w.heap.size w W' ∧ G1.Own W' w.heap.size ∧ X0.Own W' w.heap.size ∧ X1.Own W' w.heap.size ∧ G0.Own W' w.heap.size) ((refine ⟨?_, ?_, ?_, ?_, ?_, ?_, ?_, ?_, ?_, ?_, ?_, ?_, ?_, ?_, ?_, ?_, ?_, ?_, ?_, ?_, ?_, ?_, ?_, ?_, ?_⟩ <;> first | assumption | (refine Below.drew ?_; assumption) | (refine AT.Own.drew ?_; assumption) | exact keep_below (by assumption) (by assumption) | exact below_tr (by assumption) (by assumption) | exact own_blw (by assumption) (by assumption) | (refine SR.Own.drew ?_; assumption) | exact sown_blw (by assumption) (by assumption))) ((first | (go_at_call 64; go_split_ands; ((with_reducible refine (HTVT.out _ (by assumption)).mono ?_); rintro e u0 ⟨Y0, hpu0, rfl, hou0, hnu0, hbu0⟩; have HOu0 := Lib.hid hou0; have HPu0 := Lib.hid hpu0; clear hou0 hnu0 hpu0)) | (go_at_call 65; go_split_ands; refine (HEQT.out X0 Y0 HPX0.out HPu0.out _ (AT.Own.in (by assumption)) HOu0.out.in).mono ?_; rintro e v0 ⟨rfl, hbv0⟩)))
  go_split_ands
  replace c0 : v0.cell? ⟨w.heap.size, 0, none⟩ = some (.int .i64 T.k) := by assumption
  replace c1 : v0.cell? ⟨w.heap.size, 1, none⟩ = some (.int .i64 T.n) := by assumption
  replace c2 : v0.cell? ⟨w.heap.size, 2, none⟩ = some (.int .i64 T.x) := by assumption
  replace c3 : v0.cell? ⟨w.heap.size, 3, none⟩ = some (.string ⟨T.s.toArray⟩) := by assumption
  replace c4 : v0.cell? ⟨w.heap.size, 4, none⟩ = some (.slice T.a T.l.length T.cap) := by assumption
  replace p0 : v0.cell? ⟨w5.heap.size, 0, none⟩ = some (.int .i64 G1.k) := by assumption
  replace p1 : v0.cell? ⟨w5.heap.size, 1, none⟩ = some (.int .i64 G1.n) := by assumption
  replace p2 : v0.cell? ⟨w5.heap.size, 2, none⟩ = some (.int .i64 G1.x) := by assumption
  replace p3 : v0.cell? ⟨w5.heap.size, 3, none⟩ = some (.string ⟨G1.s.toArray⟩) := by assumption
  replace p4 : v0.cell? ⟨w5.heap.size, 4, none⟩ = some (.slice G1.a G1.l.length G1.cap) := by assumption
  replace q0 : v0.cell? ⟨w7.heap.size, 0, none⟩ = some (.int .i64 X0.k) := by assumption
  replace q1 : v0.cell? ⟨w7.heap.size, 1, none⟩ = some (.int .i64 X0.n) := by assumption
  replace q2 : v0.cell? ⟨w7.heap.size, 2, none⟩ = some (.int .i64 X0.x) := by assumption
  replace q3 : v0.cell? ⟨w7.heap.size, 3, none⟩ = some (.string ⟨X0.s.toArray⟩) := by assumption
  replace q4 : v0.cell? ⟨w7.heap.size, 4, none⟩ = some (.slice X0.a X0.l.length X0.cap) := by assumption
  replace g0 : v0.cell? ⟨w10.heap.size, 0, none⟩ = some (.int .i64 G0.k) := by assumption
  replace g1 : v0.cell? ⟨w10.heap.size, 1, none⟩ = some (.int .i64 G0.n) := by assumption
  replace g2 : v0.cell? ⟨w10.heap.size, 2, none⟩ = some (.int .i64 G0.x) := by assumption
  replace g3 : v0.cell? ⟨w10.heap.size, 3, none⟩ = some (.string ⟨G0.s.toArray⟩) := by assumption
  replace g4 : v0.cell? ⟨w10.heap.size, 4, none⟩ = some (.slice G0.a G0.l.length G0.cap) := by assumption
  have HB13 : Hid (Below w.heap.size w v0) := Lib.hid (by assumption)
  have HOG1_13 : Hid (G1.Own v0 w.heap.size) := Lib.hid (by assumption)
  have HOX0_13 : Hid (X0.Own v0 w.heap.size) := Lib.hid (by assumption)
  have HOX1_13 : Hid (X1.Own v0 w.heap.size) := Lib.hid (by assumption)
  have HOG0_13 : Hid (G0.Own v0 w.heap.size) := Lib.hid (by assumption)
  clear hbel hownG1 hownX0 hownX1 hownG0
  go_wp2_with fail
  refine (HTVP.out _ HB13.out).mono ?_
  rintro e w14 ⟨Z1, hp14, rfl, ho14, hn14, hb14⟩
  have HB14 := Lib.hid (HB13.out.trans (hb14.mono HB13.out.size))
  have HDZ1_G1 : Hid (∀ k ∈ Z1.blks, k ∉ G1.blks) := Lib.hid (fun k hk hk2 => by have h1 := (ho14.lt k hk).1; have h2 := (HOG1_13.out.lt k hk2).2; omega)
  have HDG1_Z1 : Hid (∀ k ∈ G1.blks, k ∉ Z1.blks) := Lib.hid (fun k hk hk2 => by have h1 := (ho14.lt k hk2).1; have h2 := (HOG1_13.out.lt k hk).2; omega)
  have HDZ1_X0 : Hid (∀ k ∈ Z1.blks, k ∉ X0.blks) := Lib.hid (fun k hk hk2 => by have h1 := (ho14.lt k hk).1; have h2 := (HOX0_13.out.lt k hk2).2; omega)
  have HDX0_Z1 : Hid (∀ k ∈ X0.blks, k ∉ Z1.blks) := Lib.hid (fun k hk hk2 => by have h1 := (ho14.lt k hk2).1; have h2 := (HOX0_13.out.lt k hk).2; omega)
  have HDZ1_X1 : Hid (∀ k ∈ Z1.blks, k ∉ X1.blks) := Lib.hid (fun k hk hk2 => by have h1 := (ho14.lt k hk).1; have h2 := (HOX1_13.out.lt k hk2).2; omega)
  have HDX1_Z1 : Hid (∀ k ∈ X1.blks, k ∉ Z1.blks) := Lib.hid (fun k hk hk2 => by have h1 := (ho14.lt k hk2).1; have h2 := (HOX1_13.out.lt k hk).2; omega)
  have HDZ1_G0 : Hid (∀ k ∈ Z1.blks, k ∉ G0.blks) := Lib.hid (fun k hk hk2 => by have h1 := (ho14.lt k hk).1; have h2 := (HOG0_13.out.lt k hk2).2; omega)
  have HDG0_Z1 : Hid (∀ k ∈ G0.blks, k ∉ Z1.blks) := Lib.hid (fun k hk hk2 => by have h1 := (ho14.lt k hk2).1; have h2 := (HOG0_13.out.lt k hk).2; omega)
  have HXc_Z1 : Hid (w.heap.size ∉ Z1.blks) := Lib.hid (fun hk => by have h1 := (ho14.lt _ hk).1; have h2 := cell_lt c0; simp only at h2; omega)
  have HXp_Z1 : Hid (w5.heap.size ∉ Z1.blks) := Lib.hid (fun hk => by have h1 := (ho14.lt _ hk).1; have h2 := cell_lt p0; simp only at h2; omega)
  have HXq_Z1 : Hid (w7.heap.size ∉ Z1.blks) := Lib.hid (fun hk => by have h1 := (ho14.lt _ hk).1; have h2 := cell_lt q0; simp only at h2; omega)
  have HXg_Z1 : Hid (w10.heap.size ∉ Z1.blks) := Lib.hid (fun hk => by have h1 := (ho14.lt _ hk).1; have h2 := cell_lt g0; simp only at h2; omega)
  replace c0 := keep_below hb14 c0
  replace c1 := keep_below hb14 c1
  replace c2 := keep_below hb14 c2
  replace c3 := keep_below hb14 c3
  replace c4 := keep_below hb14 c4
  replace p0 := keep_below hb14 p0
  replace p1 := keep_below hb14 p1
  replace p2 := keep_below hb14 p2
  replace p3 := keep_below hb14 p3
  replace p4 := keep_below hb14 p4
  replace q0 := keep_below hb14 q0
  replace q1 := keep_below hb14 q1
  replace q2 := keep_below hb14 q2
  replace q3 := keep_below hb14 q3
  replace q4 := keep_below hb14 q4
  replace g0 := keep_below hb14 g0
  replace g1 := keep_below hb14 g1
  replace g2 := keep_below hb14 g2
  replace g3 := keep_below hb14 g3
  replace g4 := keep_below hb14 g4
  have HOG1_14 := Lib.hid (HOG1_13.out.blw hb14)
  clear HOG1_13
  have HOX0_14 := Lib.hid (HOX0_13.out.blw hb14)
  clear HOX0_13
  have HOX1_14 := Lib.hid (HOX1_13.out.blw hb14)
  clear HOX1_13
  have HOG0_14 := Lib.hid (HOG0_13.out.blw hb14)
  clear HOG0_13
  have HPZ1 := Lib.hid hp14
  have HOZ1_14 := Lib.hid (ho14.base HB13.out.size)
  have HNZ1 := Lib.hid hn14
  clear hp14 ho14 hn14
  clear hb14
  go_wp2_with fail
  refine (HEQP.out X1 Z1 HPX1.out HPZ1.out _ HOX1_14.out.sat HOZ1_14.out.sat).mono ?_
  rintro e w15 ⟨rfl, hb15⟩
  have HB15 := Lib.hid (HB14.out.trans (hb15.mono HB14.out.size))
  replace c0 := keep_below hb15 c0
  replace c1 := keep_below hb15 c1
  replace c2 := keep_below hb15 c2
  replace c3 := keep_below hb15 c3
  replace c4 := keep_below hb15 c4
  replace p0 := keep_below hb15 p0
  replace p1 := keep_below hb15 p1
  replace p2 := keep_below hb15 p2
  replace p3 := keep_below hb15 p3
  replace p4 := keep_below hb15 p4
  replace q0 := keep_below hb15 q0
  replace q1 := keep_below hb15 q1
  replace q2 := keep_below hb15 q2
  replace q3 := keep_below hb15 q3
  replace q4 := keep_below hb15 q4
  replace g0 := keep_below hb15 g0
  replace g1 := keep_below hb15 g1
  replace g2 := keep_below hb15 g2
  replace g3 := keep_below hb15 g3
  replace g4 := keep_below hb15 g4
  have HOG1_15 := Lib.hid (HOG1_14.out.blw hb15)
  clear HOG1_14
  have HOX0_15 := Lib.hid (HOX0_14.out.blw hb15)
  clear HOX0_14
  have HOX1_15 := Lib.hid (HOX1_14.out.blw hb15)
  clear HOX1_14
  have HOG0_15 := Lib.hid (HOG0_14.out.blw hb15)
  clear HOG0_14
  have HOZ1_15 := Lib.hid (HOZ1_14.out.blw hb15)
  clear HOZ1_14
  clear hb15
  go_wp2_with fail
  refine (mark_tree X0 _ _ HOX0_15.out HNX0.out (HCAT.out X0 HPX0.out)).mono ?_
  rintro e w16 ⟨⟨rfl, -⟩, hbs16⟩
  have HB16 := Lib.hid (HB15.out.trans (hbs16.below (fun k hk => (HOX0_15.out.lt k hk).1) HB15.out.size))
  replace c0 := hbs16.cell HXc_X0.out c0
  replace c1 := hbs16.cell HXc_X0.out c1
  replace c2 := hbs16.cell HXc_X0.out c2
  replace c3 := hbs16.cell HXc_X0.out c3
  replace c4 := hbs16.cell HXc_X0.out c4
  replace p0 := hbs16.cell HXp_X0.out p0
  replace p1 := hbs16.cell HXp_X0.out p1
  replace p2 := hbs16.cell HXp_X0.out p2
  replace p3 := hbs16.cell HXp_X0.out p3
  replace p4 := hbs16.cell HXp_X0.out p4
  replace q0 := hbs16.cell HXq_X0.out q0
  replace q1 := hbs16.cell HXq_X0.out q1
  replace q2 := hbs16.cell HXq_X0.out q2
  replace q3 := hbs16.cell HXq_X0.out q3
  replace q4 := hbs16.cell HXq_X0.out q4
  replace g0 := hbs16.cell HXg_X0.out g0
  replace g1 := hbs16.cell HXg_X0.out g1
  replace g2 := hbs16.cell HXg_X0.out g2
  replace g3 := hbs16.cell HXg_X0.out g3
  replace g4 := hbs16.cell HXg_X0.out g4
  have HOG1_16 := Lib.hid (HOG1_15.out.onlyBs hbs16 HDG1_X0.out)
  clear HOG1_15
  have HOX1_16 := Lib.hid (HOX1_15.out.onlyBs hbs16 HDX1_X0.out)
  clear HOX1_15
  have HOG0_16 := Lib.hid (HOG0_15.out.onlyBs hbs16 HDG0_X0.out)
  clear HOG0_15
  clear hbs16 HOX0_15
  rw [HCBT.out X0 HPX0.out, ← HM0.out]
  go_wp2_with fail
  refine (mark_steps X1 _ _ M0 HOX1_16.out (HCAP.out X1 HPX1.out) (by have := hm0b; omega)).mono ?_
  rintro e w17 ⟨⟨rfl, -⟩, hbs17⟩
  have HB17 := Lib.hid (HB16.out.trans (hbs17.below (fun k hk => (HOX1_16.out.lt k hk).1) HB16.out.size))
  replace c0 := hbs17.cell HXc_X1.out c0
  replace c1 := hbs17.cell HXc_X1.out c1
  replace c2 := hbs17.cell HXc_X1.out c2
  replace c3 := hbs17.cell HXc_X1.out c3
  replace c4 := hbs17.cell HXc_X1.out c4
  replace p0 := hbs17.cell HXp_X1.out p0
  replace p1 := hbs17.cell HXp_X1.out p1
  replace p2 := hbs17.cell HXp_X1.out p2
  replace p3 := hbs17.cell HXp_X1.out p3
  replace p4 := hbs17.cell HXp_X1.out p4
  replace q0 := hbs17.cell HXq_X1.out q0
  replace q1 := hbs17.cell HXq_X1.out q1
  replace q2 := hbs17.cell HXq_X1.out q2
  replace q3 := hbs17.cell HXq_X1.out q3
  replace q4 := hbs17.cell HXq_X1.out q4
  replace g0 := hbs17.cell HXg_X1.out g0
  replace g1 := hbs17.cell HXg_X1.out g1
  replace g2 := hbs17.cell HXg_X1.out g2
  replace g3 := hbs17.cell HXg_X1.out g3
  replace g4 := hbs17.cell HXg_X1.out g4
  have HOG1_17 := Lib.hid (HOG1_16.out.onlyBs hbs17 HDG1_X1.out)
  clear HOG1_16
  have HOG0_17 := Lib.hid (HOG0_16.out.onlyBs hbs17 HDG0_X1.out)
  clear HOG0_16
  clear hbs17 HOX1_16
  rw [HCBP.out X1 HPX1.out, ← HM1.out]
  go_wp2_with fail
  refine (HER.out G0 G1 HPG0.out HPG1.out _ HOG0_17.out.in HOG1_17.out.in).mono ?_
  rintro e w18 ⟨rfl, hb18⟩
  have HB18 := Lib.hid (HB17.out.trans (hb18.mono HB17.out.size))
  replace c0 := keep_below hb18 c0
  replace c1 := keep_below hb18 c1
  replace c2 := keep_below hb18 c2
  replace c3 := keep_below hb18 c3
  replace c4 := keep_below hb18 c4
  replace p0 := keep_below hb18 p0
  replace p1 := keep_below hb18 p1
  replace p2 := keep_below hb18 p2
  replace p3 := keep_below hb18 p3
  replace p4 := keep_below hb18 p4
  replace q0 := keep_below hb18 q0
  replace q1 := keep_below hb18 q1
  replace q2 := keep_below hb18 q2
  replace q3 := keep_below hb18 q3
  replace q4 := keep_below hb18 q4
  replace g0 := keep_below hb18 g0
  replace g1 := keep_below hb18 g1
  replace g2 := keep_below hb18 g2
  replace g3 := keep_below hb18 g3
  replace g4 := keep_below hb18 g4
  have HOG1_18 := Lib.hid (HOG1_17.out.blw hb18)
  clear HOG1_17
  have HOG0_18 := Lib.hid (HOG0_17.out.blw hb18)
  clear HOG0_17
  clear hb18
  go_wp2_with fail
  refine (mark_tree G0 _ _ HOG0_18.out HNG0.out (HCN.out G0 HPG0.out)).mono ?_
  rintro e w19 ⟨⟨rfl, hm19⟩, hbs19⟩
  have HB19 := Lib.hid (HB18.out.trans (hbs19.below (fun k hk => (HOG0_18.out.lt k hk).1) HB18.out.size))
  replace c0 := hbs19.cell HXc_G0.out c0
  replace c1 := hbs19.cell HXc_G0.out c1
  replace c2 := hbs19.cell HXc_G0.out c2
  replace c3 := hbs19.cell HXc_G0.out c3
  replace c4 := hbs19.cell HXc_G0.out c4
  replace p0 := hbs19.cell HXp_G0.out p0
  replace p1 := hbs19.cell HXp_G0.out p1
  replace p2 := hbs19.cell HXp_G0.out p2
  replace p3 := hbs19.cell HXp_G0.out p3
  replace p4 := hbs19.cell HXp_G0.out p4
  replace q0 := hbs19.cell HXq_G0.out q0
  replace q1 := hbs19.cell HXq_G0.out q1
  replace q2 := hbs19.cell HXq_G0.out q2
  replace q3 := hbs19.cell HXq_G0.out q3
  replace q4 := hbs19.cell HXq_G0.out q4
  replace g0 := hbs19.cell HXg_G0.out g0
  replace g1 := hbs19.cell HXg_G0.out g1
  replace g2 := hbs19.cell HXg_G0.out g2
  replace g3 := hbs19.cell HXg_G0.out g3
  replace g4 := hbs19.cell HXg_G0.out g4
  have HOG1_19 := Lib.hid (HOG1_18.out.onlyBs hbs19 HDG1_G0.out)
  clear HOG1_18
  have HMG0_19 := Lib.hid hm19
  clear hm19
  clear hbs19 HOG0_18
  rw [HCC.out G0 HPG0.out, ← HMM.out]
  go_wp2_with fail
  refine (held_tree G0 _ _ HMG0_19.out (HCN.out G0 HPG0.out)).mono ?_
  rintro e w20 ⟨rfl, hb20⟩
  have HB20 := Lib.hid (HB19.out.trans (hb20.mono HB19.out.size))
  replace c0 := keep_below hb20 c0
  replace c1 := keep_below hb20 c1
  replace c2 := keep_below hb20 c2
  replace c3 := keep_below hb20 c3
  replace c4 := keep_below hb20 c4
  replace p0 := keep_below hb20 p0
  replace p1 := keep_below hb20 p1
  replace p2 := keep_below hb20 p2
  replace p3 := keep_below hb20 p3
  replace p4 := keep_below hb20 p4
  replace q0 := keep_below hb20 q0
  replace q1 := keep_below hb20 q1
  replace q2 := keep_below hb20 q2
  replace q3 := keep_below hb20 q3
  replace q4 := keep_below hb20 q4
  replace g0 := keep_below hb20 g0
  replace g1 := keep_below hb20 g1
  replace g2 := keep_below hb20 g2
  replace g3 := keep_below hb20 g3
  replace g4 := keep_below hb20 g4
  have HOG1_20 := Lib.hid (HOG1_19.out.blw hb20)
  clear HOG1_19
  have HMG0_20 := Lib.hid (HMG0_19.out.blw hb20)
  clear HMG0_19
  clear hb20
  rw [HCC.out G0 HPG0.out, ← HMM.out]
  go_wp2_with fail
  refine (HTVT.out _ HB20.out).mono ?_
  rintro e w21 ⟨R0, hp21, rfl, ho21, hn21, hb21⟩
  have HB21 := Lib.hid (HB20.out.trans (hb21.mono HB20.out.size))
  have HDR0_G1 : Hid (∀ k ∈ R0.blks, k ∉ G1.blks) := Lib.hid (fun k hk hk2 => by have h1 := (ho21.lt k hk).1; have h2 := (HOG1_20.out.lt k hk2).2; omega)
  have HDG1_R0 : Hid (∀ k ∈ G1.blks, k ∉ R0.blks) := Lib.hid (fun k hk hk2 => by have h1 := (ho21.lt k hk2).1; have h2 := (HOG1_20.out.lt k hk).2; omega)
  have HXc_R0 : Hid (w.heap.size ∉ R0.blks) := Lib.hid (fun hk => by have h1 := (ho21.lt _ hk).1; have h2 := cell_lt c0; simp only at h2; omega)
  have HXp_R0 : Hid (w5.heap.size ∉ R0.blks) := Lib.hid (fun hk => by have h1 := (ho21.lt _ hk).1; have h2 := cell_lt p0; simp only at h2; omega)
  have HXq_R0 : Hid (w7.heap.size ∉ R0.blks) := Lib.hid (fun hk => by have h1 := (ho21.lt _ hk).1; have h2 := cell_lt q0; simp only at h2; omega)
  have HXg_R0 : Hid (w10.heap.size ∉ R0.blks) := Lib.hid (fun hk => by have h1 := (ho21.lt _ hk).1; have h2 := cell_lt g0; simp only at h2; omega)
  replace c0 := keep_below hb21 c0
  replace c1 := keep_below hb21 c1
  replace c2 := keep_below hb21 c2
  replace c3 := keep_below hb21 c3
  replace c4 := keep_below hb21 c4
  replace p0 := keep_below hb21 p0
  replace p1 := keep_below hb21 p1
  replace p2 := keep_below hb21 p2
  replace p3 := keep_below hb21 p3
  replace p4 := keep_below hb21 p4
  replace q0 := keep_below hb21 q0
  replace q1 := keep_below hb21 q1
  replace q2 := keep_below hb21 q2
  replace q3 := keep_below hb21 q3
  replace q4 := keep_below hb21 q4
  replace g0 := keep_below hb21 g0
  replace g1 := keep_below hb21 g1
  replace g2 := keep_below hb21 g2
  replace g3 := keep_below hb21 g3
  replace g4 := keep_below hb21 g4
  have HOG1_21 := Lib.hid (HOG1_20.out.blw hb21)
  clear HOG1_20
  have HMG0_21 := Lib.hid (HMG0_20.out.blw hb21)
  clear HMG0_20
  have HPR0 := Lib.hid hp21
  have HOR0_21 := Lib.hid (ho21.base HB20.out.size)
  have HNR0 := Lib.hid hn21
  clear hp21 ho21 hn21
  clear hb21
  go_wp2_with fail
  refine (HTVP.out _ HB21.out).mono ?_
  rintro e w22 ⟨R1, hp22, rfl, ho22, hn22, hb22⟩
  have HB22 := Lib.hid (HB21.out.trans (hb22.mono HB21.out.size))
  have HDR1_G1 : Hid (∀ k ∈ R1.blks, k ∉ G1.blks) := Lib.hid (fun k hk hk2 => by have h1 := (ho22.lt k hk).1; have h2 := (HOG1_21.out.lt k hk2).2; omega)
  have HDG1_R1 : Hid (∀ k ∈ G1.blks, k ∉ R1.blks) := Lib.hid (fun k hk hk2 => by have h1 := (ho22.lt k hk2).1; have h2 := (HOG1_21.out.lt k hk).2; omega)
  have HDR1_R0 : Hid (∀ k ∈ R1.blks, k ∉ R0.blks) := Lib.hid (fun k hk hk2 => by have h1 := (ho22.lt k hk).1; have h2 := (HOR0_21.out.lt k hk2).2; omega)
  have HDR0_R1 : Hid (∀ k ∈ R0.blks, k ∉ R1.blks) := Lib.hid (fun k hk hk2 => by have h1 := (ho22.lt k hk2).1; have h2 := (HOR0_21.out.lt k hk).2; omega)
  have HXc_R1 : Hid (w.heap.size ∉ R1.blks) := Lib.hid (fun hk => by have h1 := (ho22.lt _ hk).1; have h2 := cell_lt c0; simp only at h2; omega)
  have HXp_R1 : Hid (w5.heap.size ∉ R1.blks) := Lib.hid (fun hk => by have h1 := (ho22.lt _ hk).1; have h2 := cell_lt p0; simp only at h2; omega)
  have HXq_R1 : Hid (w7.heap.size ∉ R1.blks) := Lib.hid (fun hk => by have h1 := (ho22.lt _ hk).1; have h2 := cell_lt q0; simp only at h2; omega)
  have HXg_R1 : Hid (w10.heap.size ∉ R1.blks) := Lib.hid (fun hk => by have h1 := (ho22.lt _ hk).1; have h2 := cell_lt g0; simp only at h2; omega)
  replace c0 := keep_below hb22 c0
  replace c1 := keep_below hb22 c1
  replace c2 := keep_below hb22 c2
  replace c3 := keep_below hb22 c3
  replace c4 := keep_below hb22 c4
  replace p0 := keep_below hb22 p0
  replace p1 := keep_below hb22 p1
  replace p2 := keep_below hb22 p2
  replace p3 := keep_below hb22 p3
  replace p4 := keep_below hb22 p4
  replace q0 := keep_below hb22 q0
  replace q1 := keep_below hb22 q1
  replace q2 := keep_below hb22 q2
  replace q3 := keep_below hb22 q3
  replace q4 := keep_below hb22 q4
  replace g0 := keep_below hb22 g0
  replace g1 := keep_below hb22 g1
  replace g2 := keep_below hb22 g2
  replace g3 := keep_below hb22 g3
  replace g4 := keep_below hb22 g4
  have HOG1_22 := Lib.hid (HOG1_21.out.blw hb22)
  clear HOG1_21
  have HOR0_22 := Lib.hid (HOR0_21.out.blw hb22)
  clear HOR0_21
  have HMG0_22 := Lib.hid (HMG0_21.out.blw hb22)
  clear HMG0_21
  have HPR1 := Lib.hid hp22
  have HOR1_22 := Lib.hid (ho22.base HB21.out.size)
  have HNR1 := Lib.hid hn22
  clear hp22 ho22 hn22
  clear hb22
  go_wp2_with fail
  refine (HCI.out R0 R1 HPR0.out HPR1.out _ _ HOR0_22.out HOR1_22.out.sat).mono ?_
  rintro e w23 ⟨H0, hp23, rfl, ho23, hn23, hb23⟩
  have HB23 := Lib.hid (HB22.out.trans (hb23.mono HB22.out.size))
  have HDH0_G1 : Hid (∀ k ∈ H0.blks, k ∉ G1.blks) := Lib.hid (fun k hk hk2 => by have h1 := (ho23.lt k hk).1; have h2 := (HOG1_22.out.lt k hk2).2; omega)
  have HDG1_H0 : Hid (∀ k ∈ G1.blks, k ∉ H0.blks) := Lib.hid (fun k hk hk2 => by have h1 := (ho23.lt k hk2).1; have h2 := (HOG1_22.out.lt k hk).2; omega)
  have HDH0_R0 : Hid (∀ k ∈ H0.blks, k ∉ R0.blks) := Lib.hid (fun k hk hk2 => by have h1 := (ho23.lt k hk).1; have h2 := (HOR0_22.out.lt k hk2).2; omega)
  have HDR0_H0 : Hid (∀ k ∈ R0.blks, k ∉ H0.blks) := Lib.hid (fun k hk hk2 => by have h1 := (ho23.lt k hk2).1; have h2 := (HOR0_22.out.lt k hk).2; omega)
  have HDH0_R1 : Hid (∀ k ∈ H0.blks, k ∉ R1.blks) := Lib.hid (fun k hk hk2 => by have h1 := (ho23.lt k hk).1; have h2 := (HOR1_22.out.lt k hk2).2; omega)
  have HDR1_H0 : Hid (∀ k ∈ R1.blks, k ∉ H0.blks) := Lib.hid (fun k hk hk2 => by have h1 := (ho23.lt k hk2).1; have h2 := (HOR1_22.out.lt k hk).2; omega)
  have HXc_H0 : Hid (w.heap.size ∉ H0.blks) := Lib.hid (fun hk => by have h1 := (ho23.lt _ hk).1; have h2 := cell_lt c0; simp only at h2; omega)
  have HXp_H0 : Hid (w5.heap.size ∉ H0.blks) := Lib.hid (fun hk => by have h1 := (ho23.lt _ hk).1; have h2 := cell_lt p0; simp only at h2; omega)
  have HXq_H0 : Hid (w7.heap.size ∉ H0.blks) := Lib.hid (fun hk => by have h1 := (ho23.lt _ hk).1; have h2 := cell_lt q0; simp only at h2; omega)
  have HXg_H0 : Hid (w10.heap.size ∉ H0.blks) := Lib.hid (fun hk => by have h1 := (ho23.lt _ hk).1; have h2 := cell_lt g0; simp only at h2; omega)
  replace c0 := keep_below hb23 c0
  replace c1 := keep_below hb23 c1
  replace c2 := keep_below hb23 c2
  replace c3 := keep_below hb23 c3
  replace c4 := keep_below hb23 c4
  replace p0 := keep_below hb23 p0
  replace p1 := keep_below hb23 p1
  replace p2 := keep_below hb23 p2
  replace p3 := keep_below hb23 p3
  replace p4 := keep_below hb23 p4
  replace q0 := keep_below hb23 q0
  replace q1 := keep_below hb23 q1
  replace q2 := keep_below hb23 q2
  replace q3 := keep_below hb23 q3
  replace q4 := keep_below hb23 q4
  replace g0 := keep_below hb23 g0
  replace g1 := keep_below hb23 g1
  replace g2 := keep_below hb23 g2
  replace g3 := keep_below hb23 g3
  replace g4 := keep_below hb23 g4
  have HOG1_23 := Lib.hid (HOG1_22.out.blw hb23)
  clear HOG1_22
  have HOR0_23 := Lib.hid (HOR0_22.out.blw hb23)
  clear HOR0_22
  have HOR1_23 := Lib.hid (HOR1_22.out.blw hb23)
  clear HOR1_22
  have HMG0_23 := Lib.hid (HMG0_22.out.blw hb23)
  clear HMG0_22
  have HPH0 := Lib.hid hp23
  have HOH0_23 := Lib.hid (ho23.base HB22.out.size)
  have HNH0 := Lib.hid hn23
  clear hp23 ho23 hn23
  clear hb23
  have HXt_G1 : Hid (w23.heap.size ∉ G1.blks) := Lib.hid (fun hk => by have h2 := (HOG1_23.out.lt _ hk).2; omega)
  have HXt_H0 : Hid (w23.heap.size ∉ H0.blks) := Lib.hid (fun hk => by have h2 := (HOH0_23.out.lt _ hk).2; omega)
  have hv24 := vbox w23 (.cells #[.int .i64 H0.k, .int .i64 H0.n, .int .i64 H0.x, .string ⟨H0.s.toArray⟩, .slice H0.a H0.l.length H0.cap] 26)
  have HB24 := Lib.hid (HB23.out.trans (hv24.mono HB23.out.size))
  replace c0 := keep_below hv24 c0
  replace c1 := keep_below hv24 c1
  replace c2 := keep_below hv24 c2
  replace c3 := keep_below hv24 c3
  replace c4 := keep_below hv24 c4
  replace p0 := keep_below hv24 p0
  replace p1 := keep_below hv24 p1
  replace p2 := keep_below hv24 p2
  replace p3 := keep_below hv24 p3
  replace p4 := keep_below hv24 p4
  replace q0 := keep_below hv24 q0
  replace q1 := keep_below hv24 q1
  replace q2 := keep_below hv24 q2
  replace q3 := keep_below hv24 q3
  replace q4 := keep_below hv24 q4
  replace g0 := keep_below hv24 g0
  replace g1 := keep_below hv24 g1
  replace g2 := keep_below hv24 g2
  replace g3 := keep_below hv24 g3
  replace g4 := keep_below hv24 g4
  have HOG1_24 := Lib.hid (HOG1_23.out.blw hv24)
  clear HOG1_23
  have HOH0_24 := Lib.hid (HOH0_23.out.blw hv24)
  clear HOH0_23
  have HMG0_24 := Lib.hid (HMG0_23.out.blw hv24)
  clear HMG0_23
  obtain ⟨t0, t1, t2, t3, t4⟩ := vcells5 w23 H0 26
  clear hv24
  go_wp2_with fail
  generalize (w23.alloc (.cells #[.int .i64 H0.k, .int .i64 H0.n, .int .i64 H0.x, .string ⟨H0.s.toArray⟩, .slice H0.a H0.l.length H0.cap] 26)) = w24 at *
  refine (HER.out H0 G1 HPH0.out HPG1.out _ HOH0_24.out.in HOG1_24.out.in).mono ?_
  rintro e w25 ⟨rfl, hb25⟩
  have HB25 := Lib.hid (HB24.out.trans (hb25.mono HB24.out.size))
  replace c0 := keep_below hb25 c0
  replace c1 := keep_below hb25 c1
  replace c2 := keep_below hb25 c2
  replace c3 := keep_below hb25 c3
  replace c4 := keep_below hb25 c4
  replace p0 := keep_below hb25 p0
  replace p1 := keep_below hb25 p1
  replace p2 := keep_below hb25 p2
  replace p3 := keep_below hb25 p3
  replace p4 := keep_below hb25 p4
  replace q0 := keep_below hb25 q0
  replace q1 := keep_below hb25 q1
  replace q2 := keep_below hb25 q2
  replace q3 := keep_below hb25 q3
  replace q4 := keep_below hb25 q4
  replace g0 := keep_below hb25 g0
  replace g1 := keep_below hb25 g1
  replace g2 := keep_below hb25 g2
  replace g3 := keep_below hb25 g3
  replace g4 := keep_below hb25 g4
  replace t0 := keep_below hb25 t0
  replace t1 := keep_below hb25 t1
  replace t2 := keep_below hb25 t2
  replace t3 := keep_below hb25 t3
  replace t4 := keep_below hb25 t4
  have HOG1_25 := Lib.hid (HOG1_24.out.blw hb25)
  clear HOG1_24
  have HOH0_25 := Lib.hid (HOH0_24.out.blw hb25)
  clear HOH0_24
  have HMG0_25 := Lib.hid (HMG0_24.out.blw hb25)
  clear HMG0_24
  clear hb25
  go_wp2_with fail
  refine (held_tree G0 _ _ HMG0_25.out (HCN.out G0 HPG0.out)).mono ?_
  rintro e w26 ⟨rfl, hb26⟩
  have HB26 := Lib.hid (HB25.out.trans (hb26.mono HB25.out.size))
  replace c0 := keep_below hb26 c0
  replace c1 := keep_below hb26 c1
  replace c2 := keep_below hb26 c2
  replace c3 := keep_below hb26 c3
  replace c4 := keep_below hb26 c4
  replace p0 := keep_below hb26 p0
  replace p1 := keep_below hb26 p1
  replace p2 := keep_below hb26 p2
  replace p3 := keep_below hb26 p3
  replace p4 := keep_below hb26 p4
  replace q0 := keep_below hb26 q0
  replace q1 := keep_below hb26 q1
  replace q2 := keep_below hb26 q2
  replace q3 := keep_below hb26 q3
  replace q4 := keep_below hb26 q4
  replace g0 := keep_below hb26 g0
  replace g1 := keep_below hb26 g1
  replace g2 := keep_below hb26 g2
  replace g3 := keep_below hb26 g3
  replace g4 := keep_below hb26 g4
  replace t0 := keep_below hb26 t0
  replace t1 := keep_below hb26 t1
  replace t2 := keep_below hb26 t2
  replace t3 := keep_below hb26 t3
  replace t4 := keep_below hb26 t4
  have HOG1_26 := Lib.hid (HOG1_25.out.blw hb26)
  clear HOG1_25
  have HOH0_26 := Lib.hid (HOH0_25.out.blw hb26)
  clear HOH0_25
  have HMG0_26 := Lib.hid (HMG0_25.out.blw hb26)
  clear HMG0_25
  clear hb26
  rw [HCC.out G0 HPG0.out, ← HMM.out]
  go_wp2
  go_ret
  exact ⟨rfl, HB26.out⟩
theorem walk (T : AT) (lP : List St) (aP : Option Addr) (capP : Nat) (w : World) (hinT : T.In w w.heap.size) (hwfT : T.pt.Wf) (hsP : SAt w w.heap.size aP capP lP) (hlP : lP.length ≤ 9223372036854775807) : Calls Try.prog 10 #[T.val, .slice aP lP.length capP] w fun e w' => e = .returned (.bool true) ∧ Below w.heap.size w w' := by
  by_cases hzT : T.pt.sz ≤ 1048576
  case neg => exact big1 T lP aP capP w hinT hwfT hsP hlP hzT
  by_cases hzP : lP.length ≤ 1048576 - T.pt.sz
  case neg => exact big2 T lP aP capP w hinT hwfT hsP hlP hzT hzP
  exact main T lP aP capP w hinT hwfT hsP hlP hzT hzP

set_option maxRecDepth 100000 in
theorem contract (H : Type) (enc : TypeId × Value → H) (W : World) (base : Nat) (args : Array Value) (ds gs : List (DataW H)) (before : List MemPlace)
    (hval : ∀ (j : Nat) t v, Try.f10.params[j]? = some t → args[j]? = some v → Value.okWide Try.prog W .any base t v)
    (hW : DataW.Whole enc Try.prog Try.f10.params.toList Rows.fnExactAtPathSpec.vars false W args.toList ds gs before)
    (hcond : ∀ k, (OpenSpec.ofChange Rows.fnExactAtPathSpec).cond = some k → k H (ds ++ gs) = true)
    (hsz : (DataW.weightsEach Try.prog (Try.f10.params.toList ++ (OpenSpec.ofChange Rows.fnExactAtPathSpec).bare.plain.varTypes Try.prog) (ds ++ gs)).all (· ≤ reachBytes) = true)
    (hL : laidMetH Try.prog Rows.fnExactAtPathRow.laid W) :
    Calls Try.prog 10 args W fun e W' => ∃ v, e = .returned v ∧ Rows.fnExactAtPathSpec.post enc Try.prog Try.f10 false true false false W args v W' := by
  have hW' := hW
  have hlt := hW'.lt
  obtain ⟨p, q, hA0, hV, rfl, hfz, hnd⟩ := hW
  have hA : DataW.TrodAll enc Try.prog W 0 (fun _ => true) true Try.f10.params.toList args.toList ds p := hA0
  rw [Try.params10] at hA hval hsz
  obtain ⟨v0, vs0, d0, ds0, p0, q0, hargs, rfl, rfl, h0, r0⟩ := trodAll_cons hA
  obtain ⟨v1, vs1, d1, ds1, p1, q1, rfl, rfl, rfl, h1, r1⟩ := trodAll_cons r0
  obtain ⟨rfl, rfl, rfl⟩ := trodAll_nil r1
  obtain rfl : args = #[v0, v1] := by cases args; simp_all
  obtain ⟨rfl, rfl⟩ := trodVars_none hV
  simp only [List.append_nil] at hW' hlt
  have hlt0 : ∀ x ∈ p0, x.block < W.heap.size := fun x hx => hlt x (by simp [hx])
  have hlt1 : ∀ x ∈ p1, x.block < W.heap.size := fun x hx => hlt x (by simp [hx])
  have hk0 := h0
  have hk1 := h1
  obtain ⟨T0, rfl, hin0, hwf0⟩ := open_val (hval 0 57 v0 rfl rfl) h0
  obtain ⟨a1, cap1, l1, rfl, hs1, hlen1, hwf1⟩ := open_steps (hval 1 68 v1 rfl rfl) h1
  clear hA0 hA
  have fin : ∀ W' : World, Below W.heap.size W W' → Rows.fnExactAtPathSpec.post enc Try.prog Try.f10 false true false false W _ (.bool true) W' := fun W' hb =>
    ⟨_, _, _, [], _, [], hW', trodAll_mk1 (shut_bool Try.underlying4 _), (trodAll_cons_mk (Below.trod laidOut (by kernel_rfl) (of_decide_eq_true (by kernel_rfl)) hk0 hb hlt0) (trodAll_cons_mk (Below.trod laidOut (by kernel_rfl) (of_decide_eq_true (by kernel_rfl)) hk1 hb hlt1) trodAll_mk0)), rfl, hb.frame _, fun h => by cases h⟩
  refine Calls.mono (R := fun e w' => e = .returned (.bool true) ∧ Below W.heap.size W w') ?_ (fun e W' h => ⟨_, h.1, fin W' h.2⟩)
  clear fin
  exact walk T0 l1 a1 cap1 W hin0 hwf0 hs1 hlen1

theorem laid_met (os : Os) : laidMet Try.prog Rows.fnExactAtPathRow.laid (((World.holding Try.prog os ⟨#[], #[], []⟩)).forCall (fun _ _ => 0) ⟨#[], #[.agg #[.int .i64 0, .int .i64 0, .int .i64 0, .string ⟨#[]⟩, .slice none 0 0], .slice none 0 0], []⟩).memory :=
  ⟨[], rfl, List.nodup_nil, fun _ _ h => by cases h⟩
theorem reads (os : Os) {H : Type} (enc : TypeId × Value → H) : ∃ places, DataW.whole enc Try.prog (((World.holding Try.prog os ⟨#[], #[], []⟩)).forCall (fun _ _ => 0) ⟨#[], #[.agg #[.int .i64 0, .int .i64 0, .int .i64 0, .string ⟨#[]⟩, .slice none 0 0], .slice none 0 0], []⟩).memory Try.f10.params.toList Rows.fnExactAtPathSpec.vars false (#[.agg #[.int .i64 0, .int .i64 0, .int .i64 0, .string ⟨#[]⟩, .slice none 0 0], .slice none 0 0] : Array Value).toList 8 = some ([.agg [.lit (.int .i64 0), .lit (.int .i64 0), .lit (.int .i64 0), .lit (.string []), .nil], .nil], [], places) :=
  ⟨[], by kernel_rfl⟩

set_option maxRecDepth 100000 in
theorem lifted (os : Os) (started : os.Started) (H : Type) (enc : TypeId × Value → H) (F : Stop.Interp) :
    ReturnsInHanded {} Try.checked os 10 .any ((OpenSpec.ofChange Rows.fnExactAtPathSpec).preRow enc Try.prog Try.f10 Rows.fnExactAtPathRow.domain false Rows.fnExactAtPathRow.laid) (((OpenSpec.ofChange Rows.fnExactAtPathSpec).at F).post enc Try.prog Try.f10 false true false false) := by
  obtain ⟨places, hx⟩ := reads os enc
  refine returnsInHanded_of_row (C := Try.checked) (s := OpenSpec.ofChange Rows.fnExactAtPathSpec) own started (by kernel_rfl) Try.func10
    (witness_row_at (enc := enc) (C := Try.checked) false (World.holding Try.prog os ⟨#[], #[], []⟩) #[.agg #[.int .i64 0, .int .i64 0, .int .i64 0, .string ⟨#[]⟩, .slice none 0 0], .slice none 0 0] rfl (by kernel_rfl) (by kernel_rfl) (by kernel_rfl)
      (OpenSpec.preRow_of_cond 8 hx (by kernel_rfl) (fun k hk => by cases hk) (by kernel_rfl) (laid_met os))) ?_
  intro W base args ds gs before hval hW _ hcond hsz hL _ _
  exact contract H enc W base args ds gs before hval hW hcond hsz hL

theorem said : Rows.FnExactAtPathSaid :=
  OpenClaim.holds_of_cond 10 Try.f10 rfl rfl rfl rfl rfl rfl rfl ⟨rfl, rfl, rfl, rfl, rfl⟩ rfl rfl rfl rfl rfl (by kernel_rfl) Try.func10 (by kernel_rfl)
    (of_decide_eq_true (by kernel_rfl)) (by unfold Func.isWrapper; first | (rw [if_pos (by decide +kernel)]; kernel_rfl) | (rw [if_neg (by decide +kernel)]; exact ⟨rfl, rfl⟩))
    (fun os started H enc _ F => by rw [OpenClaim.pre_eq_preRow]; exact lifted os started H enc F)

theorem proved : Rows.FnExactAtPathSaid := said
#print axioms proved
end Go.Proofs.Ytgfebmnlcihpnaa.fnExactAtPath
