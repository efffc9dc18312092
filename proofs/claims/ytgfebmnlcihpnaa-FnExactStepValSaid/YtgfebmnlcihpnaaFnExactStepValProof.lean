/- For every input the law FnExactStepVal returns true and its arguments read afterwards as they read before; beside what the row states there is no condition. -/
import Derived.Test.YtgfebmnlcihpnaaRows
import Derived.WalkKit
import Derived.ProofKit
import Derived.OpenShut
import Derived.SizedLaws
import Derived.Carry
import Derived.Deep.DeepHandedRow


import Derived.Lib.LaidTab
import Derived.Stop.LaidErr
import Derived.Test.YtgfebmnlcihpnaaSz
import Derived.Test.YtgfebmnlcihpnaaOpen
import Derived.Test.YtgfebmnlcihpnaaOpenStep
import Derived.Test.YtgfebmnlcihpnaaToVal
import Derived.Test.YtgfebmnlcihpnaaEqVal
import Derived.Test.YtgfebmnlcihpnaaKeepVal
import Derived.Test.YtgfebmnlcihpnaaMarkLaw
import Derived.Test.YtgfebmnlcihpnaaStepRow
import Derived.Test.YtgfebmnlcihpnaaAtSpec
import Derived.Test.YtgfebmnlcihpnaaAtImpl
import Derived.Deep.DeepCutAuto
import Derived.Deep.RegionHeld3

namespace Go.Proofs.Ytgfebmnlcihpnaa.fnExactStepVal
open Go.ChangeShapes Go.WideShapes Go.ChangeAt Go.RowKit
open Go.ChangeMaps (open_string shut_string)
set_option linter.unusedVariables false

theorem own : ownKnob Try.prog.godebug = none := by kernel_rfl
theorem laidOut : laidOutB Try.prog = true := by kernel_rfl

set_option maxHeartbeats 1000000 in
theorem big1 (T : AT) (sP : St) (w : World) (hinT : T.In w w.heap.size) (hwfT : T.pt.Wf)  (hzT : ¬ T.pt.sz ≤ 1048576) : Calls Try.prog 9 #[T.val, sP.val] w fun e w' => e = .returned (.bool true) ∧ Below w.heap.size w w' := by
  have HSZT := Lib.hid (fun (w1 : World) (hb : Below w.heap.size w w1) => szVal_any T hwfT w1 w.heap.size (1048576) (hinT.blw hb (Nat.le_refl _)) hb.size (by omega))
  have HRT : Hid (szR T.pt.sz (1048576) = -1) := Lib.hid (by unfold szR; rw [if_neg hzT])
  clear hinT hwfT hzT
  show Calls Try.prog 9 #[.agg #[.int .i64 T.k, .int .i64 T.n, .int .i64 T.x, .string ⟨T.s.toArray⟩, .slice T.a T.l.length T.cap], .agg #[.int .i64 sP.1, .bool sP.2]] w _
  go_enter Try.func9, Try.ntmps9
  go_wp2_with fail
  have hbox : Below w.heap.size w ((w.alloc (.cells #[.int .i64 T.k, .int .i64 T.n, .int .i64 T.x, .string ⟨T.s.toArray⟩, .slice T.a T.l.length T.cap] 57)).alloc (.cells #[.int .i64 sP.1, .bool sP.2] 63)) := boxes2 w (.cells #[.int .i64 T.k, .int .i64 T.n, .int .i64 T.x, .string ⟨T.s.toArray⟩, .slice T.a T.l.length T.cap] 57) (.cells #[.int .i64 sP.1, .bool sP.2] 63)
  have hc : ((w.alloc (.cells #[.int .i64 T.k, .int .i64 T.n, .int .i64 T.x, .string ⟨T.s.toArray⟩, .slice T.a T.l.length T.cap] 57)).alloc (.cells #[.int .i64 sP.1, .bool sP.2] 63)).cell? ⟨w.heap.size, 0, none⟩ = some (.int .i64 T.k) ∧ ((w.alloc (.cells #[.int .i64 T.k, .int .i64 T.n, .int .i64 T.x, .string ⟨T.s.toArray⟩, .slice T.a T.l.length T.cap] 57)).alloc (.cells #[.int .i64 sP.1, .bool sP.2] 63)).cell? ⟨w.heap.size, 1, none⟩ = some (.int .i64 T.n) ∧ ((w.alloc (.cells #[.int .i64 T.k, .int .i64 T.n, .int .i64 T.x, .string ⟨T.s.toArray⟩, .slice T.a T.l.length T.cap] 57)).alloc (.cells #[.int .i64 sP.1, .bool sP.2] 63)).cell? ⟨w.heap.size, 2, none⟩ = some (.int .i64 T.x) ∧ ((w.alloc (.cells #[.int .i64 T.k, .int .i64 T.n, .int .i64 T.x, .string ⟨T.s.toArray⟩, .slice T.a T.l.length T.cap] 57)).alloc (.cells #[.int .i64 sP.1, .bool sP.2] 63)).cell? ⟨w.heap.size, 3, none⟩ = some (.string ⟨T.s.toArray⟩) ∧ ((w.alloc (.cells #[.int .i64 T.k, .int .i64 T.n, .int .i64 T.x, .string ⟨T.s.toArray⟩, .slice T.a T.l.length T.cap] 57)).alloc (.cells #[.int .i64 sP.1, .bool sP.2] 63)).cell? ⟨w.heap.size, 4, none⟩ = some (.slice T.a T.l.length T.cap) := by refine ⟨?_, ?_, ?_, ?_, ?_⟩ <;> simp [go_sem]
  obtain ⟨c0, c1, c2, c3, c4⟩ := hc
  have hd : ((w.alloc (.cells #[.int .i64 T.k, .int .i64 T.n, .int .i64 T.x, .string ⟨T.s.toArray⟩, .slice T.a T.l.length T.cap] 57)).alloc (.cells #[.int .i64 sP.1, .bool sP.2] 63)).cell? ⟨w.heap.size + 1, 0, none⟩ = some (.int .i64 sP.1) ∧ ((w.alloc (.cells #[.int .i64 T.k, .int .i64 T.n, .int .i64 T.x, .string ⟨T.s.toArray⟩, .slice T.a T.l.length T.cap] 57)).alloc (.cells #[.int .i64 sP.1, .bool sP.2] 63)).cell? ⟨w.heap.size + 1, 1, none⟩ = some (.bool sP.2) := by refine ⟨?_, ?_⟩ <;> simp [go_sem]
  obtain ⟨d0, d1⟩ := hd
  generalize ((w.alloc (.cells #[.int .i64 T.k, .int .i64 T.n, .int .i64 T.x, .string ⟨T.s.toArray⟩, .slice T.a T.l.length T.cap] 57)).alloc (.cells #[.int .i64 sP.1, .bool sP.2] 63)) = w0 at *
  have HB0 := Lib.hid hbox
  clear hbox
  refine (HSZT.out _ HB0.out).mono ?_
  rintro e w1 ⟨rfl, hb1⟩
  have HB1 := Lib.hid (HB0.out.trans (hb1.mono HB0.out.size))
  replace c0 := keep_below hb1 c0
  replace c1 := keep_below hb1 c1
  replace c2 := keep_below hb1 c2
  replace c3 := keep_below hb1 c3
  replace c4 := keep_below hb1 c4
  replace d0 := keep_below hb1 d0
  replace d1 := keep_below hb1 d1
  clear hb1
  rw [HRT.out]
  go_wp2
  go_ret
  exact ⟨rfl, HB1.out⟩
set_option maxHeartbeats 16000000 in
set_option maxRecDepth 100000 in
theorem main (T : AT) (sP : St) (w : World) (hinT : T.In w w.heap.size) (hwfT : T.pt.Wf) (hzT : T.pt.sz ≤ 1048576) : Calls Try.prog 9 #[T.val, sP.val] w fun e w' => e = .returned (.bool true) ∧ Below w.heap.size w w' := by
  have HSZT := Lib.hid (fun (w1 : World) (hb : Below w.heap.size w w1) => szVal_any T hwfT w1 w.heap.size (1048576) (hinT.blw hb (Nat.le_refl _)) hb.size (by omega))
  have HRT : Hid (szR T.pt.sz (1048576) = ((1048576 - T.pt.sz : Nat) : Int)) := Lib.hid (by unfold szR; rw [if_pos hzT]; omega)
  have hnegT : ¬ (((1048576 - T.pt.sz : Nat) : Int) < 0) := by omega
  have hsT : T.pt.sz ≤ 1048576 := by omega
  have HTVT := Lib.hid (fun (w1 : World) (hb : Below w.heap.size w w1) => toVal_any T hwfT hsT w1 w.heap.size (hinT.blw hb (Nat.le_refl _)) hb.size)
  have HEQT := Lib.hid (fun (T' U' : AT) (hp : T'.pt = T.pt) (hu : U'.pt = T.pt) (w1 : World) (hi : T'.In w1 w1.heap.size) (hj : U'.In w1 w1.heap.size) => eqVal_any T' (by rw [hp]; exact hwfT) U' w1 w1.heap.size (by rw [hp, hu]) hi hj (Nat.le_refl _))
  have HCAT : Hid (∀ X : AT, X.pt = T.pt → X.pt.cnt ≤ 2097152) := Lib.hid (fun X hX => by rw [hX]; have := cnt_le_sz T.pt; omega)
  have HCBT : Hid (∀ X : AT, X.pt = T.pt → PT.cntL (AT.ptL X.l) = PT.cntL (AT.ptL T.l)) := Lib.hid (fun X hX => by have h1 := cnt_eq X; have h2 := cnt_eq T; rw [hX] at h1; omega)
  have HTVP := Lib.hid (fun (w1 : World) => tostep_any sP.1 sP.2 w1)
  obtain ⟨p, bv, hp⟩ : ∃ p bv, (p, bv) = found (T.pt.step sP) := ⟨_, _, rfl⟩
  have HCS := Lib.hid (fun (X0 : AT) (hX0 : X0.pt = T.pt) (w1 : World) (ho0 : X0.In w1 w1.heap.size) => (show Calls Try.prog 68 #[X0.val, .agg #[.int .i64 sP.1, .bool sP.2]] w1 (LookPost w1 (p, bv)) from by
    have h := stepval_spec X0 sP w1 w1.heap.size ho0 (by rw [hX0]; exact hsT) (Nat.le_refl _); have e : found (X0.pt.step sP) = (p, bv) := by rw [hX0, hp]
    rw [e] at h; exact h))
  have HCI := Lib.hid (fun (X0 : AT) (hX0 : X0.pt = T.pt) (w1 : World) (B0 : Nat) (ho0 : X0.Own w1 B0) => (show Calls Try.prog 70 #[X0.val, .agg #[.int .i64 sP.1, .bool sP.2]] w1 (LookPost w1 (p, bv)) from by
    have h := stepval_impl X0 sP w1 B0 ho0 (by rw [hX0]; exact hsT); have e : found (X0.pt.step sP) = (p, bv) := by rw [hX0, hp]
    rw [e] at h; exact h))
  have hlw := step_wf T.pt sP hwfT hsT
  rw [← hp] at hlw
  obtain ⟨hvw, hpc⟩ := hlw
  simp only at hvw hpc
  have HER := Lib.hid (fun (X Y : AT) (hX : X.pt = p) (hY : Y.pt = p) (w1 : World) (ho : X.In w1 w1.heap.size) (hy : Y.In w1 w1.heap.size) => eqVal_any X (pt_wf hX hvw) Y w1 w1.heap.size (hX.trans hY.symm) ho hy (Nat.le_refl _))
  have HCN : Hid (∀ X : AT, X.pt = p → X.pt.cnt ≤ 2097152) := Lib.hid (fun X hX => by rw [hX]; omega)
  have HCC : Hid (∀ X : AT, X.pt = p → PT.cntL (AT.ptL X.l) = p.cnt - 1) := Lib.hid (fun X hX => by have h1 := cnt_eq X; rw [hX] at h1; omega)
  obtain ⟨MM, hMM⟩ : ∃ MM, MM = 1 + 4 * (p.cnt - 1) := ⟨_, rfl⟩
  have HMM := Lib.hid hMM
  have hneg2 : ¬ ((MM : Int) < 0) := by omega
  obtain ⟨M0, hM0⟩ : ∃ M0, M0 = 1 + 4 * PT.cntL (AT.ptL T.l) := ⟨_, rfl⟩
  have HM0 := Lib.hid hM0
  have hm0a : 1 ≤ M0 := by omega
  have hm0b : M0 ≤ 4194310 := by have h10 := cnt_le_sz T.pt; have h20 := cnt_eq T; omega
  have hneg3 : ¬ ((M0 : Int) < 0) := by omega
  clear hp hvw hpc hMM hM0 hinT hwfT hzT hsT
  generalize 1048576 - T.pt.sz = leftT at *
  show Calls Try.prog 9 #[.agg #[.int .i64 T.k, .int .i64 T.n, .int .i64 T.x, .string ⟨T.s.toArray⟩, .slice T.a T.l.length T.cap], .agg #[.int .i64 sP.1, .bool sP.2]] w _
  go_enter Try.func9, Try.ntmps9
  go_wp2_with fail
  have hbox : Below w.heap.size w ((w.alloc (.cells #[.int .i64 T.k, .int .i64 T.n, .int .i64 T.x, .string ⟨T.s.toArray⟩, .slice T.a T.l.length T.cap] 57)).alloc (.cells #[.int .i64 sP.1, .bool sP.2] 63)) := boxes2 w (.cells #[.int .i64 T.k, .int .i64 T.n, .int .i64 T.x, .string ⟨T.s.toArray⟩, .slice T.a T.l.length T.cap] 57) (.cells #[.int .i64 sP.1, .bool sP.2] 63)
  have hc : ((w.alloc (.cells #[.int .i64 T.k, .int .i64 T.n, .int .i64 T.x, .string ⟨T.s.toArray⟩, .slice T.a T.l.length T.cap] 57)).alloc (.cells #[.int .i64 sP.1, .bool sP.2] 63)).cell? ⟨w.heap.size, 0, none⟩ = some (.int .i64 T.k) ∧ ((w.alloc (.cells #[.int .i64 T.k, .int .i64 T.n, .int .i64 T.x, .string ⟨T.s.toArray⟩, .slice T.a T.l.length T.cap] 57)).alloc (.cells #[.int .i64 sP.1, .bool sP.2] 63)).cell? ⟨w.heap.size, 1, none⟩ = some (.int .i64 T.n) ∧ ((w.alloc (.cells #[.int .i64 T.k, .int .i64 T.n, .int .i64 T.x, .string ⟨T.s.toArray⟩, .slice T.a T.l.length T.cap] 57)).alloc (.cells #[.int .i64 sP.1, .bool sP.2] 63)).cell? ⟨w.heap.size, 2, none⟩ = some (.int .i64 T.x) ∧ ((w.alloc (.cells #[.int .i64 T.k, .int .i64 T.n, .int .i64 T.x, .string ⟨T.s.toArray⟩, .slice T.a T.l.length T.cap] 57)).alloc (.cells #[.int .i64 sP.1, .bool sP.2] 63)).cell? ⟨w.heap.size, 3, none⟩ = some (.string ⟨T.s.toArray⟩) ∧ ((w.alloc (.cells #[.int .i64 T.k, .int .i64 T.n, .int .i64 T.x, .string ⟨T.s.toArray⟩, .slice T.a T.l.length T.cap] 57)).alloc (.cells #[.int .i64 sP.1, .bool sP.2] 63)).cell? ⟨w.heap.size, 4, none⟩ = some (.slice T.a T.l.length T.cap) := by refine ⟨?_, ?_, ?_, ?_, ?_⟩ <;> simp [go_sem]
  obtain ⟨c0, c1, c2, c3, c4⟩ := hc
  have hd : ((w.alloc (.cells #[.int .i64 T.k, .int .i64 T.n, .int .i64 T.x, .string ⟨T.s.toArray⟩, .slice T.a T.l.length T.cap] 57)).alloc (.cells #[.int .i64 sP.1, .bool sP.2] 63)).cell? ⟨w.heap.size + 1, 0, none⟩ = some (.int .i64 sP.1) ∧ ((w.alloc (.cells #[.int .i64 T.k, .int .i64 T.n, .int .i64 T.x, .string ⟨T.s.toArray⟩, .slice T.a T.l.length T.cap] 57)).alloc (.cells #[.int .i64 sP.1, .bool sP.2] 63)).cell? ⟨w.heap.size + 1, 1, none⟩ = some (.bool sP.2) := by refine ⟨?_, ?_⟩ <;> simp [go_sem]
  obtain ⟨d0, d1⟩ := hd
  generalize ((w.alloc (.cells #[.int .i64 T.k, .int .i64 T.n, .int .i64 T.x, .string ⟨T.s.toArray⟩, .slice T.a T.l.length T.cap] 57)).alloc (.cells #[.int .i64 sP.1, .bool sP.2] 63)) = w0 at *
  have HB0 := Lib.hid hbox
  clear hbox
  refine (HSZT.out _ HB0.out).mono ?_
  rintro e w1 ⟨rfl, hb1⟩
  have HB1 := Lib.hid (HB0.out.trans (hb1.mono HB0.out.size))
  replace c0 := keep_below hb1 c0
  replace c1 := keep_below hb1 c1
  replace c2 := keep_below hb1 c2
  replace c3 := keep_below hb1 c3
  replace c4 := keep_below hb1 c4
  replace d0 := keep_below hb1 d0
  replace d1 := keep_below hb1 d1
  clear hb1
  rw [HRT.out]
  go_upto_region 5 with fail
  go_cut [6, 7] from 21 (fun v0 v1 W' => v1 = .bool bv ∧ ∃ (X : AT) (B : Nat), v0 = .pointer (some ⟨B, 0, none⟩) ∧ X.pt = p ∧ X.Own W' w1.heap.size ∧ X.blks.Nodup ∧ B ∉ X.blks ∧ w1.heap.size ≤ B ∧ Rl w1 W' ∧ W'.cell? ⟨B, 0, none⟩ = some (.int .i64 X.k) ∧ W'.cell? ⟨B, 1, none⟩ = some (.int .i64 X.n) ∧ W'.cell? ⟨B, 2, none⟩ = some (.int .i64 X.x) ∧ W'.cell? ⟨B, 3, none⟩ = some (.string ⟨X.s.toArray⟩) ∧ W'.cell? ⟨B, 4, none⟩ = some (.slice X.a X.l.length X.cap))
  case first =>
    have HK := Lib.hid (fun (W' : World) (h : Rl w1 W') => (show Rl w1 W' ∧ W'.cell? ⟨w.heap.size, 0, none⟩ = some (.int .i64 T.k) ∧ W'.cell? ⟨w.heap.size, 1, none⟩ = some (.int .i64 T.n) ∧ W'.cell? ⟨w.heap.size, 2, none⟩ = some (.int .i64 T.x) ∧ W'.cell? ⟨w.heap.size, 3, none⟩ = some (.string ⟨T.s.toArray⟩) ∧ W'.cell? ⟨w.heap.size, 4, none⟩ = some (.slice T.a T.l.length T.cap) ∧ W'.cell? ⟨w.heap.size + 1, 0, none⟩ = some (.int .i64 sP.1) ∧ W'.cell? ⟨w.heap.size + 1, 1, none⟩ = some (.bool sP.2) ∧ Below w.heap.size w W' from ⟨h, keep_below h.b c0, keep_below h.b c1, keep_below h.b c2, keep_below h.b c3, keep_below h.b c4, keep_below h.b d0, keep_below h.b d1, HB1.out.trans (h.b.mono HB1.out.size)⟩))
    go_region_held3 (fun W' => Rl w1 W' ∧ W'.cell? ⟨w.heap.size, 0, none⟩ = some (.int .i64 T.k) ∧ W'.cell? ⟨w.heap.size, 1, none⟩ = some (.int .i64 T.n) ∧ W'.cell? ⟨w.heap.size, 2, none⟩ = some (.int .i64 T.x) ∧ W'.cell? ⟨w.heap.size, 3, none⟩ = some (.string ⟨T.s.toArray⟩) ∧ W'.cell? ⟨w.heap.size, 4, none⟩ = some (.slice T.a T.l.length T.cap) ∧ W'.cell? ⟨w.heap.size + 1, 0, none⟩ = some (.int .i64 sP.1) ∧ W'.cell? ⟨w.heap.size + 1, 1, none⟩ = some (.bool sP.2) ∧ Below w.heap.size w W') ((go_split_ands; refine HK.out _ ?_; first | with_reducible assumption | with_reducible exact (Rl.refl _).drew | with_reducible exact HRca.out | with_reducible exact HRuba.out | with_reducible exact HRuaa.out | with_reducible exact Rl.alloc (by assumption) _ | with_reducible exact Rl.alloc HRca.out _ | with_reducible exact Rl.alloc HRuba.out _ | with_reducible exact Rl.alloc HRuaa.out _ | with_reducible exact (Rl.alloc (Rl.refl _) _).drew | with_reducible exact Rl.drew (by assumption) | with_reducible exact Rl.five (by assumption) HRuba.out.z | with_reducible exact Rl.five (by assumption) HRuaa.out.z | with_reducible exact Rl.five (by assumption) (Nat.le_refl _))) ((first | (go_at_call 64; go_split_ands; ((with_reducible refine (HTVT.out _ (by assumption)).mono ?_); rintro e uaa ⟨Yaa, hpuaa, rfl, houaa, hnuaa, hbuaa⟩; have HOuaa := Lib.hid houaa; have HPuaa := Lib.hid hpuaa; clear houaa hnuaa hpuaa); have HRuaa := Lib.hid (Rl.below (W0 := w1) (by assumption) hbuaa); (first | (have hz := mboxD hbuaa; obtain ⟨z0, z1, z2, z3, z4, zf⟩ := hz) | (have hz := mbox hbuaa; obtain ⟨z0, z1, z2, z3, z4, zf⟩ := hz) | skip)) | (go_at_call 69; go_split_ands; refine (HTVP.out _).mono ?_; rintro e uba ⟨rfl, hbuba⟩; have HRuba := Lib.hid (Rl.below (W0 := w1) (by assumption) hbuba); (first | have HOYa1a := Lib.hid (own_blw hbuba HOuaa.out) | have HOYa1a := Lib.hid (own_blw hbuba (own_alloc HOuaa.out))); (first | (have hz := mboxD hbuba; obtain ⟨z0, z1, z2, z3, z4, zf⟩ := hz) | (have hz := mbox hbuba; obtain ⟨z0, z1, z2, z3, z4, zf⟩ := hz) | (have hz := mboxK hbuba z0 z1 z2 z3 z4 zf; obtain ⟨z0, z1, z2, z3, z4, zf⟩ := hz) | skip)) | (go_at_call 68; go_split_ands; refine (HCS.out Yaa HPuaa.out _ (by first | exact HOYa1a.out.in | exact (own_alloc HOYa1a.out).in)).mono ?_; rintro e waa ⟨G1, hpa, rfl, hoa, hna, hba⟩; have HPG1 := Lib.hid hpa; have HOOG1 := Lib.hid hoa; have HNG1 := Lib.hid hna; clear hpa hoa hna; have HRca := Lib.hid (Rl.below (W0 := w1) (by assumption) hba); (first | (have hz := mboxD hba; obtain ⟨z0, z1, z2, z3, z4, zf⟩ := hz) | (have hz := mbox hba; obtain ⟨z0, z1, z2, z3, z4, zf⟩ := hz) | (have hz := mboxK hba z0 z1 z2 z3 z4 zf; obtain ⟨z0, z1, z2, z3, z4, zf⟩ := hz) | skip))))
    all_goals (go_wp2_with fail; go_meet; (first | with_reducible exact ⟨rfl, G1, _, rfl, HPG1.out, leaf_last HRca.out (by first | exact HRuba.out.z | exact HRuaa.out.z | (have hq1 := HRuba.out.z; simp; omega) | (have hq1 := HRuaa.out.z; simp; omega)) HOOG1.out HNG1.out⟩ | with_reducible exact ⟨rfl, G1, _, rfl, HPG1.out, leaf_early HRca.out HRuba.out.z (by first | exact HRuba.out.z | exact HRuaa.out.z | (have hq1 := HRuba.out.z; simp; omega) | (have hq1 := HRuaa.out.z; simp; omega)) (by first | (simp; done) | (have hq1 := hbuba.size; simp at hq1; omega) | (have hq0 := hbuaa.size; have hq1 := hbuba.size; simp at hq0 hq1; omega)) HOOG1.out HNG1.out z0 z1 z2 z3 z4⟩ | with_reducible exact ⟨rfl, G1, _, rfl, HPG1.out, leaf_early HRca.out HRuaa.out.z (by first | exact HRuba.out.z | exact HRuaa.out.z | (have hq1 := HRuba.out.z; simp; omega) | (have hq1 := HRuaa.out.z; simp; omega)) (by first | (simp; done) | (have hq1 := hbuba.size; simp at hq1; omega) | (have hq0 := hbuaa.size; have hq1 := hbuba.size; simp at hq0 hq1; omega)) HOOG1.out HNG1.out z0 z1 z2 z3 z4⟩ | with_reducible exact ⟨rfl, G1, _, rfl, HPG1.out, leaf_early HRca.out (Nat.le_refl _) (by first | exact HRuba.out.z | exact HRuaa.out.z | (have hq1 := HRuba.out.z; simp; omega) | (have hq1 := HRuaa.out.z; simp; omega)) (by first | (simp; done) | (have hq1 := hbuba.size; simp at hq1; omega) | (have hq0 := hbuaa.size; have hq1 := hbuba.size; simp at hq0 hq1; omega)) HOOG1.out HNG1.out z0 z1 z2 z3 z4⟩))
  obtain ⟨hv2, G1, Bp, rfl, hpG, hoG, hnG, hxG, hBg, hRg, p0, p1, p2, p3, p4⟩ := hcut
  subst hv2
  have HPG1 := Lib.hid hpG
  have HNG1 := Lib.hid hnG
  have HOG1_2 := Lib.hid (hoG.base HB1.out.size)
  have HXp_G1 := Lib.hid hxG
  have HXc_G1 : Hid (w.heap.size ∉ G1.blks) := Lib.hid (fun hk => by have h1 := (hoG.lt _ hk).1; have h2 := cell_lt c0; simp only at h2; omega)
  have HXd_G1 : Hid (w.heap.size + 1 ∉ G1.blks) := Lib.hid (fun hk => by have h1 := (hoG.lt _ hk).1; have h2 := cell_lt d0; simp only at h2; omega)
  have HB2 := Lib.hid (HB1.out.trans (hRg.b.mono HB1.out.size))
  replace c0 := keep_below hRg.b c0
  replace c1 := keep_below hRg.b c1
  replace c2 := keep_below hRg.b c2
  replace c3 := keep_below hRg.b c3
  replace c4 := keep_below hRg.b c4
  replace d0 := keep_below hRg.b d0
  replace d1 := keep_below hRg.b d1
  clear hpG hoG hnG hxG hBg hRg
  have hbb : (bv != bv) = false := by cases bv <;> rfl
  go_wp2_with fail
  refine (HTVT.out _ HB2.out).mono ?_
  rintro e w3 ⟨X0, hp3, rfl, ho3, hn3, hb3⟩
  have HB3 := Lib.hid (HB2.out.trans (hb3.mono HB2.out.size))
  have HDX0_G1 : Hid (∀ k ∈ X0.blks, k ∉ G1.blks) := Lib.hid (fun k hk hk2 => by have h1 := (ho3.lt k hk).1; have h2 := (HOG1_2.out.lt k hk2).2; omega)
  have HDG1_X0 : Hid (∀ k ∈ G1.blks, k ∉ X0.blks) := Lib.hid (fun k hk hk2 => by have h1 := (ho3.lt k hk2).1; have h2 := (HOG1_2.out.lt k hk).2; omega)
  have HXc_X0 : Hid (w.heap.size ∉ X0.blks) := Lib.hid (fun hk => by have h1 := (ho3.lt _ hk).1; have h2 := cell_lt c0; simp only at h2; omega)
  have HXd_X0 : Hid (w.heap.size + 1 ∉ X0.blks) := Lib.hid (fun hk => by have h1 := (ho3.lt _ hk).1; have h2 := cell_lt d0; simp only at h2; omega)
  have HXp_X0 : Hid (Bp ∉ X0.blks) := Lib.hid (fun hk => by have h1 := (ho3.lt _ hk).1; have h2 := cell_lt p0; simp only at h2; omega)
  replace c0 := keep_below hb3 c0
  replace c1 := keep_below hb3 c1
  replace c2 := keep_below hb3 c2
  replace c3 := keep_below hb3 c3
  replace c4 := keep_below hb3 c4
  replace d0 := keep_below hb3 d0
  replace d1 := keep_below hb3 d1
  replace p0 := keep_below hb3 p0
  replace p1 := keep_below hb3 p1
  replace p2 := keep_below hb3 p2
  replace p3 := keep_below hb3 p3
  replace p4 := keep_below hb3 p4
  have HOG1_3 := Lib.hid (HOG1_2.out.blw hb3)
  clear HOG1_2
  have HPX0 := Lib.hid hp3
  have HOX0_3 := Lib.hid (ho3.base HB2.out.size)
  have HNX0 := Lib.hid hn3
  clear hp3 ho3 hn3
  clear hb3
  have HXq_G1 : Hid (w3.heap.size ∉ G1.blks) := Lib.hid (fun hk => by have h2 := (HOG1_3.out.lt _ hk).2; omega)
  have HXq_X0 : Hid (w3.heap.size ∉ X0.blks) := Lib.hid (fun hk => by have h2 := (HOX0_3.out.lt _ hk).2; omega)
  have hv4 := vbox w3 (.cells #[.int .i64 X0.k, .int .i64 X0.n, .int .i64 X0.x, .string ⟨X0.s.toArray⟩, .slice X0.a X0.l.length X0.cap] 26)
  have HB4 := Lib.hid (HB3.out.trans (hv4.mono HB3.out.size))
  replace c0 := keep_below hv4 c0
  replace c1 := keep_below hv4 c1
  replace c2 := keep_below hv4 c2
  replace c3 := keep_below hv4 c3
  replace c4 := keep_below hv4 c4
  replace d0 := keep_below hv4 d0
  replace d1 := keep_below hv4 d1
  replace p0 := keep_below hv4 p0
  replace p1 := keep_below hv4 p1
  replace p2 := keep_below hv4 p2
  replace p3 := keep_below hv4 p3
  replace p4 := keep_below hv4 p4
  have HOG1_4 := Lib.hid (HOG1_3.out.blw hv4)
  clear HOG1_3
  have HOX0_4 := Lib.hid (HOX0_3.out.blw hv4)
  clear HOX0_3
  obtain ⟨q0, q1, q2, q3, q4⟩ := vcells5 w3 X0 26
  clear hv4
  go_wp2_with fail
  generalize (w3.alloc (.cells #[.int .i64 X0.k, .int .i64 X0.n, .int .i64 X0.x, .string ⟨X0.s.toArray⟩, .slice X0.a X0.l.length X0.cap] 26)) = w4 at *
  go_cut [9, 10] from 31 (fun v0 v1 W' => v1 = .bool bv ∧ ∃ (X : AT) (B : Nat), v0 = .pointer (some ⟨B, 0, none⟩) ∧ X.pt = p ∧ X.Own W' w4.heap.size ∧ X.blks.Nodup ∧ B ∉ X.blks ∧ w4.heap.size ≤ B ∧ Rl w4 W' ∧ W'.cell? ⟨B, 0, none⟩ = some (.int .i64 X.k) ∧ W'.cell? ⟨B, 1, none⟩ = some (.int .i64 X.n) ∧ W'.cell? ⟨B, 2, none⟩ = some (.int .i64 X.x) ∧ W'.cell? ⟨B, 3, none⟩ = some (.string ⟨X.s.toArray⟩) ∧ W'.cell? ⟨B, 4, none⟩ = some (.slice X.a X.l.length X.cap))
  case first =>
    have HK := Lib.hid (fun (W' : World) (h : Rl w4 W') => (show Rl w4 W' ∧ W'.cell? ⟨w.heap.size, 0, none⟩ = some (.int .i64 T.k) ∧ W'.cell? ⟨w.heap.size, 1, none⟩ = some (.int .i64 T.n) ∧ W'.cell? ⟨w.heap.size, 2, none⟩ = some (.int .i64 T.x) ∧ W'.cell? ⟨w.heap.size, 3, none⟩ = some (.string ⟨T.s.toArray⟩) ∧ W'.cell? ⟨w.heap.size, 4, none⟩ = some (.slice T.a T.l.length T.cap) ∧ W'.cell? ⟨w.heap.size + 1, 0, none⟩ = some (.int .i64 sP.1) ∧ W'.cell? ⟨w.heap.size + 1, 1, none⟩ = some (.bool sP.2) ∧ W'.cell? ⟨Bp, 0, none⟩ = some (.int .i64 G1.k) ∧ W'.cell? ⟨Bp, 1, none⟩ = some (.int .i64 G1.n) ∧ W'.cell? ⟨Bp, 2, none⟩ = some (.int .i64 G1.x) ∧ W'.cell? ⟨Bp, 3, none⟩ = some (.string ⟨G1.s.toArray⟩) ∧ W'.cell? ⟨Bp, 4, none⟩ = some (.slice G1.a G1.l.length G1.cap) ∧ W'.cell? ⟨w3.heap.size, 0, none⟩ = some (.int .i64 X0.k) ∧ W'.cell? ⟨w3.heap.size, 1, none⟩ = some (.int .i64 X0.n) ∧ W'.cell? ⟨w3.heap.size, 2, none⟩ = some (.int .i64 X0.x) ∧ W'.cell? ⟨w3.heap.size, 3, none⟩ = some (.string ⟨X0.s.toArray⟩) ∧ W'.cell? ⟨w3.heap.size, 4, none⟩ = some (.slice X0.a X0.l.length X0.cap) ∧ Below w.heap.size w W' ∧ G1.Own W' w.heap.size ∧ X0.Own W' w.heap.size from ⟨h, keep_below h.b c0, keep_below h.b c1, keep_below h.b c2, keep_below h.b c3, keep_below h.b c4, keep_below h.b d0, keep_below h.b d1, keep_below h.b p0, keep_below h.b p1, keep_below h.b p2, keep_below h.b p3, keep_below h.b p4, keep_below h.b q0, keep_below h.b q1, keep_below h.b q2, keep_below h.b q3, keep_below h.b q4, HB4.out.trans (h.b.mono HB4.out.size), HOG1_4.out.blw h.b, HOX0_4.out.blw h.b⟩))
    go_region_held3 (fun W' => Rl w4 W' ∧ W'.cell? ⟨w.heap.size, 0, none⟩ = some (.int .i64 T.k) ∧ W'.cell? ⟨w.heap.size, 1, none⟩ = some (.int .i64 T.n) ∧ W'.cell? ⟨w.heap.size, 2, none⟩ = some (.int .i64 T.x) ∧ W'.cell? ⟨w.heap.size, 3, none⟩ = some (.string ⟨T.s.toArray⟩) ∧ W'.cell? ⟨w.heap.size, 4, none⟩ = some (.slice T.a T.l.length T.cap) ∧ W'.cell? ⟨w.heap.size + 1, 0, none⟩ = some (.int .i64 sP.1) ∧ W'.cell? ⟨w.heap.size + 1, 1, none⟩ = some (.bool sP.2) ∧ W'.cell? ⟨Bp, 0, none⟩ = some (.int .i64 G1.k) ∧ W'.cell? ⟨Bp, 1, none⟩ = some (.int .i64 G1.n) ∧ W'.cell? ⟨Bp, 2, none⟩ = some (.int .i64 G1.x) ∧ W'.cell? ⟨Bp, 3, none⟩ = some (.string ⟨G1.s.toArray⟩) ∧ W'.cell? ⟨Bp, 4, none⟩ = some (.slice G1.a G1.l.length G1.cap) ∧ W'.cell? ⟨w3.heap.size, 0, none⟩ = some (.int .i64 X0.k) ∧ W'.cell? ⟨w3.heap.size, 1, none⟩ = some (.int .i64 X0.n) ∧ W'.cell? ⟨w3.heap.size, 2, none⟩ = some (.int .i64 X0.x) ∧ W'.cell? ⟨w3.heap.size, 3, none⟩ = some (.string ⟨X0.s.toArray⟩) ∧ W'.cell? ⟨w3.heap.size, 4, none⟩ = some (.slice X0.a X0.l.length X0.cap) ∧ Below w.heap.size w W' ∧ G1.Own W' w.heap.size ∧ X0.Own W' w.heap.size) ((go_split_ands; refine HK.out _ ?_; first | with_reducible assumption | with_reducible exact (Rl.refl _).drew | with_reducible exact HRcc.out | with_reducible exact HRubc.out | with_reducible exact Rl.alloc (by assumption) _ | with_reducible exact Rl.alloc HRcc.out _ | with_reducible exact Rl.alloc HRubc.out _ | with_reducible exact (Rl.alloc (Rl.refl _) _).drew | with_reducible exact Rl.drew (by assumption) | with_reducible exact Rl.five (by assumption) HRubc.out.z | with_reducible exact Rl.five (by assumption) (Nat.le_refl _))) ((first | (go_at_call 69; go_split_ands; refine (HTVP.out _).mono ?_; rintro e ubc ⟨rfl, hbubc⟩; have HRubc := Lib.hid (Rl.below (W0 := w4) (by assumption) hbubc); (first | (have hz := mboxD hbubc; obtain ⟨z0, z1, z2, z3, z4, zf⟩ := hz) | (have hz := mbox hbubc; obtain ⟨z0, z1, z2, z3, z4, zf⟩ := hz) | skip)) | (go_at_call 70; go_split_ands; refine (HCI.out X0 HPX0.out _ _ (by assumption)).mono ?_; rintro e wac ⟨G0, hpc, rfl, hoc, hnc, hbc⟩; have HPG0 := Lib.hid hpc; have HOOG0 := Lib.hid hoc; have HNG0 := Lib.hid hnc; clear hpc hoc hnc; have HRcc := Lib.hid (Rl.below (W0 := w4) (by assumption) hbc); (first | (have hz := mboxD hbc; obtain ⟨z0, z1, z2, z3, z4, zf⟩ := hz) | (have hz := mbox hbc; obtain ⟨z0, z1, z2, z3, z4, zf⟩ := hz) | (have hz := mboxK hbc z0 z1 z2 z3 z4 zf; obtain ⟨z0, z1, z2, z3, z4, zf⟩ := hz) | skip))))
    all_goals (go_wp2_with fail; go_meet; (first | with_reducible exact ⟨rfl, G0, _, rfl, HPG0.out, leaf_last HRcc.out (by first | exact HRubc.out.z | (have hq1 := HRubc.out.z; simp; omega)) HOOG0.out HNG0.out⟩ | with_reducible exact ⟨rfl, G0, _, rfl, HPG0.out, leaf_early HRcc.out HRubc.out.z (by first | exact HRubc.out.z | (have hq1 := HRubc.out.z; simp; omega)) (by first | (simp; done) | (have hq1 := hbubc.size; simp at hq1; omega)) HOOG0.out HNG0.out z0 z1 z2 z3 z4⟩ | with_reducible exact ⟨rfl, G0, _, rfl, HPG0.out, leaf_early HRcc.out (Nat.le_refl _) (by first | exact HRubc.out.z | (have hq1 := HRubc.out.z; simp; omega)) (by first | (simp; done) | (have hq1 := hbubc.size; simp at hq1; omega)) HOOG0.out HNG0.out z0 z1 z2 z3 z4⟩))
  obtain ⟨hv5, G0, Bg, rfl, hpG, hoG, hnG, hxG, hBg, hRg, g0, g1, g2, g3, g4⟩ := hcut
  subst hv5
  have HPG0 := Lib.hid hpG
  have HNG0 := Lib.hid hnG
  have HOG0_5 := Lib.hid (hoG.base HB4.out.size)
  have HXg_G0 := Lib.hid hxG
  have HXc_G0 : Hid (w.heap.size ∉ G0.blks) := Lib.hid (fun hk => by have h1 := (hoG.lt _ hk).1; have h2 := cell_lt c0; simp only at h2; omega)
  have HXd_G0 : Hid (w.heap.size + 1 ∉ G0.blks) := Lib.hid (fun hk => by have h1 := (hoG.lt _ hk).1; have h2 := cell_lt d0; simp only at h2; omega)
  have HXp_G0 : Hid (Bp ∉ G0.blks) := Lib.hid (fun hk => by have h1 := (hoG.lt _ hk).1; have h2 := cell_lt p0; simp only at h2; omega)
  have HXq_G0 : Hid (w3.heap.size ∉ G0.blks) := Lib.hid (fun hk => by have h1 := (hoG.lt _ hk).1; have h2 := cell_lt q0; simp only at h2; omega)
  have HDG0_G1 : Hid (∀ k ∈ G0.blks, k ∉ G1.blks) := Lib.hid (fun k hk hk2 => by have h1 := (hoG.lt k hk).1; have h2 := (HOG1_4.out.lt k hk2).2; omega)
  have HDG1_G0 : Hid (∀ k ∈ G1.blks, k ∉ G0.blks) := Lib.hid (fun k hk hk2 => by have h1 := (hoG.lt k hk2).1; have h2 := (HOG1_4.out.lt k hk).2; omega)
  have HXg_G1 : Hid (Bg ∉ G1.blks) := Lib.hid (fun hk => by have h2 := (HOG1_4.out.lt _ hk).2; omega)
  have HDG0_X0 : Hid (∀ k ∈ G0.blks, k ∉ X0.blks) := Lib.hid (fun k hk hk2 => by have h1 := (hoG.lt k hk).1; have h2 := (HOX0_4.out.lt k hk2).2; omega)
  have HDX0_G0 : Hid (∀ k ∈ X0.blks, k ∉ G0.blks) := Lib.hid (fun k hk hk2 => by have h1 := (hoG.lt k hk2).1; have h2 := (HOX0_4.out.lt k hk).2; omega)
  have HXg_X0 : Hid (Bg ∉ X0.blks) := Lib.hid (fun hk => by have h2 := (HOX0_4.out.lt _ hk).2; omega)
  have HB5 := Lib.hid (HB4.out.trans (hRg.b.mono HB4.out.size))
  replace c0 := keep_below hRg.b c0
  replace c1 := keep_below hRg.b c1
  replace c2 := keep_below hRg.b c2
  replace c3 := keep_below hRg.b c3
  replace c4 := keep_below hRg.b c4
  replace d0 := keep_below hRg.b d0
  replace d1 := keep_below hRg.b d1
  replace p0 := keep_below hRg.b p0
  replace p1 := keep_below hRg.b p1
  replace p2 := keep_below hRg.b p2
  replace p3 := keep_below hRg.b p3
  replace p4 := keep_below hRg.b p4
  replace q0 := keep_below hRg.b q0
  replace q1 := keep_below hRg.b q1
  replace q2 := keep_below hRg.b q2
  replace q3 := keep_below hRg.b q3
  replace q4 := keep_below hRg.b q4
  have HOG1_5 := Lib.hid (HOG1_4.out.blw hRg.b)
  clear HOG1_4
  have HOX0_5 := Lib.hid (HOX0_4.out.blw hRg.b)
  clear HOX0_4
  clear hpG hoG hnG hxG hBg hRg
  go_wp2_with fail
  refine (HER.out G0 G1 HPG0.out HPG1.out _ HOG0_5.out.in HOG1_5.out.in).mono ?_
  rintro e w6 ⟨rfl, hb6⟩
  have HB6 := Lib.hid (HB5.out.trans (hb6.mono HB5.out.size))
  replace c0 := keep_below hb6 c0
  replace c1 := keep_below hb6 c1
  replace c2 := keep_below hb6 c2
  replace c3 := keep_below hb6 c3
  replace c4 := keep_below hb6 c4
  replace d0 := keep_below hb6 d0
  replace d1 := keep_below hb6 d1
  replace p0 := keep_below hb6 p0
  replace p1 := keep_below hb6 p1
  replace p2 := keep_below hb6 p2
  replace p3 := keep_below hb6 p3
  replace p4 := keep_below hb6 p4
  replace q0 := keep_below hb6 q0
  replace q1 := keep_below hb6 q1
  replace q2 := keep_below hb6 q2
  replace q3 := keep_below hb6 q3
  replace q4 := keep_below hb6 q4
  replace g0 := keep_below hb6 g0
  replace g1 := keep_below hb6 g1
  replace g2 := keep_below hb6 g2
  replace g3 := keep_below hb6 g3
  replace g4 := keep_below hb6 g4
  have HOG1_6 := Lib.hid (HOG1_5.out.blw hb6)
  clear HOG1_5
  have HOX0_6 := Lib.hid (HOX0_5.out.blw hb6)
  clear HOX0_5
  have HOG0_6 := Lib.hid (HOG0_5.out.blw hb6)
  clear HOG0_5
  clear hb6
  go_wp2_with fail
  have hownG1 := HOG1_6.out
  have hownX0 := HOX0_6.out
  have hownG0 := HOG0_6.out
  have hbel := HB6.out
  go_region_held3 (fun W' => W'.cell? ⟨w.heap.size, 0, none⟩ = some (.int .i64 T.k) ∧ W'.cell? ⟨w.heap.size, 1, none⟩ = some (.int .i64 T.n) ∧ W'.cell? ⟨w.heap.size, 2, none⟩ = some (.int .i64 T.x) ∧ W'.cell? ⟨w.heap.size, 3, none⟩ = some (.string ⟨T.s.toArray⟩) ∧ W'.cell? ⟨w.heap.size, 4, none⟩ = some (.slice T.a T.l.length T.cap) ∧ W'.cell? ⟨w.heap.size + 1, 0, none⟩ = some (.int .i64 sP.1) ∧ W'.cell? ⟨w.heap.size + 1, 1, none⟩ = some (.bool sP.2) ∧ W'.cell? ⟨Bp, 0, none⟩ = some (.int .i64 G1.k) ∧ W'.cell? ⟨Bp, 1, none⟩ = some (.int .i64 G1.n) ∧ W'.cell? ⟨Bp, 2, none⟩ = some (.int .i64 G1.x) ∧ W'.cell? ⟨Bp, 3, none⟩ = some (.string ⟨G1.s.toArray⟩) ∧ W'.cell? ⟨Bp, 4, none⟩ = some (.slice G1.a G1.l.length G1.cap) ∧ W'.cell? ⟨w3.heap.size, 0, none⟩ = some (.int .i64 X0.k) ∧ W'.cell? ⟨w3.heap.size, 1, none⟩ = some (.int .i64 X0.n) ∧ W'.cell? ⟨w3.heap.size, 2, none⟩ = some (.int .i64 X0.x) ∧ W'.cell? ⟨w3.heap.size, 3, none⟩ = some (.string ⟨X0.s.toArray⟩) ∧ W'.cell? ⟨w3.heap.size, 4, none⟩ = some (.slice X0.a X0.l.length X0.cap) ∧ W'.cell? ⟨Bg, 0, none⟩ = some (.int .i64 G0.k) ∧ W'.cell? ⟨Bg, 1, none⟩ = some (.int .i64 G0.n) ∧ W'.cell? ⟨Bg, 2, none⟩ = some (.int .i64 G0.x) ∧ W'.cell? ⟨Bg, 3, none⟩ = some (.string ⟨G0.s.toArray⟩) ∧ W'.cell? ⟨Bg, 4, none⟩ = some (.slice G0.a G0.l.length G0.cap) ∧ Below w.heap.size w W' ∧ G1.Own W' w.heap.size ∧ X0.Own W' w.heap.size ∧ G0.Own W' w.heap.size) ((refine ⟨?_, ?_, ?_, ?_, ?_, ?_, ?_, ?_, ?_, ?_, ?_, ?_, ?_, ?_, ?_, ?_, ?_, ?_, ?_, ?_, ?_, ?_, ?_, ?_, ?_, ?_⟩ <;> first | assumption | (refine Below.drew ?_; assumption) | (refine AT.Own.drew ?_; assumption) | exact keep_below (by assumption) (by assumption) | exact below_tr (by assumption) (by assumption) | exact own_blw (by assumption) (by assumption) | (refine SR.Own.drew ?_; assumption) | exact sown_blw (by assumption) (by assumption))) ((first | (go_at_call 64; go_split_ands; ((with_reducible refine (HTVT.out _ (by assumption)).mono ?_); rintro e u0 ⟨Y0, hpu0, rfl, hou0, hnu0, hbu0⟩; have HOu0 := Lib.hid hou0; have HPu0 := Lib.hid hpu0; clear hou0 hnu0 hpu0)) | (go_at_call 65; go_split_ands; refine (HEQT.out X0 Y0 HPX0.out HPu0.out _ (AT.Own.in (by assumption)) HOu0.out.in).mono ?_; rintro e v0 ⟨rfl, hbv0⟩)))
  go_split_ands
  replace c0 : v0.cell? ⟨w.heap.size, 0, none⟩ = some (.int .i64 T.k) := by assumption
  replace c1 : v0.cell? ⟨w.heap.size, 1, none⟩ = some (.int .i64 T.n) := by assumption
  replace c2 : v0.cell? ⟨w.heap.size, 2, none⟩ = some (.int .i64 T.x) := by assumption
  replace c3 : v0.cell? ⟨w.heap.size, 3, none⟩ = some (.string ⟨T.s.toArray⟩) := by assumption
  replace c4 : v0.cell? ⟨w.heap.size, 4, none⟩ = some (.slice T.a T.l.length T.cap) := by assumption
  replace d0 : v0.cell? ⟨w.heap.size + 1, 0, none⟩ = some (.int .i64 sP.1) := by assumption
  replace d1 : v0.cell? ⟨w.heap.size + 1, 1, none⟩ = some (.bool sP.2) := by assumption
  replace p0 : v0.cell? ⟨Bp, 0, none⟩ = some (.int .i64 G1.k) := by assumption
  replace p1 : v0.cell? ⟨Bp, 1, none⟩ = some (.int .i64 G1.n) := by assumption
  replace p2 : v0.cell? ⟨Bp, 2, none⟩ = some (.int .i64 G1.x) := by assumption
  replace p3 : v0.cell? ⟨Bp, 3, none⟩ = some (.string ⟨G1.s.toArray⟩) := by assumption
  replace p4 : v0.cell? ⟨Bp, 4, none⟩ = some (.slice G1.a G1.l.length G1.cap) := by assumption
  replace q0 : v0.cell? ⟨w3.heap.size, 0, none⟩ = some (.int .i64 X0.k) := by assumption
  replace q1 : v0.cell? ⟨w3.heap.size, 1, none⟩ = some (.int .i64 X0.n) := by assumption
  replace q2 : v0.cell? ⟨w3.heap.size, 2, none⟩ = some (.int .i64 X0.x) := by assumption
  replace q3 : v0.cell? ⟨w3.heap.size, 3, none⟩ = some (.string ⟨X0.s.toArray⟩) := by assumption
  replace q4 : v0.cell? ⟨w3.heap.size, 4, none⟩ = some (.slice X0.a X0.l.length X0.cap) := by assumption
  replace g0 : v0.cell? ⟨Bg, 0, none⟩ = some (.int .i64 G0.k) := by assumption
  replace g1 : v0.cell? ⟨Bg, 1, none⟩ = some (.int .i64 G0.n) := by assumption
  replace g2 : v0.cell? ⟨Bg, 2, none⟩ = some (.int .i64 G0.x) := by assumption
  replace g3 : v0.cell? ⟨Bg, 3, none⟩ = some (.string ⟨G0.s.toArray⟩) := by assumption
  replace g4 : v0.cell? ⟨Bg, 4, none⟩ = some (.slice G0.a G0.l.length G0.cap) := by assumption
  have HB7 : Hid (Below w.heap.size w v0) := Lib.hid (by assumption)
  have HOG1_7 : Hid (G1.Own v0 w.heap.size) := Lib.hid (by assumption)
  have HOX0_7 : Hid (X0.Own v0 w.heap.size) := Lib.hid (by assumption)
  have HOG0_7 : Hid (G0.Own v0 w.heap.size) := Lib.hid (by assumption)
  clear hbel hownG1 hownX0 hownG0
  go_wp2_with fail
  refine (mark_tree X0 _ _ HOX0_7.out HNX0.out (HCAT.out X0 HPX0.out)).mono ?_
  rintro e w8 ⟨⟨rfl, -⟩, hbs8⟩
  have HB8 := Lib.hid (HB7.out.trans (hbs8.below (fun k hk => (HOX0_7.out.lt k hk).1) HB7.out.size))
  replace c0 := hbs8.cell HXc_X0.out c0
  replace c1 := hbs8.cell HXc_X0.out c1
  replace c2 := hbs8.cell HXc_X0.out c2
  replace c3 := hbs8.cell HXc_X0.out c3
  replace c4 := hbs8.cell HXc_X0.out c4
  replace d0 := hbs8.cell HXd_X0.out d0
  replace d1 := hbs8.cell HXd_X0.out d1
  replace p0 := hbs8.cell HXp_X0.out p0
  replace p1 := hbs8.cell HXp_X0.out p1
  replace p2 := hbs8.cell HXp_X0.out p2
  replace p3 := hbs8.cell HXp_X0.out p3
  replace p4 := hbs8.cell HXp_X0.out p4
  replace q0 := hbs8.cell HXq_X0.out q0
  replace q1 := hbs8.cell HXq_X0.out q1
  replace q2 := hbs8.cell HXq_X0.out q2
  replace q3 := hbs8.cell HXq_X0.out q3
  replace q4 := hbs8.cell HXq_X0.out q4
  replace g0 := hbs8.cell HXg_X0.out g0
  replace g1 := hbs8.cell HXg_X0.out g1
  replace g2 := hbs8.cell HXg_X0.out g2
  replace g3 := hbs8.cell HXg_X0.out g3
  replace g4 := hbs8.cell HXg_X0.out g4
  have HOG1_8 := Lib.hid (HOG1_7.out.onlyBs hbs8 HDG1_X0.out)
  clear HOG1_7
  have HOG0_8 := Lib.hid (HOG0_7.out.onlyBs hbs8 HDG0_X0.out)
  clear HOG0_7
  clear hbs8 HOX0_7
  rw [HCBT.out X0 HPX0.out, ← HM0.out]
  go_wp2_with fail
  refine (HER.out G0 G1 HPG0.out HPG1.out _ HOG0_8.out.in HOG1_8.out.in).mono ?_
  rintro e w9 ⟨rfl, hb9⟩
  have HB9 := Lib.hid (HB8.out.trans (hb9.mono HB8.out.size))
  replace c0 := keep_below hb9 c0
  replace c1 := keep_below hb9 c1
  replace c2 := keep_below hb9 c2
  replace c3 := keep_below hb9 c3
  replace c4 := keep_below hb9 c4
  replace d0 := keep_below hb9 d0
  replace d1 := keep_below hb9 d1
  replace p0 := keep_below hb9 p0
  replace p1 := keep_below hb9 p1
  replace p2 := keep_below hb9 p2
  replace p3 := keep_below hb9 p3
  replace p4 := keep_below hb9 p4
  replace q0 := keep_below hb9 q0
  replace q1 := keep_below hb9 q1
  replace q2 := keep_below hb9 q2
  replace q3 := keep_below hb9 q3
  replace q4 := keep_below hb9 q4
  replace g0 := keep_below hb9 g0
  replace g1 := keep_below hb9 g1
  replace g2 := keep_below hb9 g2
  replace g3 := keep_below hb9 g3
  replace g4 := keep_below hb9 g4
  have HOG1_9 := Lib.hid (HOG1_8.out.blw hb9)
  clear HOG1_8
  have HOG0_9 := Lib.hid (HOG0_8.out.blw hb9)
  clear HOG0_8
  clear hb9
  go_wp2_with fail
  refine (mark_tree G0 _ _ HOG0_9.out HNG0.out (HCN.out G0 HPG0.out)).mono ?_
  rintro e w10 ⟨⟨rfl, hm10⟩, hbs10⟩
  have HB10 := Lib.hid (HB9.out.trans (hbs10.below (fun k hk => (HOG0_9.out.lt k hk).1) HB9.out.size))
  replace c0 := hbs10.cell HXc_G0.out c0
  replace c1 := hbs10.cell HXc_G0.out c1
  replace c2 := hbs10.cell HXc_G0.out c2
  replace c3 := hbs10.cell HXc_G0.out c3
  replace c4 := hbs10.cell HXc_G0.out c4
  replace d0 := hbs10.cell HXd_G0.out d0
  replace d1 := hbs10.cell HXd_G0.out d1
  replace p0 := hbs10.cell HXp_G0.out p0
  replace p1 := hbs10.cell HXp_G0.out p1
  replace p2 := hbs10.cell HXp_G0.out p2
  replace p3 := hbs10.cell HXp_G0.out p3
  replace p4 := hbs10.cell HXp_G0.out p4
  replace q0 := hbs10.cell HXq_G0.out q0
  replace q1 := hbs10.cell HXq_G0.out q1
  replace q2 := hbs10.cell HXq_G0.out q2
  replace q3 := hbs10.cell HXq_G0.out q3
  replace q4 := hbs10.cell HXq_G0.out q4
  replace g0 := hbs10.cell HXg_G0.out g0
  replace g1 := hbs10.cell HXg_G0.out g1
  replace g2 := hbs10.cell HXg_G0.out g2
  replace g3 := hbs10.cell HXg_G0.out g3
  replace g4 := hbs10.cell HXg_G0.out g4
  have HOG1_10 := Lib.hid (HOG1_9.out.onlyBs hbs10 HDG1_G0.out)
  clear HOG1_9
  have HMG0_10 := Lib.hid hm10
  clear hm10
  clear hbs10 HOG0_9
  rw [HCC.out G0 HPG0.out, ← HMM.out]
  go_wp2_with fail
  refine (held_tree G0 _ _ HMG0_10.out (HCN.out G0 HPG0.out)).mono ?_
  rintro e w11 ⟨rfl, hb11⟩
  have HB11 := Lib.hid (HB10.out.trans (hb11.mono HB10.out.size))
  replace c0 := keep_below hb11 c0
  replace c1 := keep_below hb11 c1
  replace c2 := keep_below hb11 c2
  replace c3 := keep_below hb11 c3
  replace c4 := keep_below hb11 c4
  replace d0 := keep_below hb11 d0
  replace d1 := keep_below hb11 d1
  replace p0 := keep_below hb11 p0
  replace p1 := keep_below hb11 p1
  replace p2 := keep_below hb11 p2
  replace p3 := keep_below hb11 p3
  replace p4 := keep_below hb11 p4
  replace q0 := keep_below hb11 q0
  replace q1 := keep_below hb11 q1
  replace q2 := keep_below hb11 q2
  replace q3 := keep_below hb11 q3
  replace q4 := keep_below hb11 q4
  replace g0 := keep_below hb11 g0
  replace g1 := keep_below hb11 g1
  replace g2 := keep_below hb11 g2
  replace g3 := keep_below hb11 g3
  replace g4 := keep_below hb11 g4
  have HOG1_11 := Lib.hid (HOG1_10.out.blw hb11)
  clear HOG1_10
  have HMG0_11 := Lib.hid (HMG0_10.out.blw hb11)
  clear HMG0_10
  clear hb11
  rw [HCC.out G0 HPG0.out, ← HMM.out]
  go_upto_region 24 with fail
  go_cut [14, 15] from 79 (fun v0 v1 W' => v1 = .bool bv ∧ ∃ (X : AT) (B : Nat), v0 = .pointer (some ⟨B, 0, none⟩) ∧ X.pt = p ∧ X.Own W' w11.heap.size ∧ X.blks.Nodup ∧ B ∉ X.blks ∧ w11.heap.size ≤ B ∧ Rl w11 W' ∧ W'.cell? ⟨B, 0, none⟩ = some (.int .i64 X.k) ∧ W'.cell? ⟨B, 1, none⟩ = some (.int .i64 X.n) ∧ W'.cell? ⟨B, 2, none⟩ = some (.int .i64 X.x) ∧ W'.cell? ⟨B, 3, none⟩ = some (.string ⟨X.s.toArray⟩) ∧ W'.cell? ⟨B, 4, none⟩ = some (.slice X.a X.l.length X.cap))
  case first =>
    have HK := Lib.hid (fun (W' : World) (h : Rl w11 W') => (show Rl w11 W' ∧ W'.cell? ⟨w.heap.size, 0, none⟩ = some (.int .i64 T.k) ∧ W'.cell? ⟨w.heap.size, 1, none⟩ = some (.int .i64 T.n) ∧ W'.cell? ⟨w.heap.size, 2, none⟩ = some (.int .i64 T.x) ∧ W'.cell? ⟨w.heap.size, 3, none⟩ = some (.string ⟨T.s.toArray⟩) ∧ W'.cell? ⟨w.heap.size, 4, none⟩ = some (.slice T.a T.l.length T.cap) ∧ W'.cell? ⟨w.heap.size + 1, 0, none⟩ = some (.int .i64 sP.1) ∧ W'.cell? ⟨w.heap.size + 1, 1, none⟩ = some (.bool sP.2) ∧ W'.cell? ⟨Bp, 0, none⟩ = some (.int .i64 G1.k) ∧ W'.cell? ⟨Bp, 1, none⟩ = some (.int .i64 G1.n) ∧ W'.cell? ⟨Bp, 2, none⟩ = some (.int .i64 G1.x) ∧ W'.cell? ⟨Bp, 3, none⟩ = some (.string ⟨G1.s.toArray⟩) ∧ W'.cell? ⟨Bp, 4, none⟩ = some (.slice G1.a G1.l.length G1.cap) ∧ W'.cell? ⟨w3.heap.size, 0, none⟩ = some (.int .i64 X0.k) ∧ W'.cell? ⟨w3.heap.size, 1, none⟩ = some (.int .i64 X0.n) ∧ W'.cell? ⟨w3.heap.size, 2, none⟩ = some (.int .i64 X0.x) ∧ W'.cell? ⟨w3.heap.size, 3, none⟩ = some (.string ⟨X0.s.toArray⟩) ∧ W'.cell? ⟨w3.heap.size, 4, none⟩ = some (.slice X0.a X0.l.length X0.cap) ∧ W'.cell? ⟨Bg, 0, none⟩ = some (.int .i64 G0.k) ∧ W'.cell? ⟨Bg, 1, none⟩ = some (.int .i64 G0.n) ∧ W'.cell? ⟨Bg, 2, none⟩ = some (.int .i64 G0.x) ∧ W'.cell? ⟨Bg, 3, none⟩ = some (.string ⟨G0.s.toArray⟩) ∧ W'.cell? ⟨Bg, 4, none⟩ = some (.slice G0.a G0.l.length G0.cap) ∧ Below w.heap.size w W' ∧ G1.Own W' w.heap.size ∧ OwnL W' w.heap.size G0.a G0.cap (AT.markL 1 G0.l) from ⟨h, keep_below h.b c0, keep_below h.b c1, keep_below h.b c2, keep_below h.b c3, keep_below h.b c4, keep_below h.b d0, keep_below h.b d1, keep_below h.b p0, keep_below h.b p1, keep_below h.b p2, keep_below h.b p3, keep_below h.b p4, keep_below h.b q0, keep_below h.b q1, keep_below h.b q2, keep_below h.b q3, keep_below h.b q4, keep_below h.b g0, keep_below h.b g1, keep_below h.b g2, keep_below h.b g3, keep_below h.b g4, HB11.out.trans (h.b.mono HB11.out.size), HOG1_11.out.blw h.b, HMG0_11.out.blw h.b⟩))
    go_region_held3 (fun W' => Rl w11 W' ∧ W'.cell? ⟨w.heap.size, 0, none⟩ = some (.int .i64 T.k) ∧ W'.cell? ⟨w.heap.size, 1, none⟩ = some (.int .i64 T.n) ∧ W'.cell? ⟨w.heap.size, 2, none⟩ = some (.int .i64 T.x) ∧ W'.cell? ⟨w.heap.size, 3, none⟩ = some (.string ⟨T.s.toArray⟩) ∧ W'.cell? ⟨w.heap.size, 4, none⟩ = some (.slice T.a T.l.length T.cap) ∧ W'.cell? ⟨w.heap.size + 1, 0, none⟩ = some (.int .i64 sP.1) ∧ W'.cell? ⟨w.heap.size + 1, 1, none⟩ = some (.bool sP.2) ∧ W'.cell? ⟨Bp, 0, none⟩ = some (.int .i64 G1.k) ∧ W'.cell? ⟨Bp, 1, none⟩ = some (.int .i64 G1.n) ∧ W'.cell? ⟨Bp, 2, none⟩ = some (.int .i64 G1.x) ∧ W'.cell? ⟨Bp, 3, none⟩ = some (.string ⟨G1.s.toArray⟩) ∧ W'.cell? ⟨Bp, 4, none⟩ = some (.slice G1.a G1.l.length G1.cap) ∧ W'.cell? ⟨w3.heap.size, 0, none⟩ = some (.int .i64 X0.k) ∧ W'.cell? ⟨w3.heap.size, 1, none⟩ = some (.int .i64 X0.n) ∧ W'.cell? ⟨w3.heap.size, 2, none⟩ = some (.int .i64 X0.x) ∧ W'.cell? ⟨w3.heap.size, 3, none⟩ = some (.string ⟨X0.s.toArray⟩) ∧ W'.cell? ⟨w3.heap.size, 4, none⟩ = some (.slice X0.a X0.l.length X0.cap) ∧ W'.cell? ⟨Bg, 0, none⟩ = some (.int .i64 G0.k) ∧ W'.cell? ⟨Bg, 1, none⟩ = some (.int .i64 G0.n) ∧ W'.cell? ⟨Bg, 2, none⟩ = some (.int .i64 G0.x) ∧ W'.cell? ⟨Bg, 3, none⟩ = some (.string ⟨G0.s.toArray⟩) ∧ W'.cell? ⟨Bg, 4, none⟩ = some (.slice G0.a G0.l.length G0.cap) ∧ Below w.heap.size w W' ∧ G1.Own W' w.heap.size ∧ OwnL W' w.heap.size G0.a G0.cap (AT.markL 1 G0.l)) ((go_split_ands; refine HK.out _ ?_; first | with_reducible assumption | with_reducible exact (Rl.refl _).drew | with_reducible exact HRcb.out | with_reducible exact HRubb.out | with_reducible exact HRuab.out | with_reducible exact Rl.alloc (by assumption) _ | with_reducible exact Rl.alloc HRcb.out _ | with_reducible exact Rl.alloc HRubb.out _ | with_reducible exact Rl.alloc HRuab.out _ | with_reducible exact (Rl.alloc (Rl.refl _) _).drew | with_reducible exact Rl.drew (by assumption) | with_reducible exact Rl.five (by assumption) HRubb.out.z | with_reducible exact Rl.five (by assumption) HRuab.out.z | with_reducible exact Rl.five (by assumption) (Nat.le_refl _))) ((first | (go_at_call 64; go_split_ands; ((with_reducible refine (HTVT.out _ (by assumption)).mono ?_); rintro e uab ⟨Yab, hpuab, rfl, houab, hnuab, hbuab⟩; have HOuab := Lib.hid houab; have HPuab := Lib.hid hpuab; clear houab hnuab hpuab); have HRuab := Lib.hid (Rl.below (W0 := w11) (by assumption) hbuab); (first | (have hz := mboxD hbuab; obtain ⟨z0, z1, z2, z3, z4, zf⟩ := hz) | (have hz := mbox hbuab; obtain ⟨z0, z1, z2, z3, z4, zf⟩ := hz) | skip)) | (go_at_call 69; go_split_ands; refine (HTVP.out _).mono ?_; rintro e ubb ⟨rfl, hbubb⟩; have HRubb := Lib.hid (Rl.below (W0 := w11) (by assumption) hbubb); (first | have HOYa1b := Lib.hid (own_blw hbubb HOuab.out) | have HOYa1b := Lib.hid (own_blw hbubb (own_alloc HOuab.out))); (first | (have hz := mboxD hbubb; obtain ⟨z0, z1, z2, z3, z4, zf⟩ := hz) | (have hz := mbox hbubb; obtain ⟨z0, z1, z2, z3, z4, zf⟩ := hz) | (have hz := mboxK hbubb z0 z1 z2 z3 z4 zf; obtain ⟨z0, z1, z2, z3, z4, zf⟩ := hz) | skip)) | (go_at_call 70; go_split_ands; refine (HCI.out Yab HPuab.out _ _ (by first | exact HOYa1b.out | exact own_alloc HOYa1b.out)).mono ?_; rintro e wab ⟨H0, hpb, rfl, hob, hnb, hbb⟩; have HPH0 := Lib.hid hpb; have HOOH0 := Lib.hid hob; have HNH0 := Lib.hid hnb; clear hpb hob hnb; have HRcb := Lib.hid (Rl.below (W0 := w11) (by assumption) hbb); (first | (have hz := mboxD hbb; obtain ⟨z0, z1, z2, z3, z4, zf⟩ := hz) | (have hz := mbox hbb; obtain ⟨z0, z1, z2, z3, z4, zf⟩ := hz) | (have hz := mboxK hbb z0 z1 z2 z3 z4 zf; obtain ⟨z0, z1, z2, z3, z4, zf⟩ := hz) | skip))))
    all_goals (go_wp2_with fail; go_meet; (first | with_reducible exact ⟨rfl, H0, _, rfl, HPH0.out, leaf_last HRcb.out (by first | exact HRubb.out.z | exact HRuab.out.z | (have hq1 := HRubb.out.z; simp; omega) | (have hq1 := HRuab.out.z; simp; omega)) HOOH0.out HNH0.out⟩ | with_reducible exact ⟨rfl, H0, _, rfl, HPH0.out, leaf_early HRcb.out HRubb.out.z (by first | exact HRubb.out.z | exact HRuab.out.z | (have hq1 := HRubb.out.z; simp; omega) | (have hq1 := HRuab.out.z; simp; omega)) (by first | (simp; done) | (have hq1 := hbubb.size; simp at hq1; omega) | (have hq0 := hbuab.size; have hq1 := hbubb.size; simp at hq0 hq1; omega)) HOOH0.out HNH0.out z0 z1 z2 z3 z4⟩ | with_reducible exact ⟨rfl, H0, _, rfl, HPH0.out, leaf_early HRcb.out HRuab.out.z (by first | exact HRubb.out.z | exact HRuab.out.z | (have hq1 := HRubb.out.z; simp; omega) | (have hq1 := HRuab.out.z; simp; omega)) (by first | (simp; done) | (have hq1 := hbubb.size; simp at hq1; omega) | (have hq0 := hbuab.size; have hq1 := hbubb.size; simp at hq0 hq1; omega)) HOOH0.out HNH0.out z0 z1 z2 z3 z4⟩ | with_reducible exact ⟨rfl, H0, _, rfl, HPH0.out, leaf_early HRcb.out (Nat.le_refl _) (by first | exact HRubb.out.z | exact HRuab.out.z | (have hq1 := HRubb.out.z; simp; omega) | (have hq1 := HRuab.out.z; simp; omega)) (by first | (simp; done) | (have hq1 := hbubb.size; simp at hq1; omega) | (have hq0 := hbuab.size; have hq1 := hbubb.size; simp at hq0 hq1; omega)) HOOH0.out HNH0.out z0 z1 z2 z3 z4⟩))
  obtain ⟨hv12, H0, Bt, rfl, hpG, hoG, hnG, hxG, hBg, hRg, t0, t1, t2, t3, t4⟩ := hcut
  subst hv12
  have HPH0 := Lib.hid hpG
  have HNH0 := Lib.hid hnG
  have HOH0_12 := Lib.hid (hoG.base HB11.out.size)
  have HXt_H0 := Lib.hid hxG
  have HXc_H0 : Hid (w.heap.size ∉ H0.blks) := Lib.hid (fun hk => by have h1 := (hoG.lt _ hk).1; have h2 := cell_lt c0; simp only at h2; omega)
  have HXd_H0 : Hid (w.heap.size + 1 ∉ H0.blks) := Lib.hid (fun hk => by have h1 := (hoG.lt _ hk).1; have h2 := cell_lt d0; simp only at h2; omega)
  have HXp_H0 : Hid (Bp ∉ H0.blks) := Lib.hid (fun hk => by have h1 := (hoG.lt _ hk).1; have h2 := cell_lt p0; simp only at h2; omega)
  have HXq_H0 : Hid (w3.heap.size ∉ H0.blks) := Lib.hid (fun hk => by have h1 := (hoG.lt _ hk).1; have h2 := cell_lt q0; simp only at h2; omega)
  have HXg_H0 : Hid (Bg ∉ H0.blks) := Lib.hid (fun hk => by have h1 := (hoG.lt _ hk).1; have h2 := cell_lt g0; simp only at h2; omega)
  have HDH0_G1 : Hid (∀ k ∈ H0.blks, k ∉ G1.blks) := Lib.hid (fun k hk hk2 => by have h1 := (hoG.lt k hk).1; have h2 := (HOG1_11.out.lt k hk2).2; omega)
  have HDG1_H0 : Hid (∀ k ∈ G1.blks, k ∉ H0.blks) := Lib.hid (fun k hk hk2 => by have h1 := (hoG.lt k hk2).1; have h2 := (HOG1_11.out.lt k hk).2; omega)
  have HXt_G1 : Hid (Bt ∉ G1.blks) := Lib.hid (fun hk => by have h2 := (HOG1_11.out.lt _ hk).2; omega)
  have HB12 := Lib.hid (HB11.out.trans (hRg.b.mono HB11.out.size))
  replace c0 := keep_below hRg.b c0
  replace c1 := keep_below hRg.b c1
  replace c2 := keep_below hRg.b c2
  replace c3 := keep_below hRg.b c3
  replace c4 := keep_below hRg.b c4
  replace d0 := keep_below hRg.b d0
  replace d1 := keep_below hRg.b d1
  replace p0 := keep_below hRg.b p0
  replace p1 := keep_below hRg.b p1
  replace p2 := keep_below hRg.b p2
  replace p3 := keep_below hRg.b p3
  replace p4 := keep_below hRg.b p4
  replace q0 := keep_below hRg.b q0
  replace q1 := keep_below hRg.b q1
  replace q2 := keep_below hRg.b q2
  replace q3 := keep_below hRg.b q3
  replace q4 := keep_below hRg.b q4
  replace g0 := keep_below hRg.b g0
  replace g1 := keep_below hRg.b g1
  replace g2 := keep_below hRg.b g2
  replace g3 := keep_below hRg.b g3
  replace g4 := keep_below hRg.b g4
  have HOG1_12 := Lib.hid (HOG1_11.out.blw hRg.b)
  clear HOG1_11
  have HMG0_12 := Lib.hid (HMG0_11.out.blw hRg.b)
  clear HMG0_11
  clear hpG hoG hnG hxG hBg hRg
  go_wp2_with fail
  refine (HER.out H0 G1 HPH0.out HPG1.out _ HOH0_12.out.in HOG1_12.out.in).mono ?_
  rintro e w13 ⟨rfl, hb13⟩
  have HB13 := Lib.hid (HB12.out.trans (hb13.mono HB12.out.size))
  replace c0 := keep_below hb13 c0
  replace c1 := keep_below hb13 c1
  replace c2 := keep_below hb13 c2
  replace c3 := keep_below hb13 c3
  replace c4 := keep_below hb13 c4
  replace d0 := keep_below hb13 d0
  replace d1 := keep_below hb13 d1
  replace p0 := keep_below hb13 p0
  replace p1 := keep_below hb13 p1
  replace p2 := keep_below hb13 p2
  replace p3 := keep_below hb13 p3
  replace p4 := keep_below hb13 p4
  replace q0 := keep_below hb13 q0
  replace q1 := keep_below hb13 q1
  replace q2 := keep_below hb13 q2
  replace q3 := keep_below hb13 q3
  replace q4 := keep_below hb13 q4
  replace g0 := keep_below hb13 g0
  replace g1 := keep_below hb13 g1
  replace g2 := keep_below hb13 g2
  replace g3 := keep_below hb13 g3
  replace g4 := keep_below hb13 g4
  replace t0 := keep_below hb13 t0
  replace t1 := keep_below hb13 t1
  replace t2 := keep_below hb13 t2
  replace t3 := keep_below hb13 t3
  replace t4 := keep_below hb13 t4
  have HOG1_13 := Lib.hid (HOG1_12.out.blw hb13)
  clear HOG1_12
  have HOH0_13 := Lib.hid (HOH0_12.out.blw hb13)
  clear HOH0_12
  have HMG0_13 := Lib.hid (HMG0_12.out.blw hb13)
  clear HMG0_12
  clear hb13
  go_wp2_with fail
  refine (held_tree G0 _ _ HMG0_13.out (HCN.out G0 HPG0.out)).mono ?_
  rintro e w14 ⟨rfl, hb14⟩
  have HB14 := Lib.hid (HB13.out.trans (hb14.mono HB13.out.size))
  replace c0 := keep_below hb14 c0
  replace c1 := keep_below hb14 c1
  replace c2 := keep_below hb14 c2
  replace c3 := keep_below hb14 c3
  replace c4 := keep_below hb14 c4
  replace d0 := keep_below hb14 d0
  replace d1 := keep_below hb14 d1
  replace p0 := keep_below hb14 p0
  replace p1 := keep_below hb14 p1
  replace p2 := keep_below hb14 p2
  replace p3 := keep_below hb14 p3
  replace p4 := keep_below hb14 p4
  replace q0 := keep_below hb14 q0
  replace q1 := keep_below hb14 q1
  replace q2 := keep_below hb14 q2
  replace q3 := keep_below hb14 q3
  replace q4 := keep_below hb14 q4
  replace g0 := keep_below hb14 g0
  replace g1 := keep_below hb14 g1
  replace g2 := keep_below hb14 g2
  replace g3 := keep_below hb14 g3
  replace g4 := keep_below hb14 g4
  replace t0 := keep_below hb14 t0
  replace t1 := keep_below hb14 t1
  replace t2 := keep_below hb14 t2
  replace t3 := keep_below hb14 t3
  replace t4 := keep_below hb14 t4
  have HOG1_14 := Lib.hid (HOG1_13.out.blw hb14)
  clear HOG1_13
  have HOH0_14 := Lib.hid (HOH0_13.out.blw hb14)
  clear HOH0_13
  have HMG0_14 := Lib.hid (HMG0_13.out.blw hb14)
  clear HMG0_13
  clear hb14
  rw [HCC.out G0 HPG0.out, ← HMM.out]
  go_wp2
  go_ret
  exact ⟨rfl, HB14.out⟩
theorem walk (T : AT) (sP : St) (w : World) (hinT : T.In w w.heap.size) (hwfT : T.pt.Wf) : Calls Try.prog 9 #[T.val, sP.val] w fun e w' => e = .returned (.bool true) ∧ Below w.heap.size w w' := by
  by_cases hzT : T.pt.sz ≤ 1048576
  case neg => exact big1 T sP w hinT hwfT hzT
  exact main T sP w hinT hwfT hzT

set_option maxRecDepth 100000 in
theorem contract (H : Type) (enc : TypeId × Value → H) (W : World) (base : Nat) (args : Array Value) (ds gs : List (DataW H)) (before : List MemPlace)
    (hval : ∀ (j : Nat) t v, Try.f9.params[j]? = some t → args[j]? = some v → Value.okWide Try.prog W .any base t v)
    (hW : DataW.Whole enc Try.prog Try.f9.params.toList Rows.fnExactStepValSpec.vars false W args.toList ds gs before)
    (hcond : ∀ k, (OpenSpec.ofChange Rows.fnExactStepValSpec).cond = some k → k H (ds ++ gs) = true)
    (hsz : (DataW.weightsEach Try.prog (Try.f9.params.toList ++ (OpenSpec.ofChange Rows.fnExactStepValSpec).bare.plain.varTypes Try.prog) (ds ++ gs)).all (· ≤ reachBytes) = true)
    (hL : laidMetH Try.prog Rows.fnExactStepValRow.laid W) :
    Calls Try.prog 9 args W fun e W' => ∃ v, e = .returned v ∧ Rows.fnExactStepValSpec.post enc Try.prog Try.f9 false true false false W args v W' := by
  have hW' := hW
  have hlt := hW'.lt
  obtain ⟨p, q, hA0, hV, rfl, hfz, hnd⟩ := hW
  have hA : DataW.TrodAll enc Try.prog W 0 (fun _ => true) true Try.f9.params.toList args.toList ds p := hA0
  rw [Try.params9] at hA hval hsz
  obtain ⟨v0, vs0, d0, ds0, p0, q0, hargs, rfl, rfl, h0, r0⟩ := trodAll_cons hA
  obtain ⟨v1, vs1, d1, ds1, p1, q1, rfl, rfl, rfl, h1, r1⟩ := trodAll_cons r0
  obtain ⟨rfl, rfl, rfl⟩ := trodAll_nil r1
  obtain rfl : args = #[v0, v1] := by cases args; simp_all
  obtain ⟨rfl, rfl⟩ := trodVars_none hV
  simp only [List.append_nil] at hW' hlt
  have hlt0 : ∀ x ∈ p0, x.block < W.heap.size := fun x hx => hlt x (by simp [hx])
  have hlt1 : ∀ x ∈ p1, x.block < W.heap.size := fun x hx => hlt x (by simp [hx])
  have hk0 := h0
  have hk1 := h1
  obtain ⟨T0, rfl, hin0, hwf0⟩ := open_val (hval 0 57 v0 rfl rfl) h0
  obtain ⟨s1, rfl, hlo1, hhi1⟩ := open_step (hval 1 63 v1 rfl rfl) h1
  clear hA0 hA
  have fin : ∀ W' : World, Below W.heap.size W W' → Rows.fnExactStepValSpec.post enc Try.prog Try.f9 false true false false W _ (.bool true) W' := fun W' hb =>
    ⟨_, _, _, [], _, [], hW', trodAll_mk1 (shut_bool Try.underlying4 _), (trodAll_cons_mk (Below.trod laidOut (by kernel_rfl) (of_decide_eq_true (by kernel_rfl)) hk0 hb hlt0) (trodAll_cons_mk (Below.trod laidOut (by kernel_rfl) (of_decide_eq_true (by kernel_rfl)) hk1 hb hlt1) trodAll_mk0)), rfl, hb.frame _, fun h => by cases h⟩
  refine Calls.mono (R := fun e w' => e = .returned (.bool true) ∧ Below W.heap.size W w') ?_ (fun e W' h => ⟨_, h.1, fin W' h.2⟩)
  clear fin
  exact walk T0 s1 W hin0 hwf0

theorem laid_met (os : Os) : laidMet Try.prog Rows.fnExactStepValRow.laid (((World.holding Try.prog os ⟨#[], #[], []⟩)).forCall (fun _ _ => 0) ⟨#[], #[.agg #[.int .i64 0, .int .i64 0, .int .i64 0, .string ⟨#[]⟩, .slice none 0 0], .agg #[.int .i64 0, .bool false]], []⟩).memory :=
  ⟨[], rfl, List.nodup_nil, fun _ _ h => by cases h⟩
theorem reads (os : Os) {H : Type} (enc : TypeId × Value → H) : ∃ places, DataW.whole enc Try.prog (((World.holding Try.prog os ⟨#[], #[], []⟩)).forCall (fun _ _ => 0) ⟨#[], #[.agg #[.int .i64 0, .int .i64 0, .int .i64 0, .string ⟨#[]⟩, .slice none 0 0], .agg #[.int .i64 0, .bool false]], []⟩).memory Try.f9.params.toList Rows.fnExactStepValSpec.vars false (#[.agg #[.int .i64 0, .int .i64 0, .int .i64 0, .string ⟨#[]⟩, .slice none 0 0], .agg #[.int .i64 0, .bool false]] : Array Value).toList 8 = some ([.agg [.lit (.int .i64 0), .lit (.int .i64 0), .lit (.int .i64 0), .lit (.string []), .nil], .agg [.lit (.int .i64 0), .lit (.bool false)]], [], places) :=
  ⟨[], by kernel_rfl⟩

set_option maxRecDepth 100000 in
theorem lifted (os : Os) (started : os.Started) (H : Type) (enc : TypeId × Value → H) (F : Stop.Interp) :
    ReturnsInHanded {} Try.checked os 9 .any ((OpenSpec.ofChange Rows.fnExactStepValSpec).preRow enc Try.prog Try.f9 Rows.fnExactStepValRow.domain false Rows.fnExactStepValRow.laid) (((OpenSpec.ofChange Rows.fnExactStepValSpec).at F).post enc Try.prog Try.f9 false true false false) := by
  obtain ⟨places, hx⟩ := reads os enc
  refine returnsInHanded_of_row (C := Try.checked) (s := OpenSpec.ofChange Rows.fnExactStepValSpec) own started (by kernel_rfl) Try.func9
    (witness_row_at (enc := enc) (C := Try.checked) false (World.holding Try.prog os ⟨#[], #[], []⟩) #[.agg #[.int .i64 0, .int .i64 0, .int .i64 0, .string ⟨#[]⟩, .slice none 0 0], .agg #[.int .i64 0, .bool false]] rfl (by kernel_rfl) (by kernel_rfl) (by kernel_rfl)
      (OpenSpec.preRow_of_cond 8 hx (by kernel_rfl) (fun k hk => by cases hk) (by kernel_rfl) (laid_met os))) ?_
  intro W base args ds gs before hval hW _ hcond hsz hL _ _
  exact contract H enc W base args ds gs before hval hW hcond hsz hL

theorem said : Rows.FnExactStepValSaid :=
  OpenClaim.holds_of_cond 9 Try.f9 rfl rfl rfl rfl rfl rfl rfl ⟨rfl, rfl, rfl, rfl, rfl⟩ rfl rfl rfl rfl rfl (by kernel_rfl) Try.func9 (by kernel_rfl)
    (of_decide_eq_true (by kernel_rfl)) (by unfold Func.isWrapper; first | (rw [if_pos (by decide +kernel)]; kernel_rfl) | (rw [if_neg (by decide +kernel)]; exact ⟨rfl, rfl⟩))
    (fun os started H enc _ F => by rw [OpenClaim.pre_eq_preRow]; exact lifted os started H enc F)

theorem proved : Rows.FnExactStepValSaid := said
#print axioms proved
end Go.Proofs.Ytgfebmnlcihpnaa.fnExactStepVal
