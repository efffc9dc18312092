/- For every input the law FnExactPackTight returns true and its arguments read afterwards as they read before; beside what the row states there is no condition. -/
import Derived.Test.YtilgncebhgplaaaDoorCards
import Derived.Test.YtilgncebhgplaaaDoorTie
import Derived.WalkKit
import Derived.ProofKit
import Derived.OpenShut
import Derived.SizedLaws
import Derived.Carry
import Derived.Deep.DeepHandedRow
import Derived.Deep.DeepWitnessRowRef
import Derived.LaidMore
import Derived.Lib.LaidTab
import Derived.Stop.LaidErr
import Derived.Test.YtilgncebhgplaaaDoorG0
import Derived.Test.YtilgncebhgplaaaDoorG1
import Derived.Test.YtilgncebhgplaaaDoorG10
import Derived.Test.YtilgncebhgplaaaDoorG19
import Derived.Test.YtilgncebhgplaaaDoorG20
import Derived.Test.YtilgncebhgplaaaDoorG18
import Derived.Deep.RegionHeld3

namespace Go.Proofs.YtilgncebhgplaaaDoor.fnExactPackTight
open Go.ChangeShapes Go.WideShapes Go.ChangeAt Go.RowKit
open Go.ChangeMaps (open_string shut_string)
set_option linter.unusedVariables false

theorem own : ownKnob Tryd.prog.godebug = none := by kernel_rfl
theorem laidOut : laidOutB Tryd.prog = true := by kernel_rfl

set_option maxHeartbeats 1000000 in
theorem big1 (T : AT) (w : World) (hinT : T.In w w.heap.size) (hwfT : T.pt.Wf)  (hzT : ¬ T.pt.sz ≤ 1048576) : Calls Tryd.prog 4 #[T.val] w fun e w' => e = .returned (.bool true) ∧ Below w.heap.size w w' := by
  have HSZT := Lib.hid (fun (w1 : World) (hb : Below w.heap.size w w1) => szVal_any T hwfT w1 w.heap.size (1048576) (hinT.blw hb (Nat.le_refl _)) hb.size (by omega))
  have HRT : Hid (szR T.pt.sz (1048576) = -1) := Lib.hid (by unfold szR; rw [if_neg hzT])
  clear hinT hwfT hzT
  show Calls Tryd.prog 4 #[.agg #[.int .i64 T.k, .int .i64 T.n, .int .i64 T.x, .string ⟨T.s.toArray⟩, .slice T.a T.l.length T.cap]] w _
  go_enter Tryd.func4, Tryd.ntmps4
  go_wp2_with fail
  have hbox : Below w.heap.size w (w.alloc (.cells #[.int .i64 T.k, .int .i64 T.n, .int .i64 T.x, .string ⟨T.s.toArray⟩, .slice T.a T.l.length T.cap] 24)) := boxes1 w (.cells #[.int .i64 T.k, .int .i64 T.n, .int .i64 T.x, .string ⟨T.s.toArray⟩, .slice T.a T.l.length T.cap] 24)
  have hc : (w.alloc (.cells #[.int .i64 T.k, .int .i64 T.n, .int .i64 T.x, .string ⟨T.s.toArray⟩, .slice T.a T.l.length T.cap] 24)).cell? ⟨w.heap.size, 0, none⟩ = some (.int .i64 T.k) ∧ (w.alloc (.cells #[.int .i64 T.k, .int .i64 T.n, .int .i64 T.x, .string ⟨T.s.toArray⟩, .slice T.a T.l.length T.cap] 24)).cell? ⟨w.heap.size, 1, none⟩ = some (.int .i64 T.n) ∧ (w.alloc (.cells #[.int .i64 T.k, .int .i64 T.n, .int .i64 T.x, .string ⟨T.s.toArray⟩, .slice T.a T.l.length T.cap] 24)).cell? ⟨w.heap.size, 2, none⟩ = some (.int .i64 T.x) ∧ (w.alloc (.cells #[.int .i64 T.k, .int .i64 T.n, .int .i64 T.x, .string ⟨T.s.toArray⟩, .slice T.a T.l.length T.cap] 24)).cell? ⟨w.heap.size, 3, none⟩ = some (.string ⟨T.s.toArray⟩) ∧ (w.alloc (.cells #[.int .i64 T.k, .int .i64 T.n, .int .i64 T.x, .string ⟨T.s.toArray⟩, .slice T.a T.l.length T.cap] 24)).cell? ⟨w.heap.size, 4, none⟩ = some (.slice T.a T.l.length T.cap) := by refine ⟨?_, ?_, ?_, ?_, ?_⟩ <;> simp [go_sem]
  obtain ⟨c0, c1, c2, c3, c4⟩ := hc
  generalize (w.alloc (.cells #[.int .i64 T.k, .int .i64 T.n, .int .i64 T.x, .string ⟨T.s.toArray⟩, .slice T.a T.l.length T.cap] 24)) = w0 at *
  have HB0 := Lib.hid hbox
  clear hbox
  refine (HSZT.out _ HB0.out).mono ?_
  rintro e w1 ⟨rfl, hb1⟩
  have HB1 := Lib.hid (HB0.out.trans (hb1.mono HB0.out.size))
  replace c0 := keep_below hb1 c0
  replace c1 := keep_below hb1 c1
  replace c2 := keep_below hb1 c2
  replace c3 := keep_below hb1 c3
  replace c4 := keep_below hb1 c4
  clear hb1
  rw [HRT.out]
  go_wp2
  go_ret
  exact ⟨rfl, HB1.out⟩
set_option maxHeartbeats 4000000 in
set_option maxRecDepth 100000 in
theorem main (T : AT) (w : World) (hinT : T.In w w.heap.size) (hwfT : T.pt.Wf) (hTz : Tz w) (hzT : T.pt.sz ≤ 1048576) : Calls Tryd.prog 4 #[T.val] w fun e w' => e = .returned (.bool true) ∧ Below w.heap.size w w' := by
  have HSZT := Lib.hid (fun (w1 : World) (hb : Below w.heap.size w w1) => szVal_any T hwfT w1 w.heap.size (1048576) (hinT.blw hb (Nat.le_refl _)) hb.size (by omega))
  have HRT : Hid (szR T.pt.sz (1048576) = ((1048576 - T.pt.sz : Nat) : Int)) := Lib.hid (by unfold szR; rw [if_pos hzT]; omega)
  have hnegT : ¬ (((1048576 - T.pt.sz : Nat) : Int) < 0) := by omega
  have hsT : T.pt.sz ≤ 1048576 := by omega
  have HTVT := Lib.hid (fun (w1 : World) (hb : Below w.heap.size w w1) => toVal_any T hwfT hsT w1 w.heap.size (hinT.blw hb (Nat.le_refl _)) hb.size)
  have HEQT := Lib.hid (fun (T' U' : AT) (hp : T'.pt = T.pt) (hu : U'.pt = T.pt) (w1 : World) (hi : T'.In w1 w1.heap.size) (hj : U'.In w1 w1.heap.size) => eqVal_any T' (by rw [hp]; exact hwfT) U' w1 w1.heap.size (by rw [hp, hu]) hi hj (Nat.le_refl _))
  have HCAT : Hid (∀ X : AT, X.pt = T.pt → X.pt.cnt ≤ 2097152) := Lib.hid (fun X hX => by rw [hX]; have := cnt_le_sz T.pt; omega)
  have HCBT : Hid (∀ X : AT, X.pt = T.pt → PT.cntL (AT.ptL X.l) = PT.cntL (AT.ptL T.l)) := Lib.hid (fun X hX => by have h1 := cnt_eq' X; have h2 := cnt_eq' T; rw [hX] at h1; omega)
  have HTZ := Lib.hid hTz
  clear hTz
  obtain ⟨p, hp⟩ : ∃ p, p = T.pt.tight hdFor := ⟨_, rfl⟩
  have HL : Hid (p.length ≤ 1099511627776) := Lib.hid (by rw [hp]; have := tight_le T.pt; omega)
  have HCS := Lib.hid (fun (X0 : AT) (hX0 : X0.pt = T.pt) (w1 : World) (ho0 : X0.In w1 w1.heap.size) => (show Calls Tryd.prog 14 #[X0.val] w1 (FreshB w1 p) from by have h := packspec_b X0 (by rw [hX0]; exact hwfT) (by rw [hX0]; exact hsT) w1 w1.heap.size ho0 (Nat.le_refl _); rw [hX0, ← hp] at h; exact h))
  have HCI := Lib.hid (fun (X0 : AT) (hX0 : X0.pt = T.pt) (w1 : World) (ho0 : X0.In w1 w1.heap.size) (hbw : Below w.heap.size w w1) => (show Calls Tryd.prog 15 #[X0.val] w1 (FreshB w1 p) from by have h := packtight_impl X0 w1 w1.heap.size ho0 (Nat.le_refl _) (HTZ.out.below hbw) (by rw [hX0]; exact hwfT) (by rw [hX0]; exact hsT); rw [hX0, ← hp] at h; exact h))
  obtain ⟨MK, hMK⟩ : ∃ MK, MK = 1 + 4 * PT.cntL (AT.ptL T.l) := ⟨_, rfl⟩
  have HMK := Lib.hid hMK
  have hneg3 : ¬ ((MK : Int) < 0) := by omega
  obtain ⟨pl, hpl⟩ : ∃ pl, pl = p.length := ⟨_, rfl⟩
  have HPL := Lib.hid hpl
  have hneg2 : ¬ (1 + (pl : Int) < 0) := by omega
  have hkk : ((1 + (pl : Int)) != (1 + (pl : Int))) = false := by simp
  clear hp hMK hpl hinT hwfT hzT hsT
  generalize 1048576 - T.pt.sz = leftT at *
  show Calls Tryd.prog 4 #[.agg #[.int .i64 T.k, .int .i64 T.n, .int .i64 T.x, .string ⟨T.s.toArray⟩, .slice T.a T.l.length T.cap]] w _
  go_enter Tryd.func4, Tryd.ntmps4
  go_wp2_with fail
  have hbox : Below w.heap.size w (w.alloc (.cells #[.int .i64 T.k, .int .i64 T.n, .int .i64 T.x, .string ⟨T.s.toArray⟩, .slice T.a T.l.length T.cap] 24)) := boxes1 w (.cells #[.int .i64 T.k, .int .i64 T.n, .int .i64 T.x, .string ⟨T.s.toArray⟩, .slice T.a T.l.length T.cap] 24)
  have hc : (w.alloc (.cells #[.int .i64 T.k, .int .i64 T.n, .int .i64 T.x, .string ⟨T.s.toArray⟩, .slice T.a T.l.length T.cap] 24)).cell? ⟨w.heap.size, 0, none⟩ = some (.int .i64 T.k) ∧ (w.alloc (.cells #[.int .i64 T.k, .int .i64 T.n, .int .i64 T.x, .string ⟨T.s.toArray⟩, .slice T.a T.l.length T.cap] 24)).cell? ⟨w.heap.size, 1, none⟩ = some (.int .i64 T.n) ∧ (w.alloc (.cells #[.int .i64 T.k, .int .i64 T.n, .int .i64 T.x, .string ⟨T.s.toArray⟩, .slice T.a T.l.length T.cap] 24)).cell? ⟨w.heap.size, 2, none⟩ = some (.int .i64 T.x) ∧ (w.alloc (.cells #[.int .i64 T.k, .int .i64 T.n, .int .i64 T.x, .string ⟨T.s.toArray⟩, .slice T.a T.l.length T.cap] 24)).cell? ⟨w.heap.size, 3, none⟩ = some (.string ⟨T.s.toArray⟩) ∧ (w.alloc (.cells #[.int .i64 T.k, .int .i64 T.n, .int .i64 T.x, .string ⟨T.s.toArray⟩, .slice T.a T.l.length T.cap] 24)).cell? ⟨w.heap.size, 4, none⟩ = some (.slice T.a T.l.length T.cap) := by refine ⟨?_, ?_, ?_, ?_, ?_⟩ <;> simp [go_sem]
  obtain ⟨c0, c1, c2, c3, c4⟩ := hc
  generalize (w.alloc (.cells #[.int .i64 T.k, .int .i64 T.n, .int .i64 T.x, .string ⟨T.s.toArray⟩, .slice T.a T.l.length T.cap] 24)) = w0 at *
  have HB0 := Lib.hid hbox
  clear hbox
  refine (HSZT.out _ HB0.out).mono ?_
  rintro e w1 ⟨rfl, hb1⟩
  have HB1 := Lib.hid (HB0.out.trans (hb1.mono HB0.out.size))
  replace c0 := keep_below hb1 c0
  replace c1 := keep_below hb1 c1
  replace c2 := keep_below hb1 c2
  replace c3 := keep_below hb1 c3
  replace c4 := keep_below hb1 c4
  clear hb1
  rw [HRT.out]
  go_wp2_with fail
  refine (HTVT.out _ HB1.out).mono ?_
  rintro e w2 ⟨A1, hp2, rfl, ho2, hn2, hb2⟩
  have HB2 := Lib.hid (HB1.out.trans (hb2.mono HB1.out.size))
  have HXc_A1 : Hid (w.heap.size ∉ A1.blks) := Lib.hid (fun hk => by have h1 := (ho2.lt _ hk).1; have h2 := cell_lt c0; simp only at h2; omega)
  replace c0 := keep_below hb2 c0
  replace c1 := keep_below hb2 c1
  replace c2 := keep_below hb2 c2
  replace c3 := keep_below hb2 c3
  replace c4 := keep_below hb2 c4
  have HPA1 := Lib.hid hp2
  have HOA1_2 := Lib.hid (ho2.base HB1.out.size)
  have HNA1 := Lib.hid hn2
  clear hp2 ho2 hn2
  clear hb2
  go_wp2_with fail
  refine (HCS.out A1 HPA1.out _ HOA1_2.out.in).mono ?_
  rintro e w3 ⟨aG1, nG1, cG1, rfl, ho3, hb3⟩
  have HB3 := Lib.hid (HB2.out.trans (hb3.mono HB2.out.size))
  obtain ⟨bG1, hbeG1⟩ : ∃ b, b = w2.heap.size := ⟨_, rfl⟩
  have HYA1_G1 : Hid (∀ k ∈ A1.blks, k < bG1) := Lib.hid (fun k hk => by have := (HOA1_2.out.lt k hk).2; omega)
  have HVc_G1 : Hid (w.heap.size < bG1) := Lib.hid (by have h2 := cell_lt c0; simp only at h2; omega)
  have HRG1 : Hid (w3.ownsRow bG1 5 1 (.slice aG1 nG1 cG1) p.length (bv p)) := Lib.hid (by rw [hbeG1]; exact ho3)
  clear ho3 hbeG1
  replace c0 := keep_below hb3 c0
  replace c1 := keep_below hb3 c1
  replace c2 := keep_below hb3 c2
  replace c3 := keep_below hb3 c3
  replace c4 := keep_below hb3 c4
  have HOA1_3 := Lib.hid (HOA1_2.out.blw hb3)
  clear HOA1_2
  clear hb3
  go_wp2_with fail
  refine (HTVT.out _ HB3.out).mono ?_
  rintro e w4 ⟨X0, hp4, rfl, ho4, hn4, hb4⟩
  have HB4 := Lib.hid (HB3.out.trans (hb4.mono HB3.out.size))
  have HWX0_G1 : Hid (∀ k ∈ X0.blks, (Value.slice aG1 nG1 cG1).ownBlock ≠ some k) := Lib.hid (fun k hk e => by have h1 := (ho4.lt k hk).1; have h2 := (HRG1.out.lt k e).2; omega)
  have HDX0_A1 : Hid (∀ k ∈ X0.blks, k ∉ A1.blks) := Lib.hid (fun k hk hk2 => by have h1 := (ho4.lt k hk).1; have h2 := (HOA1_3.out.lt k hk2).2; omega)
  have HDA1_X0 : Hid (∀ k ∈ A1.blks, k ∉ X0.blks) := Lib.hid (fun k hk hk2 => by have h1 := (ho4.lt k hk2).1; have h2 := (HOA1_3.out.lt k hk).2; omega)
  have HXc_X0 : Hid (w.heap.size ∉ X0.blks) := Lib.hid (fun hk => by have h1 := (ho4.lt _ hk).1; have h2 := cell_lt c0; simp only at h2; omega)
  replace c0 := keep_below hb4 c0
  replace c1 := keep_below hb4 c1
  replace c2 := keep_below hb4 c2
  replace c3 := keep_below hb4 c3
  replace c4 := keep_below hb4 c4
  have HOA1_4 := Lib.hid (HOA1_3.out.blw hb4)
  clear HOA1_3
  have HRG1_4_88 := Lib.hid (own_below HRG1.out hb4)
  clear HRG1
  have HPX0 := Lib.hid hp4
  have HOX0_4 := Lib.hid (ho4.base HB3.out.size)
  have HNX0 := Lib.hid hn4
  clear hp4 ho4 hn4
  clear hb4
  have HXq_A1 : Hid (w4.heap.size ∉ A1.blks) := Lib.hid (fun hk => by have h2 := (HOA1_4.out.lt _ hk).2; omega)
  have HXq_X0 : Hid (w4.heap.size ∉ X0.blks) := Lib.hid (fun hk => by have h2 := (HOX0_4.out.lt _ hk).2; omega)
  have hv5 := vbox w4 (.cells #[.int .i64 X0.k, .int .i64 X0.n, .int .i64 X0.x, .string ⟨X0.s.toArray⟩, .slice X0.a X0.l.length X0.cap] 29)
  have HB5 := Lib.hid (HB4.out.trans (hv5.mono HB4.out.size))
  replace c0 := keep_below hv5 c0
  replace c1 := keep_below hv5 c1
  replace c2 := keep_below hv5 c2
  replace c3 := keep_below hv5 c3
  replace c4 := keep_below hv5 c4
  have HOA1_5 := Lib.hid (HOA1_4.out.blw hv5)
  clear HOA1_4
  have HOX0_5 := Lib.hid (HOX0_4.out.blw hv5)
  clear HOX0_4
  have HRG1_5_109 := Lib.hid (own_below HRG1_4_88.out hv5)
  clear HRG1_4_88
  obtain ⟨q0, q1, q2, q3, q4⟩ := vcells5 w4 X0 29
  clear hv5
  go_wp2_with fail
  generalize (w4.alloc (.cells #[.int .i64 X0.k, .int .i64 X0.n, .int .i64 X0.x, .string ⟨X0.s.toArray⟩, .slice X0.a X0.l.length X0.cap] 29)) = w5 at *
  refine (HCI.out X0 HPX0.out _ HOX0_5.out.in HB5.out).mono ?_
  rintro e w6 ⟨aG0, nG0, cG0, rfl, ho6, hb6⟩
  have HB6 := Lib.hid (HB5.out.trans (hb6.mono HB5.out.size))
  obtain ⟨bG0, hbeG0⟩ : ∃ b, b = w5.heap.size := ⟨_, rfl⟩
  have HYA1_G0 : Hid (∀ k ∈ A1.blks, k < bG0) := Lib.hid (fun k hk => by have := (HOA1_5.out.lt k hk).2; omega)
  have HYX0_G0 : Hid (∀ k ∈ X0.blks, k < bG0) := Lib.hid (fun k hk => by have := (HOX0_5.out.lt k hk).2; omega)
  have HZG1_G0 : Hid (∀ k, (Value.slice aG1 nG1 cG1).ownBlock = some k → k < bG0) := Lib.hid (fun k hk => by have := (HRG1_5_109.out.lt k hk).2; omega)
  have HVc_G0 : Hid (w.heap.size < bG0) := Lib.hid (by have h2 := cell_lt c0; simp only at h2; omega)
  have HVq_G0 : Hid (w4.heap.size < bG0) := Lib.hid (by have h2 := cell_lt q0; simp only at h2; omega)
  have HRG0 : Hid (w6.ownsRow bG0 5 1 (.slice aG0 nG0 cG0) p.length (bv p)) := Lib.hid (by rw [hbeG0]; exact ho6)
  clear ho6 hbeG0
  replace c0 := keep_below hb6 c0
  replace c1 := keep_below hb6 c1
  replace c2 := keep_below hb6 c2
  replace c3 := keep_below hb6 c3
  replace c4 := keep_below hb6 c4
  replace q0 := keep_below hb6 q0
  replace q1 := keep_below hb6 q1
  replace q2 := keep_below hb6 q2
  replace q3 := keep_below hb6 q3
  replace q4 := keep_below hb6 q4
  have HOA1_6 := Lib.hid (HOA1_5.out.blw hb6)
  clear HOA1_5
  have HOX0_6 := Lib.hid (HOX0_5.out.blw hb6)
  clear HOX0_5
  have HRG1_6_140 := Lib.hid (own_below HRG1_5_109.out hb6)
  clear HRG1_5_109
  clear hb6
  go_wp2_with fail
  refine (eqByteS_yes _ _ _ p (own_reads HRG0.out) (own_reads HRG1_6_140.out) HL.out).mono ?_
  rintro e w7 ⟨rfl, hb7⟩
  have HB7 := Lib.hid (HB6.out.trans (hb7.mono HB6.out.size))
  replace c0 := keep_below hb7 c0
  replace c1 := keep_below hb7 c1
  replace c2 := keep_below hb7 c2
  replace c3 := keep_below hb7 c3
  replace c4 := keep_below hb7 c4
  replace q0 := keep_below hb7 q0
  replace q1 := keep_below hb7 q1
  replace q2 := keep_below hb7 q2
  replace q3 := keep_below hb7 q3
  replace q4 := keep_below hb7 q4
  have HOA1_7 := Lib.hid (HOA1_6.out.blw hb7)
  clear HOA1_6
  have HOX0_7 := Lib.hid (HOX0_6.out.blw hb7)
  clear HOX0_6
  have HRG1_7_161 := Lib.hid (own_below HRG1_6_140.out hb7)
  clear HRG1_6_140
  have HRG0_7_163 := Lib.hid (own_below HRG0.out hb7)
  clear HRG0
  clear hb7
  go_wp2_with fail
  have hownA1 := HOA1_7.out
  have hownX0 := HOX0_7.out
  have hrowG1 := HRG1_7_161.out
  have hrowG0 := HRG0_7_163.out
  have hbel := HB7.out
  go_region_held3 (fun W' => W'.cell? ⟨w.heap.size, 0, none⟩ = some (.int .i64 T.k) ∧ W'.cell? ⟨w.heap.size, 1, none⟩ = some (.int .i64 T.n) ∧ W'.cell? ⟨w.heap.size, 2, none⟩ = some (.int .i64 T.x) ∧ W'.cell? ⟨w.heap.size, 3, none⟩ = some (.string ⟨T.s.toArray⟩) ∧ W'.cell? ⟨w.heap.size, 4, none⟩ = some (.slice T.a T.l.length T.cap) ∧ W'.cell? ⟨w4.heap.size, 0, none⟩ = some (.int .i64 X0.k) ∧ W'.cell? ⟨w4.heap.size, 1, none⟩ = some (.int .i64 X0.n) ∧ W'.cell? ⟨w4.heap.size, 2, none⟩ = some (.int .i64 X0.x) ∧ W'.cell? ⟨w4.heap.size, 3, none⟩ = some (.string ⟨X0.s.toArray⟩) ∧ W'.cell? ⟨w4.heap.size, 4, none⟩ = some (.slice X0.a X0.l.length X0.cap) ∧ Below w.heap.size w W' ∧ A1.Own W' w.heap.size ∧ X0.Own W' w.heap.size ∧ W'.ownsRow bG1 5 1 (Value.slice aG1 nG1 cG1) p.length (bv p) ∧ W'.ownsRow bG0 5 1 (Value.slice aG0 nG0 cG0) p.length (bv p)) ((refine ⟨?_, ?_, ?_, ?_, ?_, ?_, ?_, ?_, ?_, ?_, ?_, ?_, ?_, ?_, ?_⟩ <;> first | assumption | (refine Below.drew ?_; assumption) | (refine AT.Own.drew ?_; assumption) | (refine World.ownsRow.drew ?_; assumption) | exact keep_below (by assumption) (by assumption) | exact below_tr (by assumption) (by assumption) | exact own_blw (by assumption) (by assumption) | exact own_below (by assumption) (by assumption))) ((first | (go_at_call 11; go_split_ands; ((with_reducible refine (HTVT.out _ (by assumption)).mono ?_); rintro e u1 ⟨Y1, hpu1, rfl, hou1, hnu1, hbu1⟩; have HOu1 := Lib.hid hou1; have HPu1 := Lib.hid hpu1; clear hou1 hnu1 hpu1)) | (go_at_call 13; go_split_ands; refine (HEQT.out X0 Y1 HPX0.out HPu1.out _ (AT.Own.in (by assumption)) HOu1.out.in).mono ?_; rintro e v1 ⟨rfl, hbv1⟩)))
  go_split_ands
  replace c0 : v1.cell? ⟨w.heap.size, 0, none⟩ = some (.int .i64 T.k) := by assumption
  replace c1 : v1.cell? ⟨w.heap.size, 1, none⟩ = some (.int .i64 T.n) := by assumption
  replace c2 : v1.cell? ⟨w.heap.size, 2, none⟩ = some (.int .i64 T.x) := by assumption
  replace c3 : v1.cell? ⟨w.heap.size, 3, none⟩ = some (.string ⟨T.s.toArray⟩) := by assumption
  replace c4 : v1.cell? ⟨w.heap.size, 4, none⟩ = some (.slice T.a T.l.length T.cap) := by assumption
  replace q0 : v1.cell? ⟨w4.heap.size, 0, none⟩ = some (.int .i64 X0.k) := by assumption
  replace q1 : v1.cell? ⟨w4.heap.size, 1, none⟩ = some (.int .i64 X0.n) := by assumption
  replace q2 : v1.cell? ⟨w4.heap.size, 2, none⟩ = some (.int .i64 X0.x) := by assumption
  replace q3 : v1.cell? ⟨w4.heap.size, 3, none⟩ = some (.string ⟨X0.s.toArray⟩) := by assumption
  replace q4 : v1.cell? ⟨w4.heap.size, 4, none⟩ = some (.slice X0.a X0.l.length X0.cap) := by assumption
  have HB8 : Hid (Below w.heap.size w v1) := Lib.hid (by assumption)
  have HOA1_8 : Hid (A1.Own v1 w.heap.size) := Lib.hid (by assumption)
  have HOX0_8 : Hid (X0.Own v1 w.heap.size) := Lib.hid (by assumption)
  have HRG1_8 : Hid (v1.ownsRow bG1 5 1 (Value.slice aG1 nG1 cG1) p.length (bv p)) := Lib.hid (by assumption)
  have HRG0_8 : Hid (v1.ownsRow bG0 5 1 (Value.slice aG0 nG0 cG0) p.length (bv p)) := Lib.hid (by assumption)
  clear hbel hownA1 hownX0 hrowG1 hrowG0
  go_wp2_with fail
  refine (mark_tree X0 _ _ HOX0_8.out HNX0.out (HCAT.out X0 HPX0.out)).mono ?_
  rintro e w9 ⟨⟨rfl, -⟩, hbs9⟩
  have HB9 := Lib.hid (HB8.out.trans (hbs9.below (fun k hk => (HOX0_8.out.lt k hk).1) HB8.out.size))
  replace c0 := hbs9.cell HXc_X0.out c0
  replace c1 := hbs9.cell HXc_X0.out c1
  replace c2 := hbs9.cell HXc_X0.out c2
  replace c3 := hbs9.cell HXc_X0.out c3
  replace c4 := hbs9.cell HXc_X0.out c4
  replace q0 := hbs9.cell HXq_X0.out q0
  replace q1 := hbs9.cell HXq_X0.out q1
  replace q2 := hbs9.cell HXq_X0.out q2
  replace q3 := hbs9.cell HXq_X0.out q3
  replace q4 := hbs9.cell HXq_X0.out q4
  have HOA1_9 := Lib.hid (HOA1_8.out.onlyBs hbs9 HDA1_X0.out)
  clear HOA1_8
  have HRG1_m9 := Lib.hid (own_heap HRG1_8.out (fun g hg => hbs9.block g (HRG1_8.out.lt g hg).2 (fun hk => HWX0_G1.out g hk hg)))
  clear HRG1_8
  have HRG0_m9 := Lib.hid (own_heap HRG0_8.out (fun g hg => hbs9.block g (HRG0_8.out.lt g hg).2 (fun hk => by have h1 := HYX0_G0.out g hk; have h2 := (HRG0_8.out.lt g hg).1; omega)))
  clear HRG0_8
  clear hbs9 HOX0_8
  rw [HCBT.out X0 HPX0.out, ← HMK.out]
  go_wp2_with fail
  refine (eqByteS_yes _ _ _ p (own_reads HRG0_m9.out) (own_reads HRG1_m9.out) HL.out).mono ?_
  rintro e w10 ⟨rfl, hb10⟩
  have HB10 := Lib.hid (HB9.out.trans (hb10.mono HB9.out.size))
  replace c0 := keep_below hb10 c0
  replace c1 := keep_below hb10 c1
  replace c2 := keep_below hb10 c2
  replace c3 := keep_below hb10 c3
  replace c4 := keep_below hb10 c4
  replace q0 := keep_below hb10 q0
  replace q1 := keep_below hb10 q1
  replace q2 := keep_below hb10 q2
  replace q3 := keep_below hb10 q3
  replace q4 := keep_below hb10 q4
  have HOA1_10 := Lib.hid (HOA1_9.out.blw hb10)
  clear HOA1_9
  have HRG1_10_228 := Lib.hid (own_below HRG1_m9.out hb10)
  clear HRG1_m9
  have HRG0_10_230 := Lib.hid (own_below HRG0_m9.out hb10)
  clear HRG0_m9
  clear hb10
  go_wp2_with fail
  refine (markByteS_any _ _ _ _ HRG0_10_230.out HL.out).mono ?_
  rintro e w11 ⟨rfl, hm11, g11, hg11, hgg11, hon11⟩
  have HB11 := Lib.hid (only_below HB10.out hon11 (Nat.le_of_lt (Nat.lt_of_lt_of_le HVc_G0.out hg11)) HB10.out.size)
  replace c0 := hon11.cell (by have h1 := HVc_G0.out; show w.heap.size ≠ g11; omega) c0
  replace c1 := hon11.cell (by have h1 := HVc_G0.out; show w.heap.size ≠ g11; omega) c1
  replace c2 := hon11.cell (by have h1 := HVc_G0.out; show w.heap.size ≠ g11; omega) c2
  replace c3 := hon11.cell (by have h1 := HVc_G0.out; show w.heap.size ≠ g11; omega) c3
  replace c4 := hon11.cell (by have h1 := HVc_G0.out; show w.heap.size ≠ g11; omega) c4
  have HRG1_m11 := Lib.hid (own_only HRG1_10_228.out hon11 (fun e => by have h1 := HZG1_G0.out _ e; omega))
  clear HRG1_10_228
  have HRM0 := Lib.hid hm11
  clear hm11 hg11 hgg11 hon11
  rw [← HPL.out]
  go_wp2_with fail
  refine (heldByteS_any _ _ p.length (own_reads HRM0.out) HL.out).mono ?_
  rintro e w12 ⟨rfl, hb12⟩
  have HB12 := Lib.hid (HB11.out.trans (hb12.mono HB11.out.size))
  replace c0 := keep_below hb12 c0
  replace c1 := keep_below hb12 c1
  replace c2 := keep_below hb12 c2
  replace c3 := keep_below hb12 c3
  replace c4 := keep_below hb12 c4
  have HRG1_12_256 := Lib.hid (own_below HRG1_m11.out hb12)
  clear HRG1_m11
  have HRM0_12_258 := Lib.hid (own_below HRM0.out hb12)
  clear HRM0
  clear hb12
  rw [← HPL.out]
  go_wp2_with fail
  refine (HTVT.out _ HB12.out).mono ?_
  rintro e w13 ⟨A3, hp13, rfl, ho13, hn13, hb13⟩
  have HB13 := Lib.hid (HB12.out.trans (hb13.mono HB12.out.size))
  have HWA3_G1 : Hid (∀ k ∈ A3.blks, (Value.slice aG1 nG1 cG1).ownBlock ≠ some k) := Lib.hid (fun k hk e => by have h1 := (ho13.lt k hk).1; have h2 := (HRG1_12_256.out.lt k e).2; omega)
  have HWA3_M0 : Hid (∀ k ∈ A3.blks, (Value.slice aG0 nG0 cG0).ownBlock ≠ some k) := Lib.hid (fun k hk e => by have h1 := (ho13.lt k hk).1; have h2 := (HRM0_12_258.out.lt k e).2; omega)
  have HXc_A3 : Hid (w.heap.size ∉ A3.blks) := Lib.hid (fun hk => by have h1 := (ho13.lt _ hk).1; have h2 := cell_lt c0; simp only at h2; omega)
  replace c0 := keep_below hb13 c0
  replace c1 := keep_below hb13 c1
  replace c2 := keep_below hb13 c2
  replace c3 := keep_below hb13 c3
  replace c4 := keep_below hb13 c4
  have HRG1_13_272 := Lib.hid (own_below HRG1_12_256.out hb13)
  clear HRG1_12_256
  have HRM0_13_274 := Lib.hid (own_below HRM0_12_258.out hb13)
  clear HRM0_12_258
  have HPA3 := Lib.hid hp13
  have HOA3_13 := Lib.hid (ho13.base HB12.out.size)
  have HNA3 := Lib.hid hn13
  clear hp13 ho13 hn13
  clear hb13
  go_wp2_with fail
  refine (HCI.out A3 HPA3.out _ HOA3_13.out.in HB13.out).mono ?_
  rintro e w14 ⟨aH0, nH0, cH0, rfl, ho14, hb14⟩
  have HB14 := Lib.hid (HB13.out.trans (hb14.mono HB13.out.size))
  obtain ⟨bH0, hbeH0⟩ : ∃ b, b = w13.heap.size := ⟨_, rfl⟩
  have HYA3_H0 : Hid (∀ k ∈ A3.blks, k < bH0) := Lib.hid (fun k hk => by have := (HOA3_13.out.lt k hk).2; omega)
  have HZG1_H0 : Hid (∀ k, (Value.slice aG1 nG1 cG1).ownBlock = some k → k < bH0) := Lib.hid (fun k hk => by have := (HRG1_13_272.out.lt k hk).2; omega)
  have HZM0_H0 : Hid (∀ k, (Value.slice aG0 nG0 cG0).ownBlock = some k → k < bH0) := Lib.hid (fun k hk => by have := (HRM0_13_274.out.lt k hk).2; omega)
  have HVc_H0 : Hid (w.heap.size < bH0) := Lib.hid (by have h2 := cell_lt c0; simp only at h2; omega)
  have HRH0 : Hid (w14.ownsRow bH0 5 1 (.slice aH0 nH0 cH0) p.length (bv p)) := Lib.hid (by rw [hbeH0]; exact ho14)
  clear ho14 hbeH0
  replace c0 := keep_below hb14 c0
  replace c1 := keep_below hb14 c1
  replace c2 := keep_below hb14 c2
  replace c3 := keep_below hb14 c3
  replace c4 := keep_below hb14 c4
  have HOA3_14 := Lib.hid (HOA3_13.out.blw hb14)
  clear HOA3_13
  have HRG1_14_301 := Lib.hid (own_below HRG1_13_272.out hb14)
  clear HRG1_13_272
  have HRM0_14_303 := Lib.hid (own_below HRM0_13_274.out hb14)
  clear HRM0_13_274
  clear hb14
  go_wp2_with fail
  refine (eqByteS_yes _ _ _ p (own_reads HRH0.out) (own_reads HRG1_14_301.out) HL.out).mono ?_
  rintro e w15 ⟨rfl, hb15⟩
  have HB15 := Lib.hid (HB14.out.trans (hb15.mono HB14.out.size))
  replace c0 := keep_below hb15 c0
  replace c1 := keep_below hb15 c1
  replace c2 := keep_below hb15 c2
  replace c3 := keep_below hb15 c3
  replace c4 := keep_below hb15 c4
  have HOA3_15 := Lib.hid (HOA3_14.out.blw hb15)
  clear HOA3_14
  have HRG1_15_317 := Lib.hid (own_below HRG1_14_301.out hb15)
  clear HRG1_14_301
  have HRM0_15_319 := Lib.hid (own_below HRM0_14_303.out hb15)
  clear HRM0_14_303
  have HRH0_15_321 := Lib.hid (own_below HRH0.out hb15)
  clear HRH0
  clear hb15
  go_wp2_with fail
  refine (heldByteS_any _ _ p.length (own_reads HRM0_15_319.out) HL.out).mono ?_
  rintro e w16 ⟨rfl, hb16⟩
  have HB16 := Lib.hid (HB15.out.trans (hb16.mono HB15.out.size))
  replace c0 := keep_below hb16 c0
  replace c1 := keep_below hb16 c1
  replace c2 := keep_below hb16 c2
  replace c3 := keep_below hb16 c3
  replace c4 := keep_below hb16 c4
  have HOA3_16 := Lib.hid (HOA3_15.out.blw hb16)
  clear HOA3_15
  have HRG1_16_335 := Lib.hid (own_below HRG1_15_317.out hb16)
  clear HRG1_15_317
  have HRM0_16_337 := Lib.hid (own_below HRM0_15_319.out hb16)
  clear HRM0_15_319
  have HRH0_16_339 := Lib.hid (own_below HRH0_15_321.out hb16)
  clear HRH0_15_321
  clear hb16
  rw [← HPL.out]
  go_wp2
  go_ret
  exact ⟨rfl, HB16.out⟩
theorem walk (T : AT) (w : World) (hinT : T.In w w.heap.size) (hwfT : T.pt.Wf) (hTz : Tz w) : Calls Tryd.prog 4 #[T.val] w fun e w' => e = .returned (.bool true) ∧ Below w.heap.size w w' := by
  by_cases hzT : T.pt.sz ≤ 1048576
  case neg => exact big1 T w hinT hwfT hzT
  exact main T w hinT hwfT hTz hzT

set_option maxRecDepth 100000 in
theorem contract (H : Type) (enc : TypeId × Value → H) (W : World) (base : Nat) (args : Array Value) (ds gs : List (DataW H)) (before : List MemPlace)
    (hval : ∀ (j : Nat) t v, Tryd.f4.params[j]? = some t → args[j]? = some v → Value.okWide Tryd.prog W .any base t v)
    (hW : DataW.Whole enc Tryd.prog Tryd.f4.params.toList Rows.fnExactPackTightSpec.vars false W args.toList ds gs before)
    (hcond : ∀ k, (OpenSpec.ofChange Rows.fnExactPackTightSpec).cond = some k → k H (ds ++ gs) = true)
    (hsz : (DataW.weightsEach Tryd.prog (Tryd.f4.params.toList ++ (OpenSpec.ofChange Rows.fnExactPackTightSpec).bare.plain.varTypes Tryd.prog) (ds ++ gs)).all (· ≤ reachBytes) = true)
    (hL : laidMetH Tryd.prog Rows.fnExactPackTightRow.laid W) :
    Calls Tryd.prog 4 args W fun e W' => ∃ v, e = .returned v ∧ Rows.fnExactPackTightSpec.post enc Tryd.prog Tryd.f4 false true false false W args v W' := by
  have hW' := hW
  have hlt := hW'.lt
  obtain ⟨p, q, hA0, hV, rfl, hfz, hnd⟩ := hW
  have hA : DataW.TrodAll enc Tryd.prog W 0 (fun _ => true) true Tryd.f4.params.toList args.toList ds p := hA0
  rw [Tryd.params4] at hA hval hsz
  obtain ⟨v0, vs0, d0, ds0, p0, q0, hargs, rfl, rfl, h0, r0⟩ := trodAll_cons hA
  obtain ⟨rfl, rfl, rfl⟩ := trodAll_nil r0
  obtain rfl : args = #[v0] := by cases args; simp_all
  obtain ⟨rfl, rfl⟩ := trodVars_none hV
  simp only [List.append_nil] at hW' hlt
  have hlt0 : ∀ x ∈ p0, x.block < W.heap.size := fun x hx => hlt x (by simp [hx])
  have hk0 := h0
  obtain ⟨T0, rfl, hin0, hwf0⟩ := open_val (hval 0 24 v0 rfl rfl) h0
  clear hA0 hA
  have fin : ∀ W' : World, Below W.heap.size W W' → Rows.fnExactPackTightSpec.post enc Tryd.prog Tryd.f4 false true false false W _ (.bool true) W' := fun W' hb =>
    ⟨_, _, _, [], _, [], hW', trodAll_mk1 (shut_bool Tryd.underlying4 _), (trodAll_cons_mk (Below.trod laidOut (by kernel_rfl) (of_decide_eq_true (by kernel_rfl)) hk0 hb hlt0) trodAll_mk0), rfl, hb.frame _, fun h => by cases h⟩
  refine Calls.mono (R := fun e w' => e = .returned (.bool true) ∧ Below W.heap.size W w') ?_ (fun e W' h => ⟨_, h.1, fin W' h.2⟩)
  clear fin
  exact walk T0 W hin0 hwf0 (tabs_tz hL)

theorem laid_met (os : Os) : laidMet Tryd.prog Rows.fnExactPackTightRow.laid (((World.doorLaid Tryd.prog 4000 os)).forCall (fun _ _ => 0) ⟨#[], #[.agg #[.int .i64 0, .int .i64 0, .int .i64 0, .string ⟨#[]⟩, .slice none 0 0]], []⟩).memory :=
  (laidMet_of_run' 8 (by kernel_rfl) (by kernel_rfl))
theorem reads (os : Os) {H : Type} (enc : TypeId × Value → H) : ∃ places, DataW.whole enc Tryd.prog (((World.doorLaid Tryd.prog 4000 os)).forCall (fun _ _ => 0) ⟨#[], #[.agg #[.int .i64 0, .int .i64 0, .int .i64 0, .string ⟨#[]⟩, .slice none 0 0]], []⟩).memory Tryd.f4.params.toList Rows.fnExactPackTightSpec.vars false (#[.agg #[.int .i64 0, .int .i64 0, .int .i64 0, .string ⟨#[]⟩, .slice none 0 0]] : Array Value).toList 8 = some ([.agg [.lit (.int .i64 0), .lit (.int .i64 0), .lit (.int .i64 0), .lit (.string []), .nil]], [], places) :=
  ⟨[], by kernel_rfl⟩

set_option maxRecDepth 100000 in
theorem lifted (os : Os) (started : os.Started) (H : Type) (enc : TypeId × Value → H) (F : Stop.Interp) :
    ReturnsInHanded {} Tryd.checked os 4 .any ((OpenSpec.ofChange Rows.fnExactPackTightSpec).preRow enc Tryd.prog Tryd.f4 Rows.fnExactPackTightRow.domain false Rows.fnExactPackTightRow.laid) (((OpenSpec.ofChange Rows.fnExactPackTightSpec).at F).post enc Tryd.prog Tryd.f4 false true false false) := by
  obtain ⟨places, hx⟩ := reads os enc
  refine returnsInHanded_of_row (C := Tryd.checked) (s := OpenSpec.ofChange Rows.fnExactPackTightSpec) own started (by kernel_rfl) Tryd.func4
    (witness_row_atRef (enc := enc) (C := Tryd.checked) false (World.doorLaid Tryd.prog 4000 os) #[.agg #[.int .i64 0, .int .i64 0, .int .i64 0, .string ⟨#[]⟩, .slice none 0 0]] rfl (by kernel_rfl) (by kernel_rfl) (by kernel_rfl)
      (OpenSpec.preRow_of_cond 8 hx (by kernel_rfl) (fun k hk => by cases hk) (by kernel_rfl) (laid_met os))) ?_
  intro W base args ds gs before hval hW _ hcond hsz hL _ _
  exact contract H enc W base args ds gs before hval hW hcond hsz hL

theorem said : Rows.FnExactPackTightSaid :=
  OpenClaim.holds_of_cond 4 Tryd.f4 rfl rfl rfl rfl rfl rfl rfl ⟨rfl, rfl, rfl, rfl, rfl⟩ rfl rfl rfl rfl rfl (by kernel_rfl) Tryd.func4 (by kernel_rfl)
    (of_decide_eq_true (by kernel_rfl)) (by unfold Func.isWrapper; first | (rw [if_pos (by decide +kernel)]; kernel_rfl) | (rw [if_neg (by decide +kernel)]; exact ⟨rfl, rfl⟩))
    (fun os started H enc _ F => by rw [OpenClaim.pre_eq_preRow]; exact lifted os started H enc F)

theorem plain (f : FuncId) (fn : Func) (hf : Tryd.pinned.checked.prog.funcNamed Rows.fnExactPackTightRow.func = some f) (hfn : Tryd.pinned.checked.prog.funcs[f]? = some fn) :
    true = Tryd.pinned.checked.prog.looks [] ∧ ∀ (j : Nat) t, fn.params[j]? = some t → Tryd.pinned.checked.prog.wantsStandIn t = false := by
  obtain rfl : f = 4 := Option.some.inj ((show Tryd.prog.funcNamed Rows.fnExactPackTightRow.func = some 4 by kernel_rfl).symm.trans hf) |>.symm
  obtain rfl : fn = Tryd.f4 := (Option.some.inj (Tryd.func4.symm.trans hfn)).symm
  refine ⟨by kernel_rfl, fun j t ht => ?_⟩
  rw [Tryd.params4] at ht
  have hm : t ∈ [24] := by simpa using Array.mem_of_getElem? ht
  have hall : ([24].all fun u => !Tryd.prog.wantsStandIn u) = true := by kernel_rfl
  exact (show Tryd.prog.wantsStandIn t = false by simpa using List.all_eq_true.1 hall t hm)

theorem proved : Rows.FnExactPackTightCardSaid :=
  Claim7.holds_tied_plain_at .later [] _ _ _ _ said (fun _ h => by cases h) (by kernel_rfl) (fun _ h => by cases h) fnExactPackTight_row_tie rfl ⟨rfl, rfl⟩ (by kernel_rfl) rfl plain (by kernel_rfl)
#print axioms proved
end Go.Proofs.YtilgncebhgplaaaDoor.fnExactPackTight
