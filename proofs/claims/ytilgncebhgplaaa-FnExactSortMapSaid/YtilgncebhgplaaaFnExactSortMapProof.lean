/- For every input the law FnExactSortMap returns true and its arguments read afterwards as they read before; beside what the row states there is no condition. -/
import Derived.Test.YtilgncebhgplaaaRows
import Derived.WalkKit
import Derived.ProofKit
import Derived.OpenShut
import Derived.SizedLaws
import Derived.Carry
import Derived.Deep.DeepHandedRow


import Derived.Lib.LaidTab
import Derived.Stop.LaidErr
import Derived.Test.YtilgncebhgplaaaG0
import Derived.Test.YtilgncebhgplaaaG1
import Derived.Test.YtilgncebhgplaaaG3
import Derived.Test.YtilgncebhgplaaaG18
import Derived.Deep.RegionHeld3

namespace Go.Proofs.Ytilgncebhgplaaa.fnExactSortMap
open Go.ChangeShapes Go.WideShapes Go.ChangeAt Go.RowKit
open Go.ChangeMaps (open_string shut_string)
set_option linter.unusedVariables false

theorem own : ownKnob Try.prog.godebug = none := by kernel_rfl
theorem laidOut : laidOutB Try.prog = true := by kernel_rfl

set_option maxHeartbeats 1000000 in
theorem big1 (T : AT) (w : World) (hinT : T.In w w.heap.size) (hwfT : T.pt.Wf)  (hzT : ¬ T.pt.sz ≤ 1048576) : Calls Try.prog 3 #[T.val] w fun e w' => e = .returned (.bool true) ∧ Below w.heap.size w w' := by
  have HSZT := Lib.hid (fun (w1 : World) (hb : Below w.heap.size w w1) => szVal_any T hwfT w1 w.heap.size (1048576) (hinT.blw hb (Nat.le_refl _)) hb.size (by omega))
  have HRT : Hid (szR T.pt.sz (1048576) = -1) := Lib.hid (by unfold szR; rw [if_neg hzT])
  clear hinT hwfT hzT
  show Calls Try.prog 3 #[.agg #[.int .i64 T.k, .int .i64 T.n, .int .i64 T.x, .string ⟨T.s.toArray⟩, .slice T.a T.l.length T.cap]] w _
  go_enter Try.func3, Try.ntmps3
  go_wp2_with fail
  have hbox : Below w.heap.size w (w.alloc (.cells #[.int .i64 T.k, .int .i64 T.n, .int .i64 T.x, .string ⟨T.s.toArray⟩, .slice T.a T.l.length T.cap] 24)) := boxes1 w (.cells #[.int .i64 T.k, .int .i64 T.n, .int .i64 T.x, .string ⟨T.s.toArray⟩, .slice T.a T.l.length T.cap] 24)
  have hc : (w.alloc (.cells #[.int .i64 T.k, .int .i64 T.n, .int .i64 T.x, .string ⟨T.s.toArray⟩, .slice T.a T.l.length T.cap] 24)).cell? ⟨w.heap.size, 0, none⟩ = some (.int .i64 T.k) ∧ (w.alloc (.cells #[.int .i64 T.k, .int .i64 T.n, .int .i64 T.x, .string ⟨T.s.toArray⟩, .slice T.a T.l.length T.cap] 24)).cell? ⟨w.heap.size, 1, none⟩ = some (.int .i64 T.n) ∧ (w.alloc (.cells #[.int .i64 T.k, .int .i64 T.n, .int .i64 T.x, .string ⟨T.s.toArray⟩, .slice T.a T.l.length T.cap] 24)).cell? ⟨w.heap.size, 2, none⟩ = some (.int .i64 T.x) ∧ (w.alloc (.cells #[.int .i64 T.k, .int .i64 T.n, .int .i64 T.x, .string ⟨T.s.toArray⟩, .slice T.a T.l.length T.cap] 24)).cell? ⟨w.heap.size, 3, none⟩ = some (.string ⟨T.s.toArray⟩) ∧ (w.alloc (.cells #[.int .i64 T.k, .int .i64 T.n, .int .i64 T.x, .string ⟨T.s.toArray⟩, .slice T.a T.l.length T.cap] 24)).cell? ⟨w.heap.size, 4, none⟩ = some (.slice T.a T.l.length T.cap) := by refine ⟨?_, ?_, ?_, ?_, ?_⟩ <;> simp [go_sem]
  obtain ⟨c0, c1, c2, c3, c4⟩ := hc
  generalize (w.alloc (.cells #[.int .i64 T.k, .int .i64 T.n, .int .i64 T.x, .string ⟨T.s.toArray⟩, .slice T.a T.l.length T.cap] 24)) = w0 at *
  have HB0 := Lib.hid hbox
  clear hbox
  refine (HSZT.out _ HB0.out).mono ?_
  rintro e w1 ⟨rfl, hb1⟩
  have HB1 := Lib.hid (HB0.out.trans (hb1.mono HB0.out.size))
  replace c0 := keep_below hb1 c0
  replace c1 := keep_below hb1 c1
  replace c2 := keep_below hb1 c2
  replace c3 := keep_below hb1 c3
  replace c4 := keep_below hb1 c4
  clear hb1
  rw [HRT.out]
  go_wp2
  go_ret
  exact ⟨rfl, HB1.out⟩
set_option maxHeartbeats 4000000 in
set_option maxRecDepth 100000 in
theorem main (T : AT) (w : World) (hinT : T.In w w.heap.size) (hwfT : T.pt.Wf) (hzT : T.pt.sz ≤ 1048576) : Calls Try.prog 3 #[T.val] w fun e w' => e = .returned (.bool true) ∧ Below w.heap.size w w' := by
  have HSZT := Lib.hid (fun (w1 : World) (hb : Below w.heap.size w w1) => szVal_any T hwfT w1 w.heap.size (1048576) (hinT.blw hb (Nat.le_refl _)) hb.size (by omega))
  have HRT : Hid (szR T.pt.sz (1048576) = ((1048576 - T.pt.sz : Nat) : Int)) := Lib.hid (by unfold szR; rw [if_pos hzT]; omega)
  have hnegT : ¬ (((1048576 - T.pt.sz : Nat) : Int) < 0) := by omega
  have hsT : T.pt.sz ≤ 1048576 := by omega
  have HTVT := Lib.hid (fun (w1 : World) (hb : Below w.heap.size w w1) => toVal_any T hwfT hsT w1 w.heap.size (hinT.blw hb (Nat.le_refl _)) hb.size)
  have HEQT := Lib.hid (fun (T' U' : AT) (hp : T'.pt = T.pt) (hu : U'.pt = T.pt) (w1 : World) (hi : T'.In w1 w1.heap.size) (hj : U'.In w1 w1.heap.size) => eqVal_any T' (by rw [hp]; exact hwfT) U' w1 w1.heap.size (by rw [hp, hu]) hi hj (Nat.le_refl _))
  have HCAT : Hid (∀ X : AT, X.pt = T.pt → X.pt.cnt ≤ 2097152) := Lib.hid (fun X hX => by rw [hX]; have := cnt_le_sz T.pt; omega)
  have HCBT : Hid (∀ X : AT, X.pt = T.pt → PT.cntL (AT.ptL X.l) = PT.cntL (AT.ptL T.l)) := Lib.hid (fun X hX => by have h1 := cnt_eq X; have h2 := cnt_eq T; rw [hX] at h1; omega)
  obtain ⟨p, hp⟩ : ∃ p, p = T.pt.sorted := ⟨_, rfl⟩
  have HCS := Lib.hid (fun (X0 : AT) (hX0 : X0.pt = T.pt) (w1 : World) (ho0 : X0.In w1 w1.heap.size) => (show Calls Try.prog 6 #[X0.val] w1 (FreshV w1 p) from by have h := sortmap_spec X0 w1 w1.heap.size (by rw [hX0]; exact hwfT) ho0 (Nat.le_refl _) (by rw [hX0]; exact hsT); rw [hX0, ← hp] at h; exact h))
  have HCI := Lib.hid (fun (X0 : AT) (hX0 : X0.pt = T.pt) (w1 : World) (ho0 : X0.Own w1 w.heap.size) => (show Calls Try.prog 8 #[X0.val] w1 (FreshV w1 p) from by have h := sortmap_impl X0 w1 w.heap.size ho0 (by rw [hX0]; exact hwfT) (by rw [hX0]; exact hsT); rw [hX0, ← hp] at h; exact h))
  have hvw : (p).Wf := by rw [hp]; exact sorted_wf hwfT
  have hpc : p.cnt ≤ 1048578 := by rw [hp, sorted_cnt]; have := cnt_le_sz T.pt; omega
  have HER := Lib.hid (fun (X Y : AT) (hX : X.pt = p) (hY : Y.pt = p) (w1 : World) (ho : X.In w1 w1.heap.size) (hy : Y.In w1 w1.heap.size) => eqVal_any X (pt_wf hX hvw) Y w1 w1.heap.size (hX.trans hY.symm) ho hy (Nat.le_refl _))
  have HCN : Hid (∀ X : AT, X.pt = p → X.pt.cnt ≤ 2097152) := Lib.hid (fun X hX => by rw [hX]; omega)
  have HCC : Hid (∀ X : AT, X.pt = p → PT.cntL (AT.ptL X.l) = p.cnt - 1) := Lib.hid (fun X hX => by have h1 := cnt_eq X; rw [hX] at h1; omega)
  obtain ⟨MM, hMM⟩ : ∃ MM, MM = 1 + 4 * (p.cnt - 1) := ⟨_, rfl⟩
  have HMM := Lib.hid hMM
  have hneg2 : ¬ ((MM : Int) < 0) := by omega
  obtain ⟨MK, hMK⟩ : ∃ MK, MK = 1 + 4 * PT.cntL (AT.ptL T.l) := ⟨_, rfl⟩
  have HMK := Lib.hid hMK
  have hneg3 : ¬ ((MK : Int) < 0) := by omega
  clear hp hvw hpc hMM hMK hinT hwfT hzT hsT
  generalize 1048576 - T.pt.sz = leftT at *
  show Calls Try.prog 3 #[.agg #[.int .i64 T.k, .int .i64 T.n, .int .i64 T.x, .string ⟨T.s.toArray⟩, .slice T.a T.l.length T.cap]] w _
  go_enter Try.func3, Try.ntmps3
  go_wp2_with fail
  have hbox : Below w.heap.size w (w.alloc (.cells #[.int .i64 T.k, .int .i64 T.n, .int .i64 T.x, .string ⟨T.s.toArray⟩, .slice T.a T.l.length T.cap] 24)) := boxes1 w (.cells #[.int .i64 T.k, .int .i64 T.n, .int .i64 T.x, .string ⟨T.s.toArray⟩, .slice T.a T.l.length T.cap] 24)
  have hc : (w.alloc (.cells #[.int .i64 T.k, .int .i64 T.n, .int .i64 T.x, .string ⟨T.s.toArray⟩, .slice T.a T.l.length T.cap] 24)).cell? ⟨w.heap.size, 0, none⟩ = some (.int .i64 T.k) ∧ (w.alloc (.cells #[.int .i64 T.k, .int .i64 T.n, .int .i64 T.x, .string ⟨T.s.toArray⟩, .slice T.a T.l.length T.cap] 24)).cell? ⟨w.heap.size, 1, none⟩ = some (.int .i64 T.n) ∧ (w.alloc (.cells #[.int .i64 T.k, .int .i64 T.n, .int .i64 T.x, .string ⟨T.s.toArray⟩, .slice T.a T.l.length T.cap] 24)).cell? ⟨w.heap.size, 2, none⟩ = some (.int .i64 T.x) ∧ (w.alloc (.cells #[.int .i64 T.k, .int .i64 T.n, .int .i64 T.x, .string ⟨T.s.toArray⟩, .slice T.a T.l.length T.cap] 24)).cell? ⟨w.heap.size, 3, none⟩ = some (.string ⟨T.s.toArray⟩) ∧ (w.alloc (.cells #[.int .i64 T.k, .int .i64 T.n, .int .i64 T.x, .string ⟨T.s.toArray⟩, .slice T.a T.l.length T.cap] 24)).cell? ⟨w.heap.size, 4, none⟩ = some (.slice T.a T.l.length T.cap) := by refine ⟨?_, ?_, ?_, ?_, ?_⟩ <;> simp [go_sem]
  obtain ⟨c0, c1, c2, c3, c4⟩ := hc
  generalize (w.alloc (.cells #[.int .i64 T.k, .int .i64 T.n, .int .i64 T.x, .string ⟨T.s.toArray⟩, .slice T.a T.l.length T.cap] 24)) = w0 at *
  have HB0 := Lib.hid hbox
  clear hbox
  refine (HSZT.out _ HB0.out).mono ?_
  rintro e w1 ⟨rfl, hb1⟩
  have HB1 := Lib.hid (HB0.out.trans (hb1.mono HB0.out.size))
  replace c0 := keep_below hb1 c0
  replace c1 := keep_below hb1 c1
  replace c2 := keep_below hb1 c2
  replace c3 := keep_below hb1 c3
  replace c4 := keep_below hb1 c4
  clear hb1
  rw [HRT.out]
  go_wp2_with fail
  refine (HTVT.out _ HB1.out).mono ?_
  rintro e w2 ⟨A1, hp2, rfl, ho2, hn2, hb2⟩
  have HB2 := Lib.hid (HB1.out.trans (hb2.mono HB1.out.size))
  have HXc_A1 : Hid (w.heap.size ∉ A1.blks) := Lib.hid (fun hk => by have h1 := (ho2.lt _ hk).1; have h2 := cell_lt c0; simp only at h2; omega)
  replace c0 := keep_below hb2 c0
  replace c1 := keep_below hb2 c1
  replace c2 := keep_below hb2 c2
  replace c3 := keep_below hb2 c3
  replace c4 := keep_below hb2 c4
  have HPA1 := Lib.hid hp2
  have HOA1_2 := Lib.hid (ho2.base HB1.out.size)
  have HNA1 := Lib.hid hn2
  clear hp2 ho2 hn2
  clear hb2
  go_wp2_with fail
  refine (HCS.out A1 HPA1.out _ HOA1_2.out.in).mono ?_
  rintro e w3 ⟨G1, hp3, rfl, ho3, hn3, hb3⟩
  have HB3 := Lib.hid (HB2.out.trans (hb3.mono HB2.out.size))
  have HDG1_A1 : Hid (∀ k ∈ G1.blks, k ∉ A1.blks) := Lib.hid (fun k hk hk2 => by have h1 := (ho3.lt k hk).1; have h2 := (HOA1_2.out.lt k hk2).2; omega)
  have HDA1_G1 : Hid (∀ k ∈ A1.blks, k ∉ G1.blks) := Lib.hid (fun k hk hk2 => by have h1 := (ho3.lt k hk2).1; have h2 := (HOA1_2.out.lt k hk).2; omega)
  have HXc_G1 : Hid (w.heap.size ∉ G1.blks) := Lib.hid (fun hk => by have h1 := (ho3.lt _ hk).1; have h2 := cell_lt c0; simp only at h2; omega)
  replace c0 := keep_below hb3 c0
  replace c1 := keep_below hb3 c1
  replace c2 := keep_below hb3 c2
  replace c3 := keep_below hb3 c3
  replace c4 := keep_below hb3 c4
  have HOA1_3 := Lib.hid (HOA1_2.out.blw hb3)
  clear HOA1_2
  have HPG1 := Lib.hid hp3
  have HOG1_3 := Lib.hid (ho3.base HB2.out.size)
  have HNG1 := Lib.hid hn3
  clear hp3 ho3 hn3
  clear hb3
  have HXp_A1 : Hid (w3.heap.size ∉ A1.blks) := Lib.hid (fun hk => by have h2 := (HOA1_3.out.lt _ hk).2; omega)
  have HXp_G1 : Hid (w3.heap.size ∉ G1.blks) := Lib.hid (fun hk => by have h2 := (HOG1_3.out.lt _ hk).2; omega)
  have hv4 := vbox w3 (.cells #[.int .i64 G1.k, .int .i64 G1.n, .int .i64 G1.x, .string ⟨G1.s.toArray⟩, .slice G1.a G1.l.length G1.cap] 28)
  have HB4 := Lib.hid (HB3.out.trans (hv4.mono HB3.out.size))
  replace c0 := keep_below hv4 c0
  replace c1 := keep_below hv4 c1
  replace c2 := keep_below hv4 c2
  replace c3 := keep_below hv4 c3
  replace c4 := keep_below hv4 c4
  have HOA1_4 := Lib.hid (HOA1_3.out.blw hv4)
  clear HOA1_3
  have HOG1_4 := Lib.hid (HOG1_3.out.blw hv4)
  clear HOG1_3
  obtain ⟨p0, p1, p2, p3, p4⟩ := vcells5 w3 G1 28
  clear hv4
  go_wp2_with fail
  generalize (w3.alloc (.cells #[.int .i64 G1.k, .int .i64 G1.n, .int .i64 G1.x, .string ⟨G1.s.toArray⟩, .slice G1.a G1.l.length G1.cap] 28)) = w4 at *
  refine (HTVT.out _ HB4.out).mono ?_
  rintro e w5 ⟨X0, hp5, rfl, ho5, hn5, hb5⟩
  have HB5 := Lib.hid (HB4.out.trans (hb5.mono HB4.out.size))
  have HDX0_A1 : Hid (∀ k ∈ X0.blks, k ∉ A1.blks) := Lib.hid (fun k hk hk2 => by have h1 := (ho5.lt k hk).1; have h2 := (HOA1_4.out.lt k hk2).2; omega)
  have HDA1_X0 : Hid (∀ k ∈ A1.blks, k ∉ X0.blks) := Lib.hid (fun k hk hk2 => by have h1 := (ho5.lt k hk2).1; have h2 := (HOA1_4.out.lt k hk).2; omega)
  have HDX0_G1 : Hid (∀ k ∈ X0.blks, k ∉ G1.blks) := Lib.hid (fun k hk hk2 => by have h1 := (ho5.lt k hk).1; have h2 := (HOG1_4.out.lt k hk2).2; omega)
  have HDG1_X0 : Hid (∀ k ∈ G1.blks, k ∉ X0.blks) := Lib.hid (fun k hk hk2 => by have h1 := (ho5.lt k hk2).1; have h2 := (HOG1_4.out.lt k hk).2; omega)
  have HXc_X0 : Hid (w.heap.size ∉ X0.blks) := Lib.hid (fun hk => by have h1 := (ho5.lt _ hk).1; have h2 := cell_lt c0; simp only at h2; omega)
  have HXp_X0 : Hid (w3.heap.size ∉ X0.blks) := Lib.hid (fun hk => by have h1 := (ho5.lt _ hk).1; have h2 := cell_lt p0; simp only at h2; omega)
  replace c0 := keep_below hb5 c0
  replace c1 := keep_below hb5 c1
  replace c2 := keep_below hb5 c2
  replace c3 := keep_below hb5 c3
  replace c4 := keep_below hb5 c4
  replace p0 := keep_below hb5 p0
  replace p1 := keep_below hb5 p1
  replace p2 := keep_below hb5 p2
  replace p3 := keep_below hb5 p3
  replace p4 := keep_below hb5 p4
  have HOA1_5 := Lib.hid (HOA1_4.out.blw hb5)
  clear HOA1_4
  have HOG1_5 := Lib.hid (HOG1_4.out.blw hb5)
  clear HOG1_4
  have HPX0 := Lib.hid hp5
  have HOX0_5 := Lib.hid (ho5.base HB4.out.size)
  have HNX0 := Lib.hid hn5
  clear hp5 ho5 hn5
  clear hb5
  have HXq_A1 : Hid (w5.heap.size ∉ A1.blks) := Lib.hid (fun hk => by have h2 := (HOA1_5.out.lt _ hk).2; omega)
  have HXq_G1 : Hid (w5.heap.size ∉ G1.blks) := Lib.hid (fun hk => by have h2 := (HOG1_5.out.lt _ hk).2; omega)
  have HXq_X0 : Hid (w5.heap.size ∉ X0.blks) := Lib.hid (fun hk => by have h2 := (HOX0_5.out.lt _ hk).2; omega)
  have hv6 := vbox w5 (.cells #[.int .i64 X0.k, .int .i64 X0.n, .int .i64 X0.x, .string ⟨X0.s.toArray⟩, .slice X0.a X0.l.length X0.cap] 28)
  have HB6 := Lib.hid (HB5.out.trans (hv6.mono HB5.out.size))
  replace c0 := keep_below hv6 c0
  replace c1 := keep_below hv6 c1
  replace c2 := keep_below hv6 c2
  replace c3 := keep_below hv6 c3
  replace c4 := keep_below hv6 c4
  replace p0 := keep_below hv6 p0
  replace p1 := keep_below hv6 p1
  replace p2 := keep_below hv6 p2
  replace p3 := keep_below hv6 p3
  replace p4 := keep_below hv6 p4
  have HOA1_6 := Lib.hid (HOA1_5.out.blw hv6)
  clear HOA1_5
  have HOG1_6 := Lib.hid (HOG1_5.out.blw hv6)
  clear HOG1_5
  have HOX0_6 := Lib.hid (HOX0_5.out.blw hv6)
  clear HOX0_5
  obtain ⟨q0, q1, q2, q3, q4⟩ := vcells5 w5 X0 28
  clear hv6
  go_wp2_with fail
  generalize (w5.alloc (.cells #[.int .i64 X0.k, .int .i64 X0.n, .int .i64 X0.x, .string ⟨X0.s.toArray⟩, .slice X0.a X0.l.length X0.cap] 28)) = w6 at *
  refine (HCI.out X0 HPX0.out _ HOX0_6.out).mono ?_
  rintro e w7 ⟨G0, hp7, rfl, ho7, hn7, hb7⟩
  have HB7 := Lib.hid (HB6.out.trans (hb7.mono HB6.out.size))
  have HDG0_A1 : Hid (∀ k ∈ G0.blks, k ∉ A1.blks) := Lib.hid (fun k hk hk2 => by have h1 := (ho7.lt k hk).1; have h2 := (HOA1_6.out.lt k hk2).2; omega)
  have HDA1_G0 : Hid (∀ k ∈ A1.blks, k ∉ G0.blks) := Lib.hid (fun k hk hk2 => by have h1 := (ho7.lt k hk2).1; have h2 := (HOA1_6.out.lt k hk).2; omega)
  have HDG0_G1 : Hid (∀ k ∈ G0.blks, k ∉ G1.blks) := Lib.hid (fun k hk hk2 => by have h1 := (ho7.lt k hk).1; have h2 := (HOG1_6.out.lt k hk2).2; omega)
  have HDG1_G0 : Hid (∀ k ∈ G1.blks, k ∉ G0.blks) := Lib.hid (fun k hk hk2 => by have h1 := (ho7.lt k hk2).1; have h2 := (HOG1_6.out.lt k hk).2; omega)
  have HDG0_X0 : Hid (∀ k ∈ G0.blks, k ∉ X0.blks) := Lib.hid (fun k hk hk2 => by have h1 := (ho7.lt k hk).1; have h2 := (HOX0_6.out.lt k hk2).2; omega)
  have HDX0_G0 : Hid (∀ k ∈ X0.blks, k ∉ G0.blks) := Lib.hid (fun k hk hk2 => by have h1 := (ho7.lt k hk2).1; have h2 := (HOX0_6.out.lt k hk).2; omega)
  have HXc_G0 : Hid (w.heap.size ∉ G0.blks) := Lib.hid (fun hk => by have h1 := (ho7.lt _ hk).1; have h2 := cell_lt c0; simp only at h2; omega)
  have HXp_G0 : Hid (w3.heap.size ∉ G0.blks) := Lib.hid (fun hk => by have h1 := (ho7.lt _ hk).1; have h2 := cell_lt p0; simp only at h2; omega)
  have HXq_G0 : Hid (w5.heap.size ∉ G0.blks) := Lib.hid (fun hk => by have h1 := (ho7.lt _ hk).1; have h2 := cell_lt q0; simp only at h2; omega)
  replace c0 := keep_below hb7 c0
  replace c1 := keep_below hb7 c1
  replace c2 := keep_below hb7 c2
  replace c3 := keep_below hb7 c3
  replace c4 := keep_below hb7 c4
  replace p0 := keep_below hb7 p0
  replace p1 := keep_below hb7 p1
  replace p2 := keep_below hb7 p2
  replace p3 := keep_below hb7 p3
  replace p4 := keep_below hb7 p4
  replace q0 := keep_below hb7 q0
  replace q1 := keep_below hb7 q1
  replace q2 := keep_below hb7 q2
  replace q3 := keep_below hb7 q3
  replace q4 := keep_below hb7 q4
  have HOA1_7 := Lib.hid (HOA1_6.out.blw hb7)
  clear HOA1_6
  have HOG1_7 := Lib.hid (HOG1_6.out.blw hb7)
  clear HOG1_6
  have HOX0_7 := Lib.hid (HOX0_6.out.blw hb7)
  clear HOX0_6
  have HPG0 := Lib.hid hp7
  have HOG0_7 := Lib.hid (ho7.base HB6.out.size)
  have HNG0 := Lib.hid hn7
  clear hp7 ho7 hn7
  clear hb7
  have HXr_A1 : Hid (w7.heap.size ∉ A1.blks) := Lib.hid (fun hk => by have h2 := (HOA1_7.out.lt _ hk).2; omega)
  have HXr_G1 : Hid (w7.heap.size ∉ G1.blks) := Lib.hid (fun hk => by have h2 := (HOG1_7.out.lt _ hk).2; omega)
  have HXr_X0 : Hid (w7.heap.size ∉ X0.blks) := Lib.hid (fun hk => by have h2 := (HOX0_7.out.lt _ hk).2; omega)
  have HXr_G0 : Hid (w7.heap.size ∉ G0.blks) := Lib.hid (fun hk => by have h2 := (HOG0_7.out.lt _ hk).2; omega)
  have hv8 := vbox w7 (.cells #[.int .i64 G0.k, .int .i64 G0.n, .int .i64 G0.x, .string ⟨G0.s.toArray⟩, .slice G0.a G0.l.length G0.cap] 28)
  have HB8 := Lib.hid (HB7.out.trans (hv8.mono HB7.out.size))
  replace c0 := keep_below hv8 c0
  replace c1 := keep_below hv8 c1
  replace c2 := keep_below hv8 c2
  replace c3 := keep_below hv8 c3
  replace c4 := keep_below hv8 c4
  replace p0 := keep_below hv8 p0
  replace p1 := keep_below hv8 p1
  replace p2 := keep_below hv8 p2
  replace p3 := keep_below hv8 p3
  replace p4 := keep_below hv8 p4
  replace q0 := keep_below hv8 q0
  replace q1 := keep_below hv8 q1
  replace q2 := keep_below hv8 q2
  replace q3 := keep_below hv8 q3
  replace q4 := keep_below hv8 q4
  have HOA1_8 := Lib.hid (HOA1_7.out.blw hv8)
  clear HOA1_7
  have HOG1_8 := Lib.hid (HOG1_7.out.blw hv8)
  clear HOG1_7
  have HOX0_8 := Lib.hid (HOX0_7.out.blw hv8)
  clear HOX0_7
  have HOG0_8 := Lib.hid (HOG0_7.out.blw hv8)
  clear HOG0_7
  obtain ⟨r0, r1, r2, r3, r4⟩ := vcells5 w7 G0 28
  clear hv8
  go_wp2_with fail
  generalize (w7.alloc (.cells #[.int .i64 G0.k, .int .i64 G0.n, .int .i64 G0.x, .string ⟨G0.s.toArray⟩, .slice G0.a G0.l.length G0.cap] 28)) = w8 at *
  refine (HER.out G0 G1 HPG0.out HPG1.out _ HOG0_8.out.in HOG1_8.out.in).mono ?_
  rintro e w9 ⟨rfl, hb9⟩
  have HB9 := Lib.hid (HB8.out.trans (hb9.mono HB8.out.size))
  replace c0 := keep_below hb9 c0
  replace c1 := keep_below hb9 c1
  replace c2 := keep_below hb9 c2
  replace c3 := keep_below hb9 c3
  replace c4 := keep_below hb9 c4
  replace p0 := keep_below hb9 p0
  replace p1 := keep_below hb9 p1
  replace p2 := keep_below hb9 p2
  replace p3 := keep_below hb9 p3
  replace p4 := keep_below hb9 p4
  replace q0 := keep_below hb9 q0
  replace q1 := keep_below hb9 q1
  replace q2 := keep_below hb9 q2
  replace q3 := keep_below hb9 q3
  replace q4 := keep_below hb9 q4
  replace r0 := keep_below hb9 r0
  replace r1 := keep_below hb9 r1
  replace r2 := keep_below hb9 r2
  replace r3 := keep_below hb9 r3
  replace r4 := keep_below hb9 r4
  have HOA1_9 := Lib.hid (HOA1_8.out.blw hb9)
  clear HOA1_8
  have HOG1_9 := Lib.hid (HOG1_8.out.blw hb9)
  clear HOG1_8
  have HOX0_9 := Lib.hid (HOX0_8.out.blw hb9)
  clear HOX0_8
  have HOG0_9 := Lib.hid (HOG0_8.out.blw hb9)
  clear HOG0_8
  clear hb9
  go_wp2_with fail
  have hownA1 := HOA1_9.out
  have hownG1 := HOG1_9.out
  have hownX0 := HOX0_9.out
  have hownG0 := HOG0_9.out
  have hbel := HB9.out
  go_region_held3 (fun W' => W'.cell? ⟨w.heap.size, 0, none⟩ = some (.int .i64 T.k) ∧ W'.cell? ⟨w.heap.size, 1, none⟩ = some (.int .i64 T.n) ∧ W'.cell? ⟨w.heap.size, 2, none⟩ = some (.int .i64 T.x) ∧ W'.cell? ⟨w.heap.size, 3, none⟩ = some (.string ⟨T.s.toArray⟩) ∧ W'.cell? ⟨w.heap.size, 4, none⟩ = some (.slice T.a T.l.length T.cap) ∧ W'.cell? ⟨w3.heap.size, 0, none⟩ = some (.int .i64 G1.k) ∧ W'.cell? ⟨w3.heap.size, 1, none⟩ = some (.int .i64 G1.n) ∧ W'.cell? ⟨w3.heap.size, 2, none⟩ = some (.int .i64 G1.x) ∧ W'.cell? ⟨w3.heap.size, 3, none⟩ = some (.string ⟨G1.s.toArray⟩) ∧ W'.cell? ⟨w3.heap.size, 4, none⟩ = some (.slice G1.a G1.l.length G1.cap) ∧ W'.cell? ⟨w5.heap.size, 0, none⟩ = some (.int .i64 X0.k) ∧ W'.cell? ⟨w5.heap.size, 1, none⟩ = some (.int .i64 X0.n) ∧ W'.cell? ⟨w5.heap.size, 2, none⟩ = some (.int .i64 X0.x) ∧ W'.cell? ⟨w5.heap.size, 3, none⟩ = some (.string ⟨X0.s.toArray⟩) ∧ W'.cell? ⟨w5.heap.size, 4, none⟩ = some (.slice X0.a X0.l.length X0.cap) ∧ W'.cell? ⟨w7.heap.size, 0, none⟩ = some (.int .i64 G0.k) ∧ W'.cell? ⟨w7.heap.size, 1, none⟩ = some (.int .i64 G0.n) ∧ W'.cell? ⟨w7.heap.size, 2, none⟩ = some (.int .i64 G0.x) ∧ W'.cell? ⟨w7.heap.size, 3, none⟩ = some (.string ⟨G0.s.toArray⟩) ∧ W'.cell? ⟨w7.heap.size, 4, none⟩ = some (.slice G0.a G0.l.length G0.cap) ∧ Below w.heap.size w W' ∧ A1.Own W' w.heap.size ∧ G1.Own W' w.heap.size ∧ X0.Own W' w.heap.size ∧ G0.Own W' w.heap.size) ((refine ⟨?_, ?_, ?_, ?_, ?_, ?_, ?_, ?_, ?_, ?_, ?_, ?_, ?_, ?_, ?_, ?_, ?_, ?_, ?_, ?_, ?_, ?_, ?_, ?_, ?_⟩ <;> first | assumption | (refine Below.drew ?_; assumption) | (refine AT.Own.drew ?_; assumption) | exact keep_below (by assumption) (by assumption) | exact below_tr (by assumption) (by assumption) | exact own_blw (by assumption) (by assumption))) ((first | (go_at_call 7; go_split_ands; ((with_reducible refine (HTVT.out _ (by assumption)).mono ?_); rintro e u1 ⟨Y1, hpu1, rfl, hou1, hnu1, hbu1⟩; have HOu1 := Lib.hid hou1; have HPu1 := Lib.hid hpu1; clear hou1 hnu1 hpu1)) | (go_at_call 9; go_split_ands; refine (HEQT.out X0 Y1 HPX0.out HPu1.out _ (AT.Own.in (by assumption)) HOu1.out.in).mono ?_; rintro e v1 ⟨rfl, hbv1⟩)))
  go_split_ands
  replace c0 : v1.cell? ⟨w.heap.size, 0, none⟩ = some (.int .i64 T.k) := by assumption
  replace c1 : v1.cell? ⟨w.heap.size, 1, none⟩ = some (.int .i64 T.n) := by assumption
  replace c2 : v1.cell? ⟨w.heap.size, 2, none⟩ = some (.int .i64 T.x) := by assumption
  replace c3 : v1.cell? ⟨w.heap.size, 3, none⟩ = some (.string ⟨T.s.toArray⟩) := by assumption
  replace c4 : v1.cell? ⟨w.heap.size, 4, none⟩ = some (.slice T.a T.l.length T.cap) := by assumption
  replace p0 : v1.cell? ⟨w3.heap.size, 0, none⟩ = some (.int .i64 G1.k) := by assumption
  replace p1 : v1.cell? ⟨w3.heap.size, 1, none⟩ = some (.int .i64 G1.n) := by assumption
  replace p2 : v1.cell? ⟨w3.heap.size, 2, none⟩ = some (.int .i64 G1.x) := by assumption
  replace p3 : v1.cell? ⟨w3.heap.size, 3, none⟩ = some (.string ⟨G1.s.toArray⟩) := by assumption
  replace p4 : v1.cell? ⟨w3.heap.size, 4, none⟩ = some (.slice G1.a G1.l.length G1.cap) := by assumption
  replace q0 : v1.cell? ⟨w5.heap.size, 0, none⟩ = some (.int .i64 X0.k) := by assumption
  replace q1 : v1.cell? ⟨w5.heap.size, 1, none⟩ = some (.int .i64 X0.n) := by assumption
  replace q2 : v1.cell? ⟨w5.heap.size, 2, none⟩ = some (.int .i64 X0.x) := by assumption
  replace q3 : v1.cell? ⟨w5.heap.size, 3, none⟩ = some (.string ⟨X0.s.toArray⟩) := by assumption
  replace q4 : v1.cell? ⟨w5.heap.size, 4, none⟩ = some (.slice X0.a X0.l.length X0.cap) := by assumption
  replace r0 : v1.cell? ⟨w7.heap.size, 0, none⟩ = some (.int .i64 G0.k) := by assumption
  replace r1 : v1.cell? ⟨w7.heap.size, 1, none⟩ = some (.int .i64 G0.n) := by assumption
  replace r2 : v1.cell? ⟨w7.heap.size, 2, none⟩ = some (.int .i64 G0.x) := by assumption
  replace r3 : v1.cell? ⟨w7.heap.size, 3, none⟩ = some (.string ⟨G0.s.toArray⟩) := by assumption
  replace r4 : v1.cell? ⟨w7.heap.size, 4, none⟩ = some (.slice G0.a G0.l.length G0.cap) := by assumption
  have HB10 : Hid (Below w.heap.size w v1) := Lib.hid (by assumption)
  have HOA1_10 : Hid (A1.Own v1 w.heap.size) := Lib.hid (by assumption)
  have HOG1_10 : Hid (G1.Own v1 w.heap.size) := Lib.hid (by assumption)
  have HOX0_10 : Hid (X0.Own v1 w.heap.size) := Lib.hid (by assumption)
  have HOG0_10 : Hid (G0.Own v1 w.heap.size) := Lib.hid (by assumption)
  clear hbel hownA1 hownG1 hownX0 hownG0
  go_wp2_with fail
  refine (mark_tree X0 _ _ HOX0_10.out HNX0.out (HCAT.out X0 HPX0.out)).mono ?_
  rintro e w11 ⟨⟨rfl, -⟩, hbs11⟩
  have HB11 := Lib.hid (HB10.out.trans (hbs11.below (fun k hk => (HOX0_10.out.lt k hk).1) HB10.out.size))
  replace c0 := hbs11.cell HXc_X0.out c0
  replace c1 := hbs11.cell HXc_X0.out c1
  replace c2 := hbs11.cell HXc_X0.out c2
  replace c3 := hbs11.cell HXc_X0.out c3
  replace c4 := hbs11.cell HXc_X0.out c4
  replace p0 := hbs11.cell HXp_X0.out p0
  replace p1 := hbs11.cell HXp_X0.out p1
  replace p2 := hbs11.cell HXp_X0.out p2
  replace p3 := hbs11.cell HXp_X0.out p3
  replace p4 := hbs11.cell HXp_X0.out p4
  replace q0 := hbs11.cell HXq_X0.out q0
  replace q1 := hbs11.cell HXq_X0.out q1
  replace q2 := hbs11.cell HXq_X0.out q2
  replace q3 := hbs11.cell HXq_X0.out q3
  replace q4 := hbs11.cell HXq_X0.out q4
  replace r0 := hbs11.cell HXr_X0.out r0
  replace r1 := hbs11.cell HXr_X0.out r1
  replace r2 := hbs11.cell HXr_X0.out r2
  replace r3 := hbs11.cell HXr_X0.out r3
  replace r4 := hbs11.cell HXr_X0.out r4
  have HOA1_11 := Lib.hid (HOA1_10.out.onlyBs hbs11 HDA1_X0.out)
  clear HOA1_10
  have HOG1_11 := Lib.hid (HOG1_10.out.onlyBs hbs11 HDG1_X0.out)
  clear HOG1_10
  have HOG0_11 := Lib.hid (HOG0_10.out.onlyBs hbs11 HDG0_X0.out)
  clear HOG0_10
  clear hbs11 HOX0_10
  rw [HCBT.out X0 HPX0.out, ← HMK.out]
  go_wp2_with fail
  refine (HER.out G0 G1 HPG0.out HPG1.out _ HOG0_11.out.in HOG1_11.out.in).mono ?_
  rintro e w12 ⟨rfl, hb12⟩
  have HB12 := Lib.hid (HB11.out.trans (hb12.mono HB11.out.size))
  replace c0 := keep_below hb12 c0
  replace c1 := keep_below hb12 c1
  replace c2 := keep_below hb12 c2
  replace c3 := keep_below hb12 c3
  replace c4 := keep_below hb12 c4
  replace p0 := keep_below hb12 p0
  replace p1 := keep_below hb12 p1
  replace p2 := keep_below hb12 p2
  replace p3 := keep_below hb12 p3
  replace p4 := keep_below hb12 p4
  replace q0 := keep_below hb12 q0
  replace q1 := keep_below hb12 q1
  replace q2 := keep_below hb12 q2
  replace q3 := keep_below hb12 q3
  replace q4 := keep_below hb12 q4
  replace r0 := keep_below hb12 r0
  replace r1 := keep_below hb12 r1
  replace r2 := keep_below hb12 r2
  replace r3 := keep_below hb12 r3
  replace r4 := keep_below hb12 r4
  have HOA1_12 := Lib.hid (HOA1_11.out.blw hb12)
  clear HOA1_11
  have HOG1_12 := Lib.hid (HOG1_11.out.blw hb12)
  clear HOG1_11
  have HOG0_12 := Lib.hid (HOG0_11.out.blw hb12)
  clear HOG0_11
  clear hb12
  go_wp2_with fail
  refine (mark_tree G0 _ _ HOG0_12.out HNG0.out (HCN.out G0 HPG0.out)).mono ?_
  rintro e w13 ⟨⟨rfl, hm13⟩, hbs13⟩
  have HB13 := Lib.hid (HB12.out.trans (hbs13.below (fun k hk => (HOG0_12.out.lt k hk).1) HB12.out.size))
  replace c0 := hbs13.cell HXc_G0.out c0
  replace c1 := hbs13.cell HXc_G0.out c1
  replace c2 := hbs13.cell HXc_G0.out c2
  replace c3 := hbs13.cell HXc_G0.out c3
  replace c4 := hbs13.cell HXc_G0.out c4
  replace p0 := hbs13.cell HXp_G0.out p0
  replace p1 := hbs13.cell HXp_G0.out p1
  replace p2 := hbs13.cell HXp_G0.out p2
  replace p3 := hbs13.cell HXp_G0.out p3
  replace p4 := hbs13.cell HXp_G0.out p4
  replace q0 := hbs13.cell HXq_G0.out q0
  replace q1 := hbs13.cell HXq_G0.out q1
  replace q2 := hbs13.cell HXq_G0.out q2
  replace q3 := hbs13.cell HXq_G0.out q3
  replace q4 := hbs13.cell HXq_G0.out q4
  replace r0 := hbs13.cell HXr_G0.out r0
  replace r1 := hbs13.cell HXr_G0.out r1
  replace r2 := hbs13.cell HXr_G0.out r2
  replace r3 := hbs13.cell HXr_G0.out r3
  replace r4 := hbs13.cell HXr_G0.out r4
  have HOA1_13 := Lib.hid (HOA1_12.out.onlyBs hbs13 HDA1_G0.out)
  clear HOA1_12
  have HOG1_13 := Lib.hid (HOG1_12.out.onlyBs hbs13 HDG1_G0.out)
  clear HOG1_12
  have HMG0_13 := Lib.hid hm13
  clear hm13
  clear hbs13 HOG0_12
  rw [HCC.out G0 HPG0.out, ← HMM.out]
  go_wp2_with fail
  refine (held_tree G0 _ _ HMG0_13.out (HCN.out G0 HPG0.out)).mono ?_
  rintro e w14 ⟨rfl, hb14⟩
  have HB14 := Lib.hid (HB13.out.trans (hb14.mono HB13.out.size))
  replace c0 := keep_below hb14 c0
  replace c1 := keep_below hb14 c1
  replace c2 := keep_below hb14 c2
  replace c3 := keep_below hb14 c3
  replace c4 := keep_below hb14 c4
  replace p0 := keep_below hb14 p0
  replace p1 := keep_below hb14 p1
  replace p2 := keep_below hb14 p2
  replace p3 := keep_below hb14 p3
  replace p4 := keep_below hb14 p4
  replace q0 := keep_below hb14 q0
  replace q1 := keep_below hb14 q1
  replace q2 := keep_below hb14 q2
  replace q3 := keep_below hb14 q3
  replace q4 := keep_below hb14 q4
  replace r0 := keep_below hb14 r0
  replace r1 := keep_below hb14 r1
  replace r2 := keep_below hb14 r2
  replace r3 := keep_below hb14 r3
  replace r4 := keep_below hb14 r4
  have HOA1_14 := Lib.hid (HOA1_13.out.blw hb14)
  clear HOA1_13
  have HOG1_14 := Lib.hid (HOG1_13.out.blw hb14)
  clear HOG1_13
  have HMG0_14 := Lib.hid (HMG0_13.out.blw hb14)
  clear HMG0_13
  clear hb14
  rw [HCC.out G0 HPG0.out, ← HMM.out]
  go_wp2_with fail
  refine (HTVT.out _ HB14.out).mono ?_
  rintro e w15 ⟨A3, hp15, rfl, ho15, hn15, hb15⟩
  have HB15 := Lib.hid (HB14.out.trans (hb15.mono HB14.out.size))
  have HDA3_A1 : Hid (∀ k ∈ A3.blks, k ∉ A1.blks) := Lib.hid (fun k hk hk2 => by have h1 := (ho15.lt k hk).1; have h2 := (HOA1_14.out.lt k hk2).2; omega)
  have HDA1_A3 : Hid (∀ k ∈ A1.blks, k ∉ A3.blks) := Lib.hid (fun k hk hk2 => by have h1 := (ho15.lt k hk2).1; have h2 := (HOA1_14.out.lt k hk).2; omega)
  have HDA3_G1 : Hid (∀ k ∈ A3.blks, k ∉ G1.blks) := Lib.hid (fun k hk hk2 => by have h1 := (ho15.lt k hk).1; have h2 := (HOG1_14.out.lt k hk2).2; omega)
  have HDG1_A3 : Hid (∀ k ∈ G1.blks, k ∉ A3.blks) := Lib.hid (fun k hk hk2 => by have h1 := (ho15.lt k hk2).1; have h2 := (HOG1_14.out.lt k hk).2; omega)
  have HXc_A3 : Hid (w.heap.size ∉ A3.blks) := Lib.hid (fun hk => by have h1 := (ho15.lt _ hk).1; have h2 := cell_lt c0; simp only at h2; omega)
  have HXp_A3 : Hid (w3.heap.size ∉ A3.blks) := Lib.hid (fun hk => by have h1 := (ho15.lt _ hk).1; have h2 := cell_lt p0; simp only at h2; omega)
  have HXq_A3 : Hid (w5.heap.size ∉ A3.blks) := Lib.hid (fun hk => by have h1 := (ho15.lt _ hk).1; have h2 := cell_lt q0; simp only at h2; omega)
  have HXr_A3 : Hid (w7.heap.size ∉ A3.blks) := Lib.hid (fun hk => by have h1 := (ho15.lt _ hk).1; have h2 := cell_lt r0; simp only at h2; omega)
  replace c0 := keep_below hb15 c0
  replace c1 := keep_below hb15 c1
  replace c2 := keep_below hb15 c2
  replace c3 := keep_below hb15 c3
  replace c4 := keep_below hb15 c4
  replace p0 := keep_below hb15 p0
  replace p1 := keep_below hb15 p1
  replace p2 := keep_below hb15 p2
  replace p3 := keep_below hb15 p3
  replace p4 := keep_below hb15 p4
  replace q0 := keep_below hb15 q0
  replace q1 := keep_below hb15 q1
  replace q2 := keep_below hb15 q2
  replace q3 := keep_below hb15 q3
  replace q4 := keep_below hb15 q4
  replace r0 := keep_below hb15 r0
  replace r1 := keep_below hb15 r1
  replace r2 := keep_below hb15 r2
  replace r3 := keep_below hb15 r3
  replace r4 := keep_below hb15 r4
  have HOA1_15 := Lib.hid (HOA1_14.out.blw hb15)
  clear HOA1_14
  have HOG1_15 := Lib.hid (HOG1_14.out.blw hb15)
  clear HOG1_14
  have HMG0_15 := Lib.hid (HMG0_14.out.blw hb15)
  clear HMG0_14
  have HPA3 := Lib.hid hp15
  have HOA3_15 := Lib.hid (ho15.base HB14.out.size)
  have HNA3 := Lib.hid hn15
  clear hp15 ho15 hn15
  clear hb15
  go_wp2_with fail
  refine (HCI.out A3 HPA3.out _ HOA3_15.out).mono ?_
  rintro e w16 ⟨H0, hp16, rfl, ho16, hn16, hb16⟩
  have HB16 := Lib.hid (HB15.out.trans (hb16.mono HB15.out.size))
  have HDH0_A1 : Hid (∀ k ∈ H0.blks, k ∉ A1.blks) := Lib.hid (fun k hk hk2 => by have h1 := (ho16.lt k hk).1; have h2 := (HOA1_15.out.lt k hk2).2; omega)
  have HDA1_H0 : Hid (∀ k ∈ A1.blks, k ∉ H0.blks) := Lib.hid (fun k hk hk2 => by have h1 := (ho16.lt k hk2).1; have h2 := (HOA1_15.out.lt k hk).2; omega)
  have HDH0_G1 : Hid (∀ k ∈ H0.blks, k ∉ G1.blks) := Lib.hid (fun k hk hk2 => by have h1 := (ho16.lt k hk).1; have h2 := (HOG1_15.out.lt k hk2).2; omega)
  have HDG1_H0 : Hid (∀ k ∈ G1.blks, k ∉ H0.blks) := Lib.hid (fun k hk hk2 => by have h1 := (ho16.lt k hk2).1; have h2 := (HOG1_15.out.lt k hk).2; omega)
  have HDH0_A3 : Hid (∀ k ∈ H0.blks, k ∉ A3.blks) := Lib.hid (fun k hk hk2 => by have h1 := (ho16.lt k hk).1; have h2 := (HOA3_15.out.lt k hk2).2; omega)
  have HDA3_H0 : Hid (∀ k ∈ A3.blks, k ∉ H0.blks) := Lib.hid (fun k hk hk2 => by have h1 := (ho16.lt k hk2).1; have h2 := (HOA3_15.out.lt k hk).2; omega)
  have HXc_H0 : Hid (w.heap.size ∉ H0.blks) := Lib.hid (fun hk => by have h1 := (ho16.lt _ hk).1; have h2 := cell_lt c0; simp only at h2; omega)
  have HXp_H0 : Hid (w3.heap.size ∉ H0.blks) := Lib.hid (fun hk => by have h1 := (ho16.lt _ hk).1; have h2 := cell_lt p0; simp only at h2; omega)
  have HXq_H0 : Hid (w5.heap.size ∉ H0.blks) := Lib.hid (fun hk => by have h1 := (ho16.lt _ hk).1; have h2 := cell_lt q0; simp only at h2; omega)
  have HXr_H0 : Hid (w7.heap.size ∉ H0.blks) := Lib.hid (fun hk => by have h1 := (ho16.lt _ hk).1; have h2 := cell_lt r0; simp only at h2; omega)
  replace c0 := keep_below hb16 c0
  replace c1 := keep_below hb16 c1
  replace c2 := keep_below hb16 c2
  replace c3 := keep_below hb16 c3
  replace c4 := keep_below hb16 c4
  replace p0 := keep_below hb16 p0
  replace p1 := keep_below hb16 p1
  replace p2 := keep_below hb16 p2
  replace p3 := keep_below hb16 p3
  replace p4 := keep_below hb16 p4
  replace q0 := keep_below hb16 q0
  replace q1 := keep_below hb16 q1
  replace q2 := keep_below hb16 q2
  replace q3 := keep_below hb16 q3
  replace q4 := keep_below hb16 q4
  replace r0 := keep_below hb16 r0
  replace r1 := keep_below hb16 r1
  replace r2 := keep_below hb16 r2
  replace r3 := keep_below hb16 r3
  replace r4 := keep_below hb16 r4
  have HOA1_16 := Lib.hid (HOA1_15.out.blw hb16)
  clear HOA1_15
  have HOG1_16 := Lib.hid (HOG1_15.out.blw hb16)
  clear HOG1_15
  have HOA3_16 := Lib.hid (HOA3_15.out.blw hb16)
  clear HOA3_15
  have HMG0_16 := Lib.hid (HMG0_15.out.blw hb16)
  clear HMG0_15
  have HPH0 := Lib.hid hp16
  have HOH0_16 := Lib.hid (ho16.base HB15.out.size)
  have HNH0 := Lib.hid hn16
  clear hp16 ho16 hn16
  clear hb16
  have HXs_A1 : Hid (w16.heap.size ∉ A1.blks) := Lib.hid (fun hk => by have h2 := (HOA1_16.out.lt _ hk).2; omega)
  have HXs_G1 : Hid (w16.heap.size ∉ G1.blks) := Lib.hid (fun hk => by have h2 := (HOG1_16.out.lt _ hk).2; omega)
  have HXs_A3 : Hid (w16.heap.size ∉ A3.blks) := Lib.hid (fun hk => by have h2 := (HOA3_16.out.lt _ hk).2; omega)
  have HXs_H0 : Hid (w16.heap.size ∉ H0.blks) := Lib.hid (fun hk => by have h2 := (HOH0_16.out.lt _ hk).2; omega)
  have hv17 := vbox w16 (.cells #[.int .i64 H0.k, .int .i64 H0.n, .int .i64 H0.x, .string ⟨H0.s.toArray⟩, .slice H0.a H0.l.length H0.cap] 28)
  have HB17 := Lib.hid (HB16.out.trans (hv17.mono HB16.out.size))
  replace c0 := keep_below hv17 c0
  replace c1 := keep_below hv17 c1
  replace c2 := keep_below hv17 c2
  replace c3 := keep_below hv17 c3
  replace c4 := keep_below hv17 c4
  replace p0 := keep_below hv17 p0
  replace p1 := keep_below hv17 p1
  replace p2 := keep_below hv17 p2
  replace p3 := keep_below hv17 p3
  replace p4 := keep_below hv17 p4
  replace q0 := keep_below hv17 q0
  replace q1 := keep_below hv17 q1
  replace q2 := keep_below hv17 q2
  replace q3 := keep_below hv17 q3
  replace q4 := keep_below hv17 q4
  replace r0 := keep_below hv17 r0
  replace r1 := keep_below hv17 r1
  replace r2 := keep_below hv17 r2
  replace r3 := keep_below hv17 r3
  replace r4 := keep_below hv17 r4
  have HOA1_17 := Lib.hid (HOA1_16.out.blw hv17)
  clear HOA1_16
  have HOG1_17 := Lib.hid (HOG1_16.out.blw hv17)
  clear HOG1_16
  have HOA3_17 := Lib.hid (HOA3_16.out.blw hv17)
  clear HOA3_16
  have HOH0_17 := Lib.hid (HOH0_16.out.blw hv17)
  clear HOH0_16
  have HMG0_17 := Lib.hid (HMG0_16.out.blw hv17)
  clear HMG0_16
  obtain ⟨s0, s1, s2, s3, s4⟩ := vcells5 w16 H0 28
  clear hv17
  go_wp2_with fail
  generalize (w16.alloc (.cells #[.int .i64 H0.k, .int .i64 H0.n, .int .i64 H0.x, .string ⟨H0.s.toArray⟩, .slice H0.a H0.l.length H0.cap] 28)) = w17 at *
  refine (HER.out H0 G1 HPH0.out HPG1.out _ HOH0_17.out.in HOG1_17.out.in).mono ?_
  rintro e w18 ⟨rfl, hb18⟩
  have HB18 := Lib.hid (HB17.out.trans (hb18.mono HB17.out.size))
  replace c0 := keep_below hb18 c0
  replace c1 := keep_below hb18 c1
  replace c2 := keep_below hb18 c2
  replace c3 := keep_below hb18 c3
  replace c4 := keep_below hb18 c4
  replace p0 := keep_below hb18 p0
  replace p1 := keep_below hb18 p1
  replace p2 := keep_below hb18 p2
  replace p3 := keep_below hb18 p3
  replace p4 := keep_below hb18 p4
  replace q0 := keep_below hb18 q0
  replace q1 := keep_below hb18 q1
  replace q2 := keep_below hb18 q2
  replace q3 := keep_below hb18 q3
  replace q4 := keep_below hb18 q4
  replace r0 := keep_below hb18 r0
  replace r1 := keep_below hb18 r1
  replace r2 := keep_below hb18 r2
  replace r3 := keep_below hb18 r3
  replace r4 := keep_below hb18 r4
  replace s0 := keep_below hb18 s0
  replace s1 := keep_below hb18 s1
  replace s2 := keep_below hb18 s2
  replace s3 := keep_below hb18 s3
  replace s4 := keep_below hb18 s4
  have HOA1_18 := Lib.hid (HOA1_17.out.blw hb18)
  clear HOA1_17
  have HOG1_18 := Lib.hid (HOG1_17.out.blw hb18)
  clear HOG1_17
  have HOA3_18 := Lib.hid (HOA3_17.out.blw hb18)
  clear HOA3_17
  have HOH0_18 := Lib.hid (HOH0_17.out.blw hb18)
  clear HOH0_17
  have HMG0_18 := Lib.hid (HMG0_17.out.blw hb18)
  clear HMG0_17
  clear hb18
  go_wp2_with fail
  refine (held_tree G0 _ _ HMG0_18.out (HCN.out G0 HPG0.out)).mono ?_
  rintro e w19 ⟨rfl, hb19⟩
  have HB19 := Lib.hid (HB18.out.trans (hb19.mono HB18.out.size))
  replace c0 := keep_below hb19 c0
  replace c1 := keep_below hb19 c1
  replace c2 := keep_below hb19 c2
  replace c3 := keep_below hb19 c3
  replace c4 := keep_below hb19 c4
  replace p0 := keep_below hb19 p0
  replace p1 := keep_below hb19 p1
  replace p2 := keep_below hb19 p2
  replace p3 := keep_below hb19 p3
  replace p4 := keep_below hb19 p4
  replace q0 := keep_below hb19 q0
  replace q1 := keep_below hb19 q1
  replace q2 := keep_below hb19 q2
  replace q3 := keep_below hb19 q3
  replace q4 := keep_below hb19 q4
  replace r0 := keep_below hb19 r0
  replace r1 := keep_below hb19 r1
  replace r2 := keep_below hb19 r2
  replace r3 := keep_below hb19 r3
  replace r4 := keep_below hb19 r4
  replace s0 := keep_below hb19 s0
  replace s1 := keep_below hb19 s1
  replace s2 := keep_below hb19 s2
  replace s3 := keep_below hb19 s3
  replace s4 := keep_below hb19 s4
  have HOA1_19 := Lib.hid (HOA1_18.out.blw hb19)
  clear HOA1_18
  have HOG1_19 := Lib.hid (HOG1_18.out.blw hb19)
  clear HOG1_18
  have HOA3_19 := Lib.hid (HOA3_18.out.blw hb19)
  clear HOA3_18
  have HOH0_19 := Lib.hid (HOH0_18.out.blw hb19)
  clear HOH0_18
  have HMG0_19 := Lib.hid (HMG0_18.out.blw hb19)
  clear HMG0_18
  clear hb19
  rw [HCC.out G0 HPG0.out, ← HMM.out]
  go_wp2
  go_ret
  exact ⟨rfl, HB19.out⟩
theorem walk (T : AT) (w : World) (hinT : T.In w w.heap.size) (hwfT : T.pt.Wf) : Calls Try.prog 3 #[T.val] w fun e w' => e = .returned (.bool true) ∧ Below w.heap.size w w' := by
  by_cases hzT : T.pt.sz ≤ 1048576
  case neg => exact big1 T w hinT hwfT hzT
  exact main T w hinT hwfT hzT

set_option maxRecDepth 100000 in
theorem contract (H : Type) (enc : TypeId × Value → H) (W : World) (base : Nat) (args : Array Value) (ds gs : List (DataW H)) (before : List MemPlace)
    (hval : ∀ (j : Nat) t v, Try.f3.params[j]? = some t → args[j]? = some v → Value.okWide Try.prog W .any base t v)
    (hW : DataW.Whole enc Try.prog Try.f3.params.toList Rows.fnExactSortMapSpec.vars false W args.toList ds gs before)
    (hcond : ∀ k, (OpenSpec.ofChange Rows.fnExactSortMapSpec).cond = some k → k H (ds ++ gs) = true)
    (hsz : (DataW.weightsEach Try.prog (Try.f3.params.toList ++ (OpenSpec.ofChange Rows.fnExactSortMapSpec).bare.plain.varTypes Try.prog) (ds ++ gs)).all (· ≤ reachBytes) = true)
    (hL : laidMetH Try.prog Rows.fnExactSortMapRow.laid W) :
    Calls Try.prog 3 args W fun e W' => ∃ v, e = .returned v ∧ Rows.fnExactSortMapSpec.post enc Try.prog Try.f3 false true false false W args v W' := by
  have hW' := hW
  have hlt := hW'.lt
  obtain ⟨p, q, hA0, hV, rfl, hfz, hnd⟩ := hW
  have hA : DataW.TrodAll enc Try.prog W 0 (fun _ => true) true Try.f3.params.toList args.toList ds p := hA0
  rw [Try.params3] at hA hval hsz
  obtain ⟨v0, vs0, d0, ds0, p0, q0, hargs, rfl, rfl, h0, r0⟩ := trodAll_cons hA
  obtain ⟨rfl, rfl, rfl⟩ := trodAll_nil r0
  obtain rfl : args = #[v0] := by cases args; simp_all
  obtain ⟨rfl, rfl⟩ := trodVars_none hV
  simp only [List.append_nil] at hW' hlt
  have hlt0 : ∀ x ∈ p0, x.block < W.heap.size := fun x hx => hlt x (by simp [hx])
  have hk0 := h0
  obtain ⟨T0, rfl, hin0, hwf0⟩ := open_val (hval 0 24 v0 rfl rfl) h0
  clear hA0 hA
  have fin : ∀ W' : World, Below W.heap.size W W' → Rows.fnExactSortMapSpec.post enc Try.prog Try.f3 false true false false W _ (.bool true) W' := fun W' hb =>
    ⟨_, _, _, [], _, [], hW', trodAll_mk1 (shut_bool Try.underlying4 _), (trodAll_cons_mk (Below.trod laidOut (by kernel_rfl) (of_decide_eq_true (by kernel_rfl)) hk0 hb hlt0) trodAll_mk0), rfl, hb.frame _, fun h => by cases h⟩
  refine Calls.mono (R := fun e w' => e = .returned (.bool true) ∧ Below W.heap.size W w') ?_ (fun e W' h => ⟨_, h.1, fin W' h.2⟩)
  clear fin
  exact walk T0 W hin0 hwf0

theorem laid_met (os : Os) : laidMet Try.prog Rows.fnExactSortMapRow.laid (((World.holding Try.prog os ⟨#[], #[], []⟩)).forCall (fun _ _ => 0) ⟨#[], #[.agg #[.int .i64 0, .int .i64 0, .int .i64 0, .string ⟨#[]⟩, .slice none 0 0]], []⟩).memory :=
  ⟨[], rfl, List.nodup_nil, fun _ _ h => by cases h⟩
theorem reads (os : Os) {H : Type} (enc : TypeId × Value → H) : ∃ places, DataW.whole enc Try.prog (((World.holding Try.prog os ⟨#[], #[], []⟩)).forCall (fun _ _ => 0) ⟨#[], #[.agg #[.int .i64 0, .int .i64 0, .int .i64 0, .string ⟨#[]⟩, .slice none 0 0]], []⟩).memory Try.f3.params.toList Rows.fnExactSortMapSpec.vars false (#[.agg #[.int .i64 0, .int .i64 0, .int .i64 0, .string ⟨#[]⟩, .slice none 0 0]] : Array Value).toList 8 = some ([.agg [.lit (.int .i64 0), .lit (.int .i64 0), .lit (.int .i64 0), .lit (.string []), .nil]], [], places) :=
  ⟨[], by kernel_rfl⟩

set_option maxRecDepth 100000 in
theorem lifted (os : Os) (started : os.Started) (H : Type) (enc : TypeId × Value → H) (F : Stop.Interp) :
    ReturnsInHanded {} Try.checked os 3 .any ((OpenSpec.ofChange Rows.fnExactSortMapSpec).preRow enc Try.prog Try.f3 Rows.fnExactSortMapRow.domain false Rows.fnExactSortMapRow.laid) (((OpenSpec.ofChange Rows.fnExactSortMapSpec).at F).post enc Try.prog Try.f3 false true false false) := by
  obtain ⟨places, hx⟩ := reads os enc
  refine returnsInHanded_of_row (C := Try.checked) (s := OpenSpec.ofChange Rows.fnExactSortMapSpec) own started (by kernel_rfl) Try.func3
    (witness_row_at (enc := enc) (C := Try.checked) false (World.holding Try.prog os ⟨#[], #[], []⟩) #[.agg #[.int .i64 0, .int .i64 0, .int .i64 0, .string ⟨#[]⟩, .slice none 0 0]] rfl (by kernel_rfl) (by kernel_rfl) (by kernel_rfl)
      (OpenSpec.preRow_of_cond 8 hx (by kernel_rfl) (fun k hk => by cases hk) (by kernel_rfl) (laid_met os))) ?_
  intro W base args ds gs before hval hW _ hcond hsz hL _ _
  exact contract H enc W base args ds gs before hval hW hcond hsz hL

theorem said : Rows.FnExactSortMapSaid :=
  OpenClaim.holds_of_cond 3 Try.f3 rfl rfl rfl rfl rfl rfl rfl ⟨rfl, rfl, rfl, rfl, rfl⟩ rfl rfl rfl rfl rfl (by kernel_rfl) Try.func3 (by kernel_rfl)
    (of_decide_eq_true (by kernel_rfl)) (by unfold Func.isWrapper; first | (rw [if_pos (by decide +kernel)]; kernel_rfl) | (rw [if_neg (by decide +kernel)]; exact ⟨rfl, rfl⟩))
    (fun os started H enc _ F => by rw [OpenClaim.pre_eq_preRow]; exact lifted os started H enc F)

theorem proved : Rows.FnExactSortMapSaid := said
#print axioms proved
end Go.Proofs.Ytilgncebhgplaaa.fnExactSortMap
