/- For every input the law FnExactListVal returns true and its arguments read afterwards as they read before; beside what the row states there is no condition. -/
import Derived.Test.YtmcmkkkbkfgakaaRows
import Derived.WalkKit
import Derived.ProofKit
import Derived.OpenShut
import Derived.SizedLaws
import Derived.Carry
import Derived.Deep.DeepHandedRow


import Derived.Lib.LaidTab
import Derived.Stop.LaidErr
import Derived.Test.YtmcmkkkbkfgakaaOpen
import Derived.Test.YtmcmkkkbkfgakaaListLaw
import Derived.Test.YtmcmkkkbkfgakaaCopyImpl
import Derived.Test.YtmcmkkkbkfgakaaKeepVal

namespace Go.Proofs.Ytmcmkkkbkfgakaa.fnExactListVal
open Go.ChangeShapes Go.WideShapes Go.ChangeAt Go.RowKit
open Go.ChangeMaps (open_string shut_string)
set_option linter.unusedVariables false

theorem own : ownKnob Try.prog.godebug = none := by kernel_rfl
theorem laidOut : laidOutB Try.prog = true := by kernel_rfl

theorem big (T : AT) (w : World) (hin : T.In w w.heap.size) (hwf : T.pt.Wf) (hz : ¬ T.l.length + PT.szL (AT.ptL T.l) ≤ 1048576) : Calls Try.prog 11 #[.slice T.a T.l.length T.cap] w fun e w' => e = .returned (.bool true) ∧ Below w.heap.size w w' := by
  have HSZ := Lib.hid (fun (w1 : World) (hb : Below w.heap.size w w1) => szValS_tree T hwf w1 w.heap.size 1048576 (hin.blw hb (Nat.le_refl _)) hb.size (by omega))
  have HR : Hid (szR (T.l.length + PT.szL (AT.ptL T.l)) 1048576 = -1) := Lib.hid (by unfold szR; rw [if_neg hz])
  clear hin hwf hz
  go_enter Try.func11, Try.ntmps11
  go_wp2_with fail
  refine (HSZ.out _ (Below.refl _ _)).mono ?_
  rintro e w1 ⟨rfl, hb1⟩
  rw [HR.out]
  have HB1 := Lib.hid hb1
  clear hb1
  go_wp2
  go_ret
  exact ⟨rfl, HB1.out⟩
set_option maxHeartbeats 4000000 in
set_option maxRecDepth 100000 in
theorem main (T : AT) (w : World) (hin : T.In w w.heap.size) (hwf : T.pt.Wf) (hz : T.l.length + PT.szL (AT.ptL T.l) ≤ 1048576) : Calls Try.prog 11 #[.slice T.a T.l.length T.cap] w fun e w' => e = .returned (.bool true) ∧ Below w.heap.size w w' := by
  obtain ⟨p, hp⟩ : ∃ p, p = AT.ptL T.l := ⟨_, rfl⟩
  have HSZ := Lib.hid (fun (w1 : World) (hb : Below w.heap.size w w1) => szValS_tree T hwf w1 w.heap.size 1048576 (hin.blw hb (Nat.le_refl _)) hb.size (by omega))
  have HR : Hid (szR (T.l.length + PT.szL (AT.ptL T.l)) 1048576 = ((1048576 - (T.l.length + PT.szL (AT.ptL T.l)) : Nat) : Int)) := Lib.hid (by unfold szR; rw [if_pos hz]; omega)
  have hneg : ¬ (((1048576 - (T.l.length + PT.szL (AT.ptL T.l)) : Nat) : Int) < 0) := by omega
  have hptsz : T.pt.sz ≤ 1048576 + T.s.length := by rw [pt_sz T]; omega
  have HTV := Lib.hid (fun (w1 : World) (hb : Below w.heap.size w w1) => toValS_lst T hwf hz w1 w.heap.size (hin.blw hb (Nat.le_refl _)) hb.size)
  have hlw := lst_wf_of T hwf
  rw [← hp] at HTV hlw
  have hpsz : p.length + PT.szL p ≤ 1048576 := by rw [hp, AT.ptL_length]; exact hz
  have hpc : PT.cntL p ≤ 1048576 := by have := cntL_le p _ (fun t ht => sz_mem ht); omega
  have hvw : (PT.mk 9 0 0 [] p).Wf := by cases hlw with | mk hk hn hx hs hl sub => exact .mk (by omega) (by omega) (by omega) hs hl sub
  have HCS := Lib.hid (fun (X : AT) (hX : X.pt = lst p) (w1 : World) (ho : X.In w1 w1.heap.size) => (show Calls Try.prog 37 #[.slice X.a X.l.length X.cap] w1 (FreshV w1 (.mk 9 0 0 [] p)) from by have h1 := lst_pt hX; have h2 := listval_spec X.l (by rw [h1, show X.l.length = p.length by rw [← h1, AT.ptL_length]]; exact hpsz) w1 w1.heap.size X.a X.cap ho.lv' (Nat.le_refl _); rw [h1] at h2; exact h2))
  have HCI := Lib.hid (fun (X : AT) (hX : X.pt = lst p) (w1 : World) (ho : X.Own w1 w.heap.size) => (show Calls Try.prog 36 #[.slice X.a X.l.length X.cap] w1 (FreshV w1 (.mk 9 0 0 [] p)) from by have h1 := lst_pt hX; have h2 := listval_impl X.l (by rw [h1, show X.l.length = p.length by rw [← h1, AT.ptL_length]]; exact hpsz) w1 w.heap.size X.a X.cap ho.l'; rw [h1] at h2; exact h2))
  have HEQ := Lib.hid (fun (X Y : AT) (hX : X.pt = .mk 9 0 0 [] p) (hY : Y.pt = .mk 9 0 0 [] p) (w1 : World) (ho : X.In w1 w1.heap.size) (hy : Y.In w1 w1.heap.size) => eqVal_any X (pt_wf hX hvw) Y w1 w1.heap.size (hX.trans hY.symm) ho hy (Nat.le_refl _))
  have HEL := Lib.hid (fun (X Y : AT) (hX : X.pt = lst p) (hY : Y.pt = lst p) (w1 : World) (ho : X.In w1 w1.heap.size) (hy : Y.In w1 w1.heap.size) => eqValS_tree X Y (pt_wf hX hlw) ((lst_pt hX).trans (lst_pt hY).symm) w1 ho hy)
  have HCNT : Hid (∀ X : AT, X.pt = .mk 9 0 0 [] p → X.pt.cnt ≤ 2097152) := Lib.hid (fun X hX => by rw [hX]; simp only [PT.cnt]; omega)
  have HCNL : Hid (∀ X : AT, X.pt = lst p → PT.cntL (AT.ptL X.l) ≤ 2097152) := Lib.hid (fun X hX => by rw [lst_pt hX]; omega)
  have hMk : (0 : Int) ≤ (1 + 4 * PT.cntL p : Nat) := by omega
  have HC : Hid (∀ X : AT, X.pt = .mk 9 0 0 [] p → PT.cntL (AT.ptL X.l) = PT.cntL p) := Lib.hid (fun X hX => by cases X; simp only [AT.pt, PT.mk.injEq] at hX; simp only [AT.l]; rw [hX.2.2.2.2])
  have HCL : Hid (∀ X : AT, X.pt = lst p → PT.cntL (AT.ptL X.l) = PT.cntL p) := Lib.hid (fun X hX => by rw [lst_pt hX])
  obtain ⟨MM, hMM⟩ : ∃ MM, MM = 1 + 4 * PT.cntL p := ⟨_, rfl⟩
  have HMM := Lib.hid hMM
  rw [← hMM] at hMk
  have hneg2 : ¬ ((MM : Int) < 0) := by omega
  clear hp hpsz hpc hvw hlw hptsz hin hwf hz hMM
  generalize 1048576 - (T.l.length + PT.szL (AT.ptL T.l)) = left at *
  have HB0 := Lib.hid (Below.refl w.heap.size w)
  go_enter Try.func11, Try.ntmps11
  go_wp2_with fail
  refine (HSZ.out _ HB0.out).mono ?_
  rintro e w1 ⟨rfl, hb1⟩
  have HB1 := Lib.hid (HB0.out.trans (hb1.mono HB0.out.size))
  clear hb1
  rw [HR.out]
  go_wp2_with fail
  refine (HTV.out _ HB1.out).mono ?_
  rintro e w2 ⟨A1, hp2, rfl, ho2, hn2, hb2⟩
  have HB2 := Lib.hid (HB1.out.trans (hb2.mono HB1.out.size))
  have HPA1 := Lib.hid hp2
  have HOA1_2 := Lib.hid (ho2.base HB1.out.size)
  have HNA1 := Lib.hid hn2
  clear hp2 ho2 hn2
  clear hb2
  go_wp2_with fail
  refine (HCS.out A1 HPA1.out _ HOA1_2.out.in).mono ?_
  rintro e w3 ⟨G1, hp3, rfl, ho3, hn3, hb3⟩
  have HB3 := Lib.hid (HB2.out.trans (hb3.mono HB2.out.size))
  have HDG1_A1 : Hid (∀ k ∈ G1.blks, k ∉ A1.blks) := Lib.hid (fun k hk hk2 => by have h1 := (ho3.lt k hk).1; have h2 := (HOA1_2.out.lt k hk2).2; omega)
  have HDA1_G1 : Hid (∀ k ∈ A1.blks, k ∉ G1.blks) := Lib.hid (fun k hk hk2 => by have h1 := (ho3.lt k hk2).1; have h2 := (HOA1_2.out.lt k hk).2; omega)
  have HOA1_3 := Lib.hid (HOA1_2.out.blw hb3)
  clear HOA1_2
  have HPG1 := Lib.hid hp3
  have HOG1_3 := Lib.hid (ho3.base HB2.out.size)
  have HNG1 := Lib.hid hn3
  clear hp3 ho3 hn3
  clear hb3
  have HXc_A1 : Hid (w3.heap.size ∉ A1.blks) := Lib.hid (fun hk => by have h2 := (HOA1_3.out.lt _ hk).2; omega)
  have HXc_G1 : Hid (w3.heap.size ∉ G1.blks) := Lib.hid (fun hk => by have h2 := (HOG1_3.out.lt _ hk).2; omega)
  have hv4 := vbox w3 (.cells #[.int .i64 G1.k, .int .i64 G1.n, .int .i64 G1.x, .string ⟨G1.s.toArray⟩, .slice G1.a G1.l.length G1.cap] 26)
  have HB4 := Lib.hid (HB3.out.trans (hv4.mono HB3.out.size))
  have HOA1_4 := Lib.hid (HOA1_3.out.blw hv4)
  clear HOA1_3
  have HOG1_4 := Lib.hid (HOG1_3.out.blw hv4)
  clear HOG1_3
  obtain ⟨c0, c1, c2, c3, c4⟩ := vcells5 w3 G1 26
  clear hv4
  go_wp2_with fail
  generalize (w3.alloc (.cells #[.int .i64 G1.k, .int .i64 G1.n, .int .i64 G1.x, .string ⟨G1.s.toArray⟩, .slice G1.a G1.l.length G1.cap] 26)) = w4 at *
  refine (HTV.out _ HB4.out).mono ?_
  rintro e w5 ⟨X0, hp5, rfl, ho5, hn5, hb5⟩
  have HB5 := Lib.hid (HB4.out.trans (hb5.mono HB4.out.size))
  have HDX0_A1 : Hid (∀ k ∈ X0.blks, k ∉ A1.blks) := Lib.hid (fun k hk hk2 => by have h1 := (ho5.lt k hk).1; have h2 := (HOA1_4.out.lt k hk2).2; omega)
  have HDA1_X0 : Hid (∀ k ∈ A1.blks, k ∉ X0.blks) := Lib.hid (fun k hk hk2 => by have h1 := (ho5.lt k hk2).1; have h2 := (HOA1_4.out.lt k hk).2; omega)
  have HDX0_G1 : Hid (∀ k ∈ X0.blks, k ∉ G1.blks) := Lib.hid (fun k hk hk2 => by have h1 := (ho5.lt k hk).1; have h2 := (HOG1_4.out.lt k hk2).2; omega)
  have HDG1_X0 : Hid (∀ k ∈ G1.blks, k ∉ X0.blks) := Lib.hid (fun k hk hk2 => by have h1 := (ho5.lt k hk2).1; have h2 := (HOG1_4.out.lt k hk).2; omega)
  have HXc_X0 : Hid (w3.heap.size ∉ X0.blks) := Lib.hid (fun hk => by have h1 := (ho5.lt _ hk).1; have h2 := cell_lt c0; simp only at h2; omega)
  replace c0 := keep_below hb5 c0
  replace c1 := keep_below hb5 c1
  replace c2 := keep_below hb5 c2
  replace c3 := keep_below hb5 c3
  replace c4 := keep_below hb5 c4
  have HOA1_5 := Lib.hid (HOA1_4.out.blw hb5)
  clear HOA1_4
  have HOG1_5 := Lib.hid (HOG1_4.out.blw hb5)
  clear HOG1_4
  have HPX0 := Lib.hid hp5
  have HOX0_5 := Lib.hid (ho5.base HB4.out.size)
  have HNX0 := Lib.hid hn5
  clear hp5 ho5 hn5
  clear hb5
  go_wp2_with fail
  refine (HCI.out X0 HPX0.out _ HOX0_5.out).mono ?_
  rintro e w6 ⟨G0, hp6, rfl, ho6, hn6, hb6⟩
  have HB6 := Lib.hid (HB5.out.trans (hb6.mono HB5.out.size))
  have HDG0_A1 : Hid (∀ k ∈ G0.blks, k ∉ A1.blks) := Lib.hid (fun k hk hk2 => by have h1 := (ho6.lt k hk).1; have h2 := (HOA1_5.out.lt k hk2).2; omega)
  have HDA1_G0 : Hid (∀ k ∈ A1.blks, k ∉ G0.blks) := Lib.hid (fun k hk hk2 => by have h1 := (ho6.lt k hk2).1; have h2 := (HOA1_5.out.lt k hk).2; omega)
  have HDG0_G1 : Hid (∀ k ∈ G0.blks, k ∉ G1.blks) := Lib.hid (fun k hk hk2 => by have h1 := (ho6.lt k hk).1; have h2 := (HOG1_5.out.lt k hk2).2; omega)
  have HDG1_G0 : Hid (∀ k ∈ G1.blks, k ∉ G0.blks) := Lib.hid (fun k hk hk2 => by have h1 := (ho6.lt k hk2).1; have h2 := (HOG1_5.out.lt k hk).2; omega)
  have HDG0_X0 : Hid (∀ k ∈ G0.blks, k ∉ X0.blks) := Lib.hid (fun k hk hk2 => by have h1 := (ho6.lt k hk).1; have h2 := (HOX0_5.out.lt k hk2).2; omega)
  have HDX0_G0 : Hid (∀ k ∈ X0.blks, k ∉ G0.blks) := Lib.hid (fun k hk hk2 => by have h1 := (ho6.lt k hk2).1; have h2 := (HOX0_5.out.lt k hk).2; omega)
  have HXc_G0 : Hid (w3.heap.size ∉ G0.blks) := Lib.hid (fun hk => by have h1 := (ho6.lt _ hk).1; have h2 := cell_lt c0; simp only at h2; omega)
  replace c0 := keep_below hb6 c0
  replace c1 := keep_below hb6 c1
  replace c2 := keep_below hb6 c2
  replace c3 := keep_below hb6 c3
  replace c4 := keep_below hb6 c4
  have HOA1_6 := Lib.hid (HOA1_5.out.blw hb6)
  clear HOA1_5
  have HOG1_6 := Lib.hid (HOG1_5.out.blw hb6)
  clear HOG1_5
  have HOX0_6 := Lib.hid (HOX0_5.out.blw hb6)
  clear HOX0_5
  have HPG0 := Lib.hid hp6
  have HOG0_6 := Lib.hid (ho6.base HB5.out.size)
  have HNG0 := Lib.hid hn6
  clear hp6 ho6 hn6
  clear hb6
  have HXd_A1 : Hid (w6.heap.size ∉ A1.blks) := Lib.hid (fun hk => by have h2 := (HOA1_6.out.lt _ hk).2; omega)
  have HXd_G1 : Hid (w6.heap.size ∉ G1.blks) := Lib.hid (fun hk => by have h2 := (HOG1_6.out.lt _ hk).2; omega)
  have HXd_X0 : Hid (w6.heap.size ∉ X0.blks) := Lib.hid (fun hk => by have h2 := (HOX0_6.out.lt _ hk).2; omega)
  have HXd_G0 : Hid (w6.heap.size ∉ G0.blks) := Lib.hid (fun hk => by have h2 := (HOG0_6.out.lt _ hk).2; omega)
  have hv7 := vbox w6 (.cells #[.int .i64 G0.k, .int .i64 G0.n, .int .i64 G0.x, .string ⟨G0.s.toArray⟩, .slice G0.a G0.l.length G0.cap] 26)
  have HB7 := Lib.hid (HB6.out.trans (hv7.mono HB6.out.size))
  replace c0 := keep_below hv7 c0
  replace c1 := keep_below hv7 c1
  replace c2 := keep_below hv7 c2
  replace c3 := keep_below hv7 c3
  replace c4 := keep_below hv7 c4
  have HOA1_7 := Lib.hid (HOA1_6.out.blw hv7)
  clear HOA1_6
  have HOG1_7 := Lib.hid (HOG1_6.out.blw hv7)
  clear HOG1_6
  have HOX0_7 := Lib.hid (HOX0_6.out.blw hv7)
  clear HOX0_6
  have HOG0_7 := Lib.hid (HOG0_6.out.blw hv7)
  clear HOG0_6
  obtain ⟨d0, d1, d2, d3, d4⟩ := vcells5 w6 G0 26
  clear hv7
  go_wp2_with fail
  generalize (w6.alloc (.cells #[.int .i64 G0.k, .int .i64 G0.n, .int .i64 G0.x, .string ⟨G0.s.toArray⟩, .slice G0.a G0.l.length G0.cap] 26)) = w7 at *
  refine (HEQ.out G0 G1 HPG0.out HPG1.out _ HOG0_7.out.in HOG1_7.out.in).mono ?_
  rintro e w8 ⟨rfl, hb8⟩
  have HB8 := Lib.hid (HB7.out.trans (hb8.mono HB7.out.size))
  replace c0 := keep_below hb8 c0
  replace c1 := keep_below hb8 c1
  replace c2 := keep_below hb8 c2
  replace c3 := keep_below hb8 c3
  replace c4 := keep_below hb8 c4
  replace d0 := keep_below hb8 d0
  replace d1 := keep_below hb8 d1
  replace d2 := keep_below hb8 d2
  replace d3 := keep_below hb8 d3
  replace d4 := keep_below hb8 d4
  have HOA1_8 := Lib.hid (HOA1_7.out.blw hb8)
  clear HOA1_7
  have HOG1_8 := Lib.hid (HOG1_7.out.blw hb8)
  clear HOG1_7
  have HOX0_8 := Lib.hid (HOX0_7.out.blw hb8)
  clear HOX0_7
  have HOG0_8 := Lib.hid (HOG0_7.out.blw hb8)
  clear HOG0_7
  clear hb8
  go_wp2_with fail
  refine (HTV.out _ HB8.out).mono ?_
  rintro e w9 ⟨A2, hp9, rfl, ho9, hn9, hb9⟩
  have HB9 := Lib.hid (HB8.out.trans (hb9.mono HB8.out.size))
  have HDA2_A1 : Hid (∀ k ∈ A2.blks, k ∉ A1.blks) := Lib.hid (fun k hk hk2 => by have h1 := (ho9.lt k hk).1; have h2 := (HOA1_8.out.lt k hk2).2; omega)
  have HDA1_A2 : Hid (∀ k ∈ A1.blks, k ∉ A2.blks) := Lib.hid (fun k hk hk2 => by have h1 := (ho9.lt k hk2).1; have h2 := (HOA1_8.out.lt k hk).2; omega)
  have HDA2_G1 : Hid (∀ k ∈ A2.blks, k ∉ G1.blks) := Lib.hid (fun k hk hk2 => by have h1 := (ho9.lt k hk).1; have h2 := (HOG1_8.out.lt k hk2).2; omega)
  have HDG1_A2 : Hid (∀ k ∈ G1.blks, k ∉ A2.blks) := Lib.hid (fun k hk hk2 => by have h1 := (ho9.lt k hk2).1; have h2 := (HOG1_8.out.lt k hk).2; omega)
  have HDA2_X0 : Hid (∀ k ∈ A2.blks, k ∉ X0.blks) := Lib.hid (fun k hk hk2 => by have h1 := (ho9.lt k hk).1; have h2 := (HOX0_8.out.lt k hk2).2; omega)
  have HDX0_A2 : Hid (∀ k ∈ X0.blks, k ∉ A2.blks) := Lib.hid (fun k hk hk2 => by have h1 := (ho9.lt k hk2).1; have h2 := (HOX0_8.out.lt k hk).2; omega)
  have HDA2_G0 : Hid (∀ k ∈ A2.blks, k ∉ G0.blks) := Lib.hid (fun k hk hk2 => by have h1 := (ho9.lt k hk).1; have h2 := (HOG0_8.out.lt k hk2).2; omega)
  have HDG0_A2 : Hid (∀ k ∈ G0.blks, k ∉ A2.blks) := Lib.hid (fun k hk hk2 => by have h1 := (ho9.lt k hk2).1; have h2 := (HOG0_8.out.lt k hk).2; omega)
  have HXc_A2 : Hid (w3.heap.size ∉ A2.blks) := Lib.hid (fun hk => by have h1 := (ho9.lt _ hk).1; have h2 := cell_lt c0; simp only at h2; omega)
  have HXd_A2 : Hid (w6.heap.size ∉ A2.blks) := Lib.hid (fun hk => by have h1 := (ho9.lt _ hk).1; have h2 := cell_lt d0; simp only at h2; omega)
  replace c0 := keep_below hb9 c0
  replace c1 := keep_below hb9 c1
  replace c2 := keep_below hb9 c2
  replace c3 := keep_below hb9 c3
  replace c4 := keep_below hb9 c4
  replace d0 := keep_below hb9 d0
  replace d1 := keep_below hb9 d1
  replace d2 := keep_below hb9 d2
  replace d3 := keep_below hb9 d3
  replace d4 := keep_below hb9 d4
  have HOA1_9 := Lib.hid (HOA1_8.out.blw hb9)
  clear HOA1_8
  have HOG1_9 := Lib.hid (HOG1_8.out.blw hb9)
  clear HOG1_8
  have HOX0_9 := Lib.hid (HOX0_8.out.blw hb9)
  clear HOX0_8
  have HOG0_9 := Lib.hid (HOG0_8.out.blw hb9)
  clear HOG0_8
  have HPA2 := Lib.hid hp9
  have HOA2_9 := Lib.hid (ho9.base HB8.out.size)
  have HNA2 := Lib.hid hn9
  clear hp9 ho9 hn9
  clear hb9
  go_wp2_with fail
  refine (HEL.out X0 A2 HPX0.out HPA2.out _ HOX0_9.out.in HOA2_9.out.in).mono ?_
  rintro e w10 ⟨rfl, hb10⟩
  have HB10 := Lib.hid (HB9.out.trans (hb10.mono HB9.out.size))
  replace c0 := keep_below hb10 c0
  replace c1 := keep_below hb10 c1
  replace c2 := keep_below hb10 c2
  replace c3 := keep_below hb10 c3
  replace c4 := keep_below hb10 c4
  replace d0 := keep_below hb10 d0
  replace d1 := keep_below hb10 d1
  replace d2 := keep_below hb10 d2
  replace d3 := keep_below hb10 d3
  replace d4 := keep_below hb10 d4
  have HOA1_10 := Lib.hid (HOA1_9.out.blw hb10)
  clear HOA1_9
  have HOG1_10 := Lib.hid (HOG1_9.out.blw hb10)
  clear HOG1_9
  have HOX0_10 := Lib.hid (HOX0_9.out.blw hb10)
  clear HOX0_9
  have HOG0_10 := Lib.hid (HOG0_9.out.blw hb10)
  clear HOG0_9
  have HOA2_10 := Lib.hid (HOA2_9.out.blw hb10)
  clear HOA2_9
  clear hb10
  go_wp2_with fail
  refine (markS_tree X0 _ _ HOX0_10.out HNX0.out (HCNL.out X0 HPX0.out)).mono ?_
  rintro e w11 ⟨rfl, hbs11⟩
  have HB11 := Lib.hid (HB10.out.trans (hbs11.below (fun k hk => (HOX0_10.out.lt k hk).1) HB10.out.size))
  replace c0 := hbs11.cell HXc_X0.out c0
  replace c1 := hbs11.cell HXc_X0.out c1
  replace c2 := hbs11.cell HXc_X0.out c2
  replace c3 := hbs11.cell HXc_X0.out c3
  replace c4 := hbs11.cell HXc_X0.out c4
  replace d0 := hbs11.cell HXd_X0.out d0
  replace d1 := hbs11.cell HXd_X0.out d1
  replace d2 := hbs11.cell HXd_X0.out d2
  replace d3 := hbs11.cell HXd_X0.out d3
  replace d4 := hbs11.cell HXd_X0.out d4
  have HOA1_11 := Lib.hid (HOA1_10.out.onlyBs hbs11 HDA1_X0.out)
  clear HOA1_10
  have HOG1_11 := Lib.hid (HOG1_10.out.onlyBs hbs11 HDG1_X0.out)
  clear HOG1_10
  have HOG0_11 := Lib.hid (HOG0_10.out.onlyBs hbs11 HDG0_X0.out)
  clear HOG0_10
  have HOA2_11 := Lib.hid (HOA2_10.out.onlyBs hbs11 HDA2_X0.out)
  clear HOA2_10
  clear hbs11 HOX0_10
  rw [HCL.out X0 HPX0.out, ← HMM.out]
  go_wp2_with fail
  refine (HEQ.out G0 G1 HPG0.out HPG1.out _ HOG0_11.out.in HOG1_11.out.in).mono ?_
  rintro e w12 ⟨rfl, hb12⟩
  have HB12 := Lib.hid (HB11.out.trans (hb12.mono HB11.out.size))
  replace c0 := keep_below hb12 c0
  replace c1 := keep_below hb12 c1
  replace c2 := keep_below hb12 c2
  replace c3 := keep_below hb12 c3
  replace c4 := keep_below hb12 c4
  replace d0 := keep_below hb12 d0
  replace d1 := keep_below hb12 d1
  replace d2 := keep_below hb12 d2
  replace d3 := keep_below hb12 d3
  replace d4 := keep_below hb12 d4
  have HOA1_12 := Lib.hid (HOA1_11.out.blw hb12)
  clear HOA1_11
  have HOG1_12 := Lib.hid (HOG1_11.out.blw hb12)
  clear HOG1_11
  have HOG0_12 := Lib.hid (HOG0_11.out.blw hb12)
  clear HOG0_11
  have HOA2_12 := Lib.hid (HOA2_11.out.blw hb12)
  clear HOA2_11
  clear hb12
  go_wp2_with fail
  refine (mark_tree G0 _ _ HOG0_12.out HNG0.out (HCNT.out G0 HPG0.out)).mono ?_
  rintro e w13 ⟨⟨rfl, hm13⟩, hbs13⟩
  have HB13 := Lib.hid (HB12.out.trans (hbs13.below (fun k hk => (HOG0_12.out.lt k hk).1) HB12.out.size))
  replace c0 := hbs13.cell HXc_G0.out c0
  replace c1 := hbs13.cell HXc_G0.out c1
  replace c2 := hbs13.cell HXc_G0.out c2
  replace c3 := hbs13.cell HXc_G0.out c3
  replace c4 := hbs13.cell HXc_G0.out c4
  replace d0 := hbs13.cell HXd_G0.out d0
  replace d1 := hbs13.cell HXd_G0.out d1
  replace d2 := hbs13.cell HXd_G0.out d2
  replace d3 := hbs13.cell HXd_G0.out d3
  replace d4 := hbs13.cell HXd_G0.out d4
  have HOA1_13 := Lib.hid (HOA1_12.out.onlyBs hbs13 HDA1_G0.out)
  clear HOA1_12
  have HOG1_13 := Lib.hid (HOG1_12.out.onlyBs hbs13 HDG1_G0.out)
  clear HOG1_12
  have HOA2_13 := Lib.hid (HOA2_12.out.onlyBs hbs13 HDA2_G0.out)
  clear HOA2_12
  have HMG0_13 := Lib.hid hm13
  clear hm13
  clear hbs13 HOG0_12
  rw [HC.out G0 HPG0.out, ← HMM.out]
  go_wp2_with fail
  refine (held_tree G0 _ _ HMG0_13.out (HCNT.out G0 HPG0.out)).mono ?_
  rintro e w14 ⟨rfl, hb14⟩
  have HB14 := Lib.hid (HB13.out.trans (hb14.mono HB13.out.size))
  replace c0 := keep_below hb14 c0
  replace c1 := keep_below hb14 c1
  replace c2 := keep_below hb14 c2
  replace c3 := keep_below hb14 c3
  replace c4 := keep_below hb14 c4
  replace d0 := keep_below hb14 d0
  replace d1 := keep_below hb14 d1
  replace d2 := keep_below hb14 d2
  replace d3 := keep_below hb14 d3
  replace d4 := keep_below hb14 d4
  have HOA1_14 := Lib.hid (HOA1_13.out.blw hb14)
  clear HOA1_13
  have HOG1_14 := Lib.hid (HOG1_13.out.blw hb14)
  clear HOG1_13
  have HOA2_14 := Lib.hid (HOA2_13.out.blw hb14)
  clear HOA2_13
  have HMG0_14 := Lib.hid (HMG0_13.out.blw hb14)
  clear HMG0_13
  clear hb14
  rw [HC.out G0 HPG0.out, ← HMM.out]
  go_wp2_with fail
  refine (HTV.out _ HB14.out).mono ?_
  rintro e w15 ⟨A3, hp15, rfl, ho15, hn15, hb15⟩
  have HB15 := Lib.hid (HB14.out.trans (hb15.mono HB14.out.size))
  have HDA3_A1 : Hid (∀ k ∈ A3.blks, k ∉ A1.blks) := Lib.hid (fun k hk hk2 => by have h1 := (ho15.lt k hk).1; have h2 := (HOA1_14.out.lt k hk2).2; omega)
  have HDA1_A3 : Hid (∀ k ∈ A1.blks, k ∉ A3.blks) := Lib.hid (fun k hk hk2 => by have h1 := (ho15.lt k hk2).1; have h2 := (HOA1_14.out.lt k hk).2; omega)
  have HDA3_G1 : Hid (∀ k ∈ A3.blks, k ∉ G1.blks) := Lib.hid (fun k hk hk2 => by have h1 := (ho15.lt k hk).1; have h2 := (HOG1_14.out.lt k hk2).2; omega)
  have HDG1_A3 : Hid (∀ k ∈ G1.blks, k ∉ A3.blks) := Lib.hid (fun k hk hk2 => by have h1 := (ho15.lt k hk2).1; have h2 := (HOG1_14.out.lt k hk).2; omega)
  have HDA3_A2 : Hid (∀ k ∈ A3.blks, k ∉ A2.blks) := Lib.hid (fun k hk hk2 => by have h1 := (ho15.lt k hk).1; have h2 := (HOA2_14.out.lt k hk2).2; omega)
  have HDA2_A3 : Hid (∀ k ∈ A2.blks, k ∉ A3.blks) := Lib.hid (fun k hk hk2 => by have h1 := (ho15.lt k hk2).1; have h2 := (HOA2_14.out.lt k hk).2; omega)
  have HXc_A3 : Hid (w3.heap.size ∉ A3.blks) := Lib.hid (fun hk => by have h1 := (ho15.lt _ hk).1; have h2 := cell_lt c0; simp only at h2; omega)
  have HXd_A3 : Hid (w6.heap.size ∉ A3.blks) := Lib.hid (fun hk => by have h1 := (ho15.lt _ hk).1; have h2 := cell_lt d0; simp only at h2; omega)
  replace c0 := keep_below hb15 c0
  replace c1 := keep_below hb15 c1
  replace c2 := keep_below hb15 c2
  replace c3 := keep_below hb15 c3
  replace c4 := keep_below hb15 c4
  replace d0 := keep_below hb15 d0
  replace d1 := keep_below hb15 d1
  replace d2 := keep_below hb15 d2
  replace d3 := keep_below hb15 d3
  replace d4 := keep_below hb15 d4
  have HOA1_15 := Lib.hid (HOA1_14.out.blw hb15)
  clear HOA1_14
  have HOG1_15 := Lib.hid (HOG1_14.out.blw hb15)
  clear HOG1_14
  have HOA2_15 := Lib.hid (HOA2_14.out.blw hb15)
  clear HOA2_14
  have HMG0_15 := Lib.hid (HMG0_14.out.blw hb15)
  clear HMG0_14
  have HPA3 := Lib.hid hp15
  have HOA3_15 := Lib.hid (ho15.base HB14.out.size)
  have HNA3 := Lib.hid hn15
  clear hp15 ho15 hn15
  clear hb15
  go_wp2_with fail
  refine (HCI.out A3 HPA3.out _ HOA3_15.out).mono ?_
  rintro e w16 ⟨H0, hp16, rfl, ho16, hn16, hb16⟩
  have HB16 := Lib.hid (HB15.out.trans (hb16.mono HB15.out.size))
  have HDH0_A1 : Hid (∀ k ∈ H0.blks, k ∉ A1.blks) := Lib.hid (fun k hk hk2 => by have h1 := (ho16.lt k hk).1; have h2 := (HOA1_15.out.lt k hk2).2; omega)
  have HDA1_H0 : Hid (∀ k ∈ A1.blks, k ∉ H0.blks) := Lib.hid (fun k hk hk2 => by have h1 := (ho16.lt k hk2).1; have h2 := (HOA1_15.out.lt k hk).2; omega)
  have HDH0_G1 : Hid (∀ k ∈ H0.blks, k ∉ G1.blks) := Lib.hid (fun k hk hk2 => by have h1 := (ho16.lt k hk).1; have h2 := (HOG1_15.out.lt k hk2).2; omega)
  have HDG1_H0 : Hid (∀ k ∈ G1.blks, k ∉ H0.blks) := Lib.hid (fun k hk hk2 => by have h1 := (ho16.lt k hk2).1; have h2 := (HOG1_15.out.lt k hk).2; omega)
  have HDH0_A2 : Hid (∀ k ∈ H0.blks, k ∉ A2.blks) := Lib.hid (fun k hk hk2 => by have h1 := (ho16.lt k hk).1; have h2 := (HOA2_15.out.lt k hk2).2; omega)
  have HDA2_H0 : Hid (∀ k ∈ A2.blks, k ∉ H0.blks) := Lib.hid (fun k hk hk2 => by have h1 := (ho16.lt k hk2).1; have h2 := (HOA2_15.out.lt k hk).2; omega)
  have HDH0_A3 : Hid (∀ k ∈ H0.blks, k ∉ A3.blks) := Lib.hid (fun k hk hk2 => by have h1 := (ho16.lt k hk).1; have h2 := (HOA3_15.out.lt k hk2).2; omega)
  have HDA3_H0 : Hid (∀ k ∈ A3.blks, k ∉ H0.blks) := Lib.hid (fun k hk hk2 => by have h1 := (ho16.lt k hk2).1; have h2 := (HOA3_15.out.lt k hk).2; omega)
  have HXc_H0 : Hid (w3.heap.size ∉ H0.blks) := Lib.hid (fun hk => by have h1 := (ho16.lt _ hk).1; have h2 := cell_lt c0; simp only at h2; omega)
  have HXd_H0 : Hid (w6.heap.size ∉ H0.blks) := Lib.hid (fun hk => by have h1 := (ho16.lt _ hk).1; have h2 := cell_lt d0; simp only at h2; omega)
  replace c0 := keep_below hb16 c0
  replace c1 := keep_below hb16 c1
  replace c2 := keep_below hb16 c2
  replace c3 := keep_below hb16 c3
  replace c4 := keep_below hb16 c4
  replace d0 := keep_below hb16 d0
  replace d1 := keep_below hb16 d1
  replace d2 := keep_below hb16 d2
  replace d3 := keep_below hb16 d3
  replace d4 := keep_below hb16 d4
  have HOA1_16 := Lib.hid (HOA1_15.out.blw hb16)
  clear HOA1_15
  have HOG1_16 := Lib.hid (HOG1_15.out.blw hb16)
  clear HOG1_15
  have HOA2_16 := Lib.hid (HOA2_15.out.blw hb16)
  clear HOA2_15
  have HOA3_16 := Lib.hid (HOA3_15.out.blw hb16)
  clear HOA3_15
  have HMG0_16 := Lib.hid (HMG0_15.out.blw hb16)
  clear HMG0_15
  have HPH0 := Lib.hid hp16
  have HOH0_16 := Lib.hid (ho16.base HB15.out.size)
  have HNH0 := Lib.hid hn16
  clear hp16 ho16 hn16
  clear hb16
  have HXf_A1 : Hid (w16.heap.size ∉ A1.blks) := Lib.hid (fun hk => by have h2 := (HOA1_16.out.lt _ hk).2; omega)
  have HXf_G1 : Hid (w16.heap.size ∉ G1.blks) := Lib.hid (fun hk => by have h2 := (HOG1_16.out.lt _ hk).2; omega)
  have HXf_A2 : Hid (w16.heap.size ∉ A2.blks) := Lib.hid (fun hk => by have h2 := (HOA2_16.out.lt _ hk).2; omega)
  have HXf_A3 : Hid (w16.heap.size ∉ A3.blks) := Lib.hid (fun hk => by have h2 := (HOA3_16.out.lt _ hk).2; omega)
  have HXf_H0 : Hid (w16.heap.size ∉ H0.blks) := Lib.hid (fun hk => by have h2 := (HOH0_16.out.lt _ hk).2; omega)
  have hv17 := vbox w16 (.cells #[.int .i64 H0.k, .int .i64 H0.n, .int .i64 H0.x, .string ⟨H0.s.toArray⟩, .slice H0.a H0.l.length H0.cap] 26)
  have HB17 := Lib.hid (HB16.out.trans (hv17.mono HB16.out.size))
  replace c0 := keep_below hv17 c0
  replace c1 := keep_below hv17 c1
  replace c2 := keep_below hv17 c2
  replace c3 := keep_below hv17 c3
  replace c4 := keep_below hv17 c4
  replace d0 := keep_below hv17 d0
  replace d1 := keep_below hv17 d1
  replace d2 := keep_below hv17 d2
  replace d3 := keep_below hv17 d3
  replace d4 := keep_below hv17 d4
  have HOA1_17 := Lib.hid (HOA1_16.out.blw hv17)
  clear HOA1_16
  have HOG1_17 := Lib.hid (HOG1_16.out.blw hv17)
  clear HOG1_16
  have HOA2_17 := Lib.hid (HOA2_16.out.blw hv17)
  clear HOA2_16
  have HOA3_17 := Lib.hid (HOA3_16.out.blw hv17)
  clear HOA3_16
  have HOH0_17 := Lib.hid (HOH0_16.out.blw hv17)
  clear HOH0_16
  have HMG0_17 := Lib.hid (HMG0_16.out.blw hv17)
  clear HMG0_16
  obtain ⟨f0, f1, f2, f3, f4⟩ := vcells5 w16 H0 26
  clear hv17
  go_wp2_with fail
  generalize (w16.alloc (.cells #[.int .i64 H0.k, .int .i64 H0.n, .int .i64 H0.x, .string ⟨H0.s.toArray⟩, .slice H0.a H0.l.length H0.cap] 26)) = w17 at *
  refine (HEQ.out H0 G1 HPH0.out HPG1.out _ HOH0_17.out.in HOG1_17.out.in).mono ?_
  rintro e w18 ⟨rfl, hb18⟩
  have HB18 := Lib.hid (HB17.out.trans (hb18.mono HB17.out.size))
  replace c0 := keep_below hb18 c0
  replace c1 := keep_below hb18 c1
  replace c2 := keep_below hb18 c2
  replace c3 := keep_below hb18 c3
  replace c4 := keep_below hb18 c4
  replace d0 := keep_below hb18 d0
  replace d1 := keep_below hb18 d1
  replace d2 := keep_below hb18 d2
  replace d3 := keep_below hb18 d3
  replace d4 := keep_below hb18 d4
  replace f0 := keep_below hb18 f0
  replace f1 := keep_below hb18 f1
  replace f2 := keep_below hb18 f2
  replace f3 := keep_below hb18 f3
  replace f4 := keep_below hb18 f4
  have HOA1_18 := Lib.hid (HOA1_17.out.blw hb18)
  clear HOA1_17
  have HOG1_18 := Lib.hid (HOG1_17.out.blw hb18)
  clear HOG1_17
  have HOA2_18 := Lib.hid (HOA2_17.out.blw hb18)
  clear HOA2_17
  have HOA3_18 := Lib.hid (HOA3_17.out.blw hb18)
  clear HOA3_17
  have HOH0_18 := Lib.hid (HOH0_17.out.blw hb18)
  clear HOH0_17
  have HMG0_18 := Lib.hid (HMG0_17.out.blw hb18)
  clear HMG0_17
  clear hb18
  go_wp2_with fail
  refine (held_tree G0 _ _ HMG0_18.out (HCNT.out G0 HPG0.out)).mono ?_
  rintro e w19 ⟨rfl, hb19⟩
  have HB19 := Lib.hid (HB18.out.trans (hb19.mono HB18.out.size))
  replace c0 := keep_below hb19 c0
  replace c1 := keep_below hb19 c1
  replace c2 := keep_below hb19 c2
  replace c3 := keep_below hb19 c3
  replace c4 := keep_below hb19 c4
  replace d0 := keep_below hb19 d0
  replace d1 := keep_below hb19 d1
  replace d2 := keep_below hb19 d2
  replace d3 := keep_below hb19 d3
  replace d4 := keep_below hb19 d4
  replace f0 := keep_below hb19 f0
  replace f1 := keep_below hb19 f1
  replace f2 := keep_below hb19 f2
  replace f3 := keep_below hb19 f3
  replace f4 := keep_below hb19 f4
  have HOA1_19 := Lib.hid (HOA1_18.out.blw hb19)
  clear HOA1_18
  have HOG1_19 := Lib.hid (HOG1_18.out.blw hb19)
  clear HOG1_18
  have HOA2_19 := Lib.hid (HOA2_18.out.blw hb19)
  clear HOA2_18
  have HOA3_19 := Lib.hid (HOA3_18.out.blw hb19)
  clear HOA3_18
  have HOH0_19 := Lib.hid (HOH0_18.out.blw hb19)
  clear HOH0_18
  have HMG0_19 := Lib.hid (HMG0_18.out.blw hb19)
  clear HMG0_18
  clear hb19
  rw [HC.out G0 HPG0.out, ← HMM.out]
  go_wp2
  go_ret
  exact ⟨rfl, HB19.out⟩
theorem walk (T : AT) (w : World) (hin : T.In w w.heap.size) (hwf : T.pt.Wf) : Calls Try.prog 11 #[.slice T.a T.l.length T.cap] w fun e w' => e = .returned (.bool true) ∧ Below w.heap.size w w' := by
  by_cases hz : T.l.length + PT.szL (AT.ptL T.l) ≤ 1048576
  · exact main T w hin hwf hz
  · exact big T w hin hwf hz

set_option maxRecDepth 100000 in
theorem contract (H : Type) (enc : TypeId × Value → H) (W : World) (base : Nat) (args : Array Value) (ds gs : List (DataW H)) (before : List MemPlace)
    (hval : ∀ (j : Nat) t v, Try.f11.params[j]? = some t → args[j]? = some v → Value.okWide Try.prog W .any base t v)
    (hW : DataW.Whole enc Try.prog Try.f11.params.toList Rows.fnExactListValSpec.vars false W args.toList ds gs before)
    (hcond : ∀ k, (OpenSpec.ofChange Rows.fnExactListValSpec).cond = some k → k H (ds ++ gs) = true)
    (hsz : (DataW.weightsEach Try.prog (Try.f11.params.toList ++ (OpenSpec.ofChange Rows.fnExactListValSpec).bare.plain.varTypes Try.prog) (ds ++ gs)).all (· ≤ reachBytes) = true)
    (hL : laidMetH Try.prog Rows.fnExactListValRow.laid W) :
    Calls Try.prog 11 args W fun e W' => ∃ v, e = .returned v ∧ Rows.fnExactListValSpec.post enc Try.prog Try.f11 false true false false W args v W' := by
  have hW' := hW
  have hlt := hW'.lt
  obtain ⟨p, q, hA0, hV, rfl, hfz, hnd⟩ := hW
  have hA : DataW.TrodAll enc Try.prog W 0 (fun _ => true) true Try.f11.params.toList args.toList ds p := hA0
  rw [Try.params11] at hA hval hsz
  obtain ⟨v0, vs0, d0, ds0, p0, q0, hargs, rfl, rfl, h0, r0⟩ := trodAll_cons hA
  obtain ⟨rfl, rfl, rfl⟩ := trodAll_nil r0
  obtain rfl : args = #[v0] := by cases args; simp_all
  obtain ⟨rfl, rfl⟩ := trodVars_none hV
  simp only [List.append_nil] at hW' hlt
  have hlt0 : ∀ x ∈ p0, x.block < W.heap.size := fun x hx => hlt x (by simp [hx])
  have hk0 := h0
  obtain ⟨a0, cap0, l0, rfl, hlv0, hlen0, hwf0⟩ := open_vals (hval 0 45 v0 rfl rfl) h0
  clear hA0 hA
  have fin : ∀ W' : World, Below W.heap.size W W' → Rows.fnExactListValSpec.post enc Try.prog Try.f11 false true false false W _ (.bool true) W' := fun W' hb =>
    ⟨_, _, _, [], _, [], hW', trodAll_mk1 (shut_bool Try.underlying4 _), (trodAll_cons_mk (Below.trod laidOut (by kernel_rfl) (of_decide_eq_true (by kernel_rfl)) hk0 hb hlt0) trodAll_mk0), rfl, hb.frame _, fun h => by cases h⟩
  refine Calls.mono (R := fun e w' => e = .returned (.bool true) ∧ Below W.heap.size W w') ?_ (fun e W' h => ⟨_, h.1, fin W' h.2⟩)
  clear fin
  exact walk (.mk 0 0 0 [] a0 cap0 l0) W hlv0.in (lst_wf hlen0 hwf0)

theorem laid_met (os : Os) : laidMet Try.prog Rows.fnExactListValRow.laid (((World.holding Try.prog os ⟨#[], #[], []⟩)).forCall (fun _ _ => 0) ⟨#[], #[.slice none 0 0], []⟩).memory :=
  ⟨[], rfl, List.nodup_nil, fun _ _ h => by cases h⟩
theorem reads (os : Os) {H : Type} (enc : TypeId × Value → H) : ∃ places, DataW.whole enc Try.prog (((World.holding Try.prog os ⟨#[], #[], []⟩)).forCall (fun _ _ => 0) ⟨#[], #[.slice none 0 0], []⟩).memory Try.f11.params.toList Rows.fnExactListValSpec.vars false (#[.slice none 0 0] : Array Value).toList 8 = some ([.nil], [], places) :=
  ⟨[], by kernel_rfl⟩

set_option maxRecDepth 100000 in
theorem lifted (os : Os) (started : os.Started) (H : Type) (enc : TypeId × Value → H) (F : Stop.Interp) :
    ReturnsInHanded {} Try.checked os 11 .any ((OpenSpec.ofChange Rows.fnExactListValSpec).preRow enc Try.prog Try.f11 Rows.fnExactListValRow.domain false Rows.fnExactListValRow.laid) (((OpenSpec.ofChange Rows.fnExactListValSpec).at F).post enc Try.prog Try.f11 false true false false) := by
  obtain ⟨places, hx⟩ := reads os enc
  refine returnsInHanded_of_row (C := Try.checked) (s := OpenSpec.ofChange Rows.fnExactListValSpec) own started (by kernel_rfl) Try.func11
    (witness_row_at (enc := enc) (C := Try.checked) false (World.holding Try.prog os ⟨#[], #[], []⟩) #[.slice none 0 0] rfl (by kernel_rfl) (by kernel_rfl) (by kernel_rfl)
      (OpenSpec.preRow_of_cond 8 hx (by kernel_rfl) (fun k hk => by cases hk) (by kernel_rfl) (laid_met os))) ?_
  intro W base args ds gs before hval hW _ hcond hsz hL _ _
  exact contract H enc W base args ds gs before hval hW hcond hsz hL

theorem said : Rows.FnExactListValSaid :=
  OpenClaim.holds_of_cond 11 Try.f11 rfl rfl rfl rfl rfl rfl rfl ⟨rfl, rfl, rfl, rfl, rfl⟩ rfl rfl rfl rfl rfl (by kernel_rfl) Try.func11 (by kernel_rfl)
    (of_decide_eq_true (by kernel_rfl)) (by unfold Func.isWrapper; first | (rw [if_pos (by decide +kernel)]; kernel_rfl) | (rw [if_neg (by decide +kernel)]; exact ⟨rfl, rfl⟩))
    (fun os started H enc _ F => by rw [OpenClaim.pre_eq_preRow]; exact lifted os started H enc F)

theorem proved : Rows.FnExactListValSaid := said
#print axioms proved
end Go.Proofs.Ytmcmkkkbkfgakaa.fnExactListVal
