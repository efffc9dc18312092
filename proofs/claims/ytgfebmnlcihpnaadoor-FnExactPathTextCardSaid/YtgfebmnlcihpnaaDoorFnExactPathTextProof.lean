/- For every input the law FnExactPathText returns true and its arguments read afterwards as they read before; beside what the row states there is no condition. -/
import Derived.Test.YtgfebmnlcihpnaaDoorCards
import Derived.Test.YtgfebmnlcihpnaaDoorTie
import Derived.WalkKit
import Derived.ProofKit
import Derived.OpenShut
import Derived.SizedLaws
import Derived.Carry
import Derived.Deep.DeepHandedRow
import Derived.Deep.DeepWitnessRowRef
import Derived.LaidMore
import Derived.Lib.LaidTab
import Derived.Stop.LaidErr
import Derived.Test.YtgfebmnlcihpnaaDoorSz
import Derived.Test.YtgfebmnlcihpnaaDoorOpen
import Derived.Test.YtgfebmnlcihpnaaDoorOpenStep
import Derived.Test.YtgfebmnlcihpnaaDoorToVal
import Derived.Test.YtgfebmnlcihpnaaDoorEqVal
import Derived.Test.YtgfebmnlcihpnaaDoorKeepVal
import Derived.Test.YtgfebmnlcihpnaaDoorStepRow
import Derived.Test.YtgfebmnlcihpnaaDoorPathImpl
import Derived.Test.YtgfebmnlcihpnaaDoorTabs
import Derived.Deep.RegionHeld3

namespace Go.Proofs.YtgfebmnlcihpnaaDoor.fnExactPathText
open Go.ChangeShapes Go.WideShapes Go.ChangeAt Go.RowKit
open Go.ChangeMaps (open_string shut_string)
set_option linter.unusedVariables false

theorem own : ownKnob Tryd.prog.godebug = none := by kernel_rfl
theorem laidOut : laidOutB Tryd.prog = true := by kernel_rfl

set_option maxHeartbeats 1000000 in
theorem big1 (T : AT) (lP : List St) (aP : Option Addr) (capP : Nat) (w : World) (hinT : T.In w w.heap.size) (hwfT : T.pt.Wf) (hsP : SAt w w.heap.size aP capP lP) (hlP : lP.length ≤ 9223372036854775807) (hiP : ∀ s ∈ lP, -9223372036854775808 ≤ s.1 ∧ s.1 ≤ 9223372036854775807) (htab : Lib.TabIs Tryd.prog w "internal/strconv.uint64pow10" .u64 Lib.pow10Tab)  (hzT : ¬ T.pt.sz ≤ 1048576) : Calls Tryd.prog 4 #[T.val, .slice aP lP.length capP] w fun e w' => e = .returned (.bool true) ∧ Below w.heap.size w w' := by
  have HSZT := Lib.hid (fun (w1 : World) (hb : Below w.heap.size w w1) => szVal_any T hwfT w1 w.heap.size (1048576) (hinT.blw hb (Nat.le_refl _)) hb.size (by omega))
  have HRT : Hid (szR T.pt.sz (1048576) = -1) := Lib.hid (by unfold szR; rw [if_neg hzT])
  clear hinT hwfT hsP hlP hiP htab hzT
  show Calls Tryd.prog 4 #[.agg #[.int .i64 T.k, .int .i64 T.n, .int .i64 T.x, .string ⟨T.s.toArray⟩, .slice T.a T.l.length T.cap], .slice aP lP.length capP] w _
  go_enter Tryd.func4, Tryd.ntmps4
  go_wp2_with fail
  have hbox : Below w.heap.size w (w.alloc (.cells #[.int .i64 T.k, .int .i64 T.n, .int .i64 T.x, .string ⟨T.s.toArray⟩, .slice T.a T.l.length T.cap] 51)) := boxes1 w (.cells #[.int .i64 T.k, .int .i64 T.n, .int .i64 T.x, .string ⟨T.s.toArray⟩, .slice T.a T.l.length T.cap] 51)
  have hc : (w.alloc (.cells #[.int .i64 T.k, .int .i64 T.n, .int .i64 T.x, .string ⟨T.s.toArray⟩, .slice T.a T.l.length T.cap] 51)).cell? ⟨w.heap.size, 0, none⟩ = some (.int .i64 T.k) ∧ (w.alloc (.cells #[.int .i64 T.k, .int .i64 T.n, .int .i64 T.x, .string ⟨T.s.toArray⟩, .slice T.a T.l.length T.cap] 51)).cell? ⟨w.heap.size, 1, none⟩ = some (.int .i64 T.n) ∧ (w.alloc (.cells #[.int .i64 T.k, .int .i64 T.n, .int .i64 T.x, .string ⟨T.s.toArray⟩, .slice T.a T.l.length T.cap] 51)).cell? ⟨w.heap.size, 2, none⟩ = some (.int .i64 T.x) ∧ (w.alloc (.cells #[.int .i64 T.k, .int .i64 T.n, .int .i64 T.x, .string ⟨T.s.toArray⟩, .slice T.a T.l.length T.cap] 51)).cell? ⟨w.heap.size, 3, none⟩ = some (.string ⟨T.s.toArray⟩) ∧ (w.alloc (.cells #[.int .i64 T.k, .int .i64 T.n, .int .i64 T.x, .string ⟨T.s.toArray⟩, .slice T.a T.l.length T.cap] 51)).cell? ⟨w.heap.size, 4, none⟩ = some (.slice T.a T.l.length T.cap) := by refine ⟨?_, ?_, ?_, ?_, ?_⟩ <;> simp [go_sem]
  obtain ⟨c0, c1, c2, c3, c4⟩ := hc
  generalize (w.alloc (.cells #[.int .i64 T.k, .int .i64 T.n, .int .i64 T.x, .string ⟨T.s.toArray⟩, .slice T.a T.l.length T.cap] 51)) = w0 at *
  have HB0 := Lib.hid hbox
  clear hbox
  refine (HSZT.out _ HB0.out).mono ?_
  rintro e w1 ⟨rfl, hb1⟩
  have HB1 := Lib.hid (HB0.out.trans (hb1.mono HB0.out.size))
  replace c0 := keep_below hb1 c0
  replace c1 := keep_below hb1 c1
  replace c2 := keep_below hb1 c2
  replace c3 := keep_below hb1 c3
  replace c4 := keep_below hb1 c4
  clear hb1
  rw [HRT.out]
  go_wp2
  go_ret
  exact ⟨rfl, HB1.out⟩
set_option maxHeartbeats 1000000 in
theorem big2 (T : AT) (lP : List St) (aP : Option Addr) (capP : Nat) (w : World) (hinT : T.In w w.heap.size) (hwfT : T.pt.Wf) (hsP : SAt w w.heap.size aP capP lP) (hlP : lP.length ≤ 9223372036854775807) (hiP : ∀ s ∈ lP, -9223372036854775808 ≤ s.1 ∧ s.1 ≤ 9223372036854775807) (htab : Lib.TabIs Tryd.prog w "internal/strconv.uint64pow10" .u64 Lib.pow10Tab) (hzT : T.pt.sz ≤ 1048576) (hzP : ¬ lP.length ≤ 1048576 - T.pt.sz) : Calls Tryd.prog 4 #[T.val, .slice aP lP.length capP] w fun e w' => e = .returned (.bool true) ∧ Below w.heap.size w w' := by
  have HSZT := Lib.hid (fun (w1 : World) (hb : Below w.heap.size w w1) => szVal_any T hwfT w1 w.heap.size (1048576) (hinT.blw hb (Nat.le_refl _)) hb.size (by omega))
  have HRT : Hid (szR T.pt.sz (1048576) = ((1048576 - T.pt.sz : Nat) : Int)) := Lib.hid (by unfold szR; rw [if_pos hzT]; omega)
  have hnegT : ¬ (((1048576 - T.pt.sz : Nat) : Int) < 0) := by omega
  have HSZP := Lib.hid (fun (w1 : World) (hb : Below w.heap.size w w1) => szStepS_any lP aP capP (1048576 - T.pt.sz) w1 hlP (by omega))
  have HRP : Hid (szR lP.length (1048576 - T.pt.sz) = -1) := Lib.hid (by unfold szR; rw [if_neg hzP])
  clear hinT hwfT hsP hlP hiP htab hzT hzP
  generalize 1048576 - T.pt.sz = leftT at *
  show Calls Tryd.prog 4 #[.agg #[.int .i64 T.k, .int .i64 T.n, .int .i64 T.x, .string ⟨T.s.toArray⟩, .slice T.a T.l.length T.cap], .slice aP lP.length capP] w _
  go_enter Tryd.func4, Tryd.ntmps4
  go_wp2_with fail
  have hbox : Below w.heap.size w (w.alloc (.cells #[.int .i64 T.k, .int .i64 T.n, .int .i64 T.x, .string ⟨T.s.toArray⟩, .slice T.a T.l.length T.cap] 51)) := boxes1 w (.cells #[.int .i64 T.k, .int .i64 T.n, .int .i64 T.x, .string ⟨T.s.toArray⟩, .slice T.a T.l.length T.cap] 51)
  have hc : (w.alloc (.cells #[.int .i64 T.k, .int .i64 T.n, .int .i64 T.x, .string ⟨T.s.toArray⟩, .slice T.a T.l.length T.cap] 51)).cell? ⟨w.heap.size, 0, none⟩ = some (.int .i64 T.k) ∧ (w.alloc (.cells #[.int .i64 T.k, .int .i64 T.n, .int .i64 T.x, .string ⟨T.s.toArray⟩, .slice T.a T.l.length T.cap] 51)).cell? ⟨w.heap.size, 1, none⟩ = some (.int .i64 T.n) ∧ (w.alloc (.cells #[.int .i64 T.k, .int .i64 T.n, .int .i64 T.x, .string ⟨T.s.toArray⟩, .slice T.a T.l.length T.cap] 51)).cell? ⟨w.heap.size, 2, none⟩ = some (.int .i64 T.x) ∧ (w.alloc (.cells #[.int .i64 T.k, .int .i64 T.n, .int .i64 T.x, .string ⟨T.s.toArray⟩, .slice T.a T.l.length T.cap] 51)).cell? ⟨w.heap.size, 3, none⟩ = some (.string ⟨T.s.toArray⟩) ∧ (w.alloc (.cells #[.int .i64 T.k, .int .i64 T.n, .int .i64 T.x, .string ⟨T.s.toArray⟩, .slice T.a T.l.length T.cap] 51)).cell? ⟨w.heap.size, 4, none⟩ = some (.slice T.a T.l.length T.cap) := by refine ⟨?_, ?_, ?_, ?_, ?_⟩ <;> simp [go_sem]
  obtain ⟨c0, c1, c2, c3, c4⟩ := hc
  generalize (w.alloc (.cells #[.int .i64 T.k, .int .i64 T.n, .int .i64 T.x, .string ⟨T.s.toArray⟩, .slice T.a T.l.length T.cap] 51)) = w0 at *
  have HB0 := Lib.hid hbox
  clear hbox
  refine (HSZT.out _ HB0.out).mono ?_
  rintro e w1 ⟨rfl, hb1⟩
  have HB1 := Lib.hid (HB0.out.trans (hb1.mono HB0.out.size))
  replace c0 := keep_below hb1 c0
  replace c1 := keep_below hb1 c1
  replace c2 := keep_below hb1 c2
  replace c3 := keep_below hb1 c3
  replace c4 := keep_below hb1 c4
  clear hb1
  rw [HRT.out]
  go_wp2_with fail
  refine (HSZP.out _ HB1.out).mono ?_
  rintro e w2 ⟨rfl, hb2⟩
  have HB2 := Lib.hid (HB1.out.trans (hb2.mono HB1.out.size))
  replace c0 := keep_below hb2 c0
  replace c1 := keep_below hb2 c1
  replace c2 := keep_below hb2 c2
  replace c3 := keep_below hb2 c3
  replace c4 := keep_below hb2 c4
  clear hb2
  rw [HRP.out]
  go_wp2
  go_ret
  exact ⟨rfl, HB2.out⟩
set_option maxHeartbeats 16000000 in
set_option maxRecDepth 100000 in
theorem main (T : AT) (lP : List St) (aP : Option Addr) (capP : Nat) (w : World) (hinT : T.In w w.heap.size) (hwfT : T.pt.Wf) (hsP : SAt w w.heap.size aP capP lP) (hlP : lP.length ≤ 9223372036854775807) (hiP : ∀ s ∈ lP, -9223372036854775808 ≤ s.1 ∧ s.1 ≤ 9223372036854775807) (htab : Lib.TabIs Tryd.prog w "internal/strconv.uint64pow10" .u64 Lib.pow10Tab) (hzT : T.pt.sz ≤ 1048576) (hzP : lP.length ≤ 1048576 - T.pt.sz) : Calls Tryd.prog 4 #[T.val, .slice aP lP.length capP] w fun e w' => e = .returned (.bool true) ∧ Below w.heap.size w w' := by
  have HSZT := Lib.hid (fun (w1 : World) (hb : Below w.heap.size w w1) => szVal_any T hwfT w1 w.heap.size (1048576) (hinT.blw hb (Nat.le_refl _)) hb.size (by omega))
  have HRT : Hid (szR T.pt.sz (1048576) = ((1048576 - T.pt.sz : Nat) : Int)) := Lib.hid (by unfold szR; rw [if_pos hzT]; omega)
  have hnegT : ¬ (((1048576 - T.pt.sz : Nat) : Int) < 0) := by omega
  have HSZP := Lib.hid (fun (w1 : World) (hb : Below w.heap.size w w1) => szStepS_any lP aP capP (1048576 - T.pt.sz) w1 hlP (by omega))
  have HRP : Hid (szR lP.length (1048576 - T.pt.sz) = ((1048576 - T.pt.sz - lP.length : Nat) : Int)) := Lib.hid (by unfold szR; rw [if_pos hzP]; omega)
  have hnegP : ¬ (((1048576 - T.pt.sz - lP.length : Nat) : Int) < 0) := by omega
  have hsT : T.pt.sz ≤ 1048576 := by omega
  have HTVT := Lib.hid (fun (w1 : World) (hb : Below w.heap.size w w1) => toVal_any T hwfT hsT w1 w.heap.size (hinT.blw hb (Nat.le_refl _)) hb.size)
  have HEQT := Lib.hid (fun (T' U' : AT) (hp : T'.pt = T.pt) (hu : U'.pt = T.pt) (w1 : World) (hi : T'.In w1 w1.heap.size) (hj : U'.In w1 w1.heap.size) => eqVal_any T' (by rw [hp]; exact hwfT) U' w1 w1.heap.size (by rw [hp, hu]) hi hj (Nat.le_refl _))
  have hz2P : lP.length ≤ 1048576 := by omega
  have HTVP := Lib.hid (fun (w1 : World) (hb : Below w.heap.size w w1) => toSteps_row w1 w.heap.size aP capP lP (hsP.below hb (Nat.le_refl _)) hb.size hz2P)
  have HEQP := Lib.hid (fun (P Q : SR) (hP : P.l = lP) (hQ : Q.l = lP) (w1 : World) (h : SAt w1 w1.heap.size P.a P.cap P.l) (h2 : SAt w1 w1.heap.size Q.a Q.cap Q.l) => eqsteps_row P Q lP hP hQ hlP w1 h h2)
  obtain ⟨tx, htx⟩ : ∃ tx, tx = 36 :: tailTx lP T.pt := ⟨_, rfl⟩
  have HCS := Lib.hid (fun (X0 : AT) (X1 : SR) (hX0 : X0.pt = T.pt) (hX1 : X1.l = lP) (w1 : World) (ho0 : X0.In w1 w1.heap.size) (ho1 : SAt w1 w1.heap.size X1.a X1.cap X1.l) => (show Calls Tryd.prog 22 #[X0.val, X1.val] w1 (fun e w' => e = .returned (.string ⟨tx.toArray⟩) ∧ Below w1.heap.size w1 w') from by
    have h := pathtext_spec X0 X1.l X1.a X1.cap w1 w1.heap.size ho0 ho1 (by rw [hX0]; exact hsT) (by rw [hX1]; exact hz2P) (Nat.le_refl _) (by rw [hX1]; exact hiP); have e : 36 :: tailTx X1.l X0.pt = tx := by rw [hX0, hX1, htx]
    rw [e] at h; exact h))
  have HCI := Lib.hid (fun (X0 : AT) (X1 : SR) (hX0 : X0.pt = T.pt) (hX1 : X1.l = lP) (w1 : World) (ho0 : X0.In w1 w1.heap.size) (ho1 : SAt w1 w1.heap.size X1.a X1.cap X1.l) (hb : Below w.heap.size w w1) => (show Calls Tryd.prog 21 #[X0.val, X1.val] w1 (fun e w' => e = .returned (.string ⟨tx.toArray⟩) ∧ Below w1.heap.size w1 w') from by
    have h := pathtext_impl X0 X1.l X1.a X1.cap w1 w1.heap.size ho0 ho1 (by rw [hX0]; exact hsT) (by rw [hX1]; exact hz2P) (Nat.le_refl _) (by rw [hX1]; exact hiP) (var_below hb htab); have e : 36 :: tailTx X1.l X0.pt = tx := by rw [hX0, hX1, htx]
    rw [e] at h; exact h))
  have hne : (tx != tx) = false := by simp
  clear htx hinT hwfT hzT hsT hsP hlP hzP hz2P hiP htab
  generalize 1048576 - T.pt.sz - lP.length = leftP at *
  generalize 1048576 - T.pt.sz = leftT at *
  show Calls Tryd.prog 4 #[.agg #[.int .i64 T.k, .int .i64 T.n, .int .i64 T.x, .string ⟨T.s.toArray⟩, .slice T.a T.l.length T.cap], .slice aP lP.length capP] w _
  go_enter Tryd.func4, Tryd.ntmps4
  go_wp2_with fail
  have hbox : Below w.heap.size w (w.alloc (.cells #[.int .i64 T.k, .int .i64 T.n, .int .i64 T.x, .string ⟨T.s.toArray⟩, .slice T.a T.l.length T.cap] 51)) := boxes1 w (.cells #[.int .i64 T.k, .int .i64 T.n, .int .i64 T.x, .string ⟨T.s.toArray⟩, .slice T.a T.l.length T.cap] 51)
  have hc : (w.alloc (.cells #[.int .i64 T.k, .int .i64 T.n, .int .i64 T.x, .string ⟨T.s.toArray⟩, .slice T.a T.l.length T.cap] 51)).cell? ⟨w.heap.size, 0, none⟩ = some (.int .i64 T.k) ∧ (w.alloc (.cells #[.int .i64 T.k, .int .i64 T.n, .int .i64 T.x, .string ⟨T.s.toArray⟩, .slice T.a T.l.length T.cap] 51)).cell? ⟨w.heap.size, 1, none⟩ = some (.int .i64 T.n) ∧ (w.alloc (.cells #[.int .i64 T.k, .int .i64 T.n, .int .i64 T.x, .string ⟨T.s.toArray⟩, .slice T.a T.l.length T.cap] 51)).cell? ⟨w.heap.size, 2, none⟩ = some (.int .i64 T.x) ∧ (w.alloc (.cells #[.int .i64 T.k, .int .i64 T.n, .int .i64 T.x, .string ⟨T.s.toArray⟩, .slice T.a T.l.length T.cap] 51)).cell? ⟨w.heap.size, 3, none⟩ = some (.string ⟨T.s.toArray⟩) ∧ (w.alloc (.cells #[.int .i64 T.k, .int .i64 T.n, .int .i64 T.x, .string ⟨T.s.toArray⟩, .slice T.a T.l.length T.cap] 51)).cell? ⟨w.heap.size, 4, none⟩ = some (.slice T.a T.l.length T.cap) := by refine ⟨?_, ?_, ?_, ?_, ?_⟩ <;> simp [go_sem]
  obtain ⟨c0, c1, c2, c3, c4⟩ := hc
  generalize (w.alloc (.cells #[.int .i64 T.k, .int .i64 T.n, .int .i64 T.x, .string ⟨T.s.toArray⟩, .slice T.a T.l.length T.cap] 51)) = w0 at *
  have HB0 := Lib.hid hbox
  clear hbox
  refine (HSZT.out _ HB0.out).mono ?_
  rintro e w1 ⟨rfl, hb1⟩
  have HB1 := Lib.hid (HB0.out.trans (hb1.mono HB0.out.size))
  replace c0 := keep_below hb1 c0
  replace c1 := keep_below hb1 c1
  replace c2 := keep_below hb1 c2
  replace c3 := keep_below hb1 c3
  replace c4 := keep_below hb1 c4
  clear hb1
  rw [HRT.out]
  go_wp2_with fail
  refine (HSZP.out _ HB1.out).mono ?_
  rintro e w2 ⟨rfl, hb2⟩
  have HB2 := Lib.hid (HB1.out.trans (hb2.mono HB1.out.size))
  replace c0 := keep_below hb2 c0
  replace c1 := keep_below hb2 c1
  replace c2 := keep_below hb2 c2
  replace c3 := keep_below hb2 c3
  replace c4 := keep_below hb2 c4
  clear hb2
  rw [HRP.out]
  go_wp2_with fail
  refine (HTVT.out _ HB2.out).mono ?_
  rintro e w3 ⟨S0, hp3, rfl, ho3, hn3, hb3⟩
  have HB3 := Lib.hid (HB2.out.trans (hb3.mono HB2.out.size))
  have HXc_S0 : Hid (w.heap.size ∉ S0.blks) := Lib.hid (fun hk => by have h1 := (ho3.lt _ hk).1; have h2 := cell_lt c0; simp only at h2; omega)
  replace c0 := keep_below hb3 c0
  replace c1 := keep_below hb3 c1
  replace c2 := keep_below hb3 c2
  replace c3 := keep_below hb3 c3
  replace c4 := keep_below hb3 c4
  have HPS0 := Lib.hid hp3
  have HOS0_3 := Lib.hid (ho3.base HB2.out.size)
  have HNS0 := Lib.hid hn3
  clear hp3 ho3 hn3
  clear hb3
  go_wp2_with fail
  refine (HTVP.out _ HB3.out).mono ?_
  rintro e w4 ⟨S1, hp4, rfl, ho4, hn4, hb4⟩
  have HB4 := Lib.hid (HB3.out.trans (hb4.mono HB3.out.size))
  have HDS1_S0 : Hid (∀ k ∈ S1.blks, k ∉ S0.blks) := Lib.hid (fun k hk hk2 => by have h1 := (ho4.lt k hk).1; have h2 := (HOS0_3.out.lt k hk2).2; omega)
  have HDS0_S1 : Hid (∀ k ∈ S0.blks, k ∉ S1.blks) := Lib.hid (fun k hk hk2 => by have h1 := (ho4.lt k hk2).1; have h2 := (HOS0_3.out.lt k hk).2; omega)
  have HXc_S1 : Hid (w.heap.size ∉ S1.blks) := Lib.hid (fun hk => by have h1 := (ho4.lt _ hk).1; have h2 := cell_lt c0; simp only at h2; omega)
  replace c0 := keep_below hb4 c0
  replace c1 := keep_below hb4 c1
  replace c2 := keep_below hb4 c2
  replace c3 := keep_below hb4 c3
  replace c4 := keep_below hb4 c4
  have HOS0_4 := Lib.hid (HOS0_3.out.blw hb4)
  clear HOS0_3
  have HPS1 := Lib.hid hp4
  have HOS1_4 := Lib.hid (ho4.base HB3.out.size)
  have HNS1 := Lib.hid hn4
  clear hp4 ho4 hn4
  clear hb4
  go_wp2_with fail
  refine (HCS.out S0 S1 HPS0.out HPS1.out _ HOS0_4.out.in HOS1_4.out.sat).mono ?_
  rintro e w5 ⟨rfl, hb5⟩
  have HB5 := Lib.hid (HB4.out.trans (hb5.mono HB4.out.size))
  replace c0 := keep_below hb5 c0
  replace c1 := keep_below hb5 c1
  replace c2 := keep_below hb5 c2
  replace c3 := keep_below hb5 c3
  replace c4 := keep_below hb5 c4
  have HOS0_5 := Lib.hid (HOS0_4.out.blw hb5)
  clear HOS0_4
  have HOS1_5 := Lib.hid (HOS1_4.out.blw hb5)
  clear HOS1_4
  clear hb5
  go_wp2_with fail
  refine (HTVT.out _ HB5.out).mono ?_
  rintro e w6 ⟨X0, hp6, rfl, ho6, hn6, hb6⟩
  have HB6 := Lib.hid (HB5.out.trans (hb6.mono HB5.out.size))
  have HXc_X0 : Hid (w.heap.size ∉ X0.blks) := Lib.hid (fun hk => by have h1 := (ho6.lt _ hk).1; have h2 := cell_lt c0; simp only at h2; omega)
  replace c0 := keep_below hb6 c0
  replace c1 := keep_below hb6 c1
  replace c2 := keep_below hb6 c2
  replace c3 := keep_below hb6 c3
  replace c4 := keep_below hb6 c4
  have HPX0 := Lib.hid hp6
  have HOX0_6 := Lib.hid (ho6.base HB5.out.size)
  have HNX0 := Lib.hid hn6
  clear hp6 ho6 hn6
  clear hb6
  have HXq_X0 : Hid (w6.heap.size ∉ X0.blks) := Lib.hid (fun hk => by have h2 := (HOX0_6.out.lt _ hk).2; omega)
  have hv7 := vbox w6 (.cells #[.int .i64 X0.k, .int .i64 X0.n, .int .i64 X0.x, .string ⟨X0.s.toArray⟩, .slice X0.a X0.l.length X0.cap] 26)
  have HB7 := Lib.hid (HB6.out.trans (hv7.mono HB6.out.size))
  replace c0 := keep_below hv7 c0
  replace c1 := keep_below hv7 c1
  replace c2 := keep_below hv7 c2
  replace c3 := keep_below hv7 c3
  replace c4 := keep_below hv7 c4
  have HOX0_7 := Lib.hid (HOX0_6.out.blw hv7)
  clear HOX0_6
  obtain ⟨q0, q1, q2, q3, q4⟩ := vcells5 w6 X0 26
  clear hv7
  go_wp2_with fail
  generalize (w6.alloc (.cells #[.int .i64 X0.k, .int .i64 X0.n, .int .i64 X0.x, .string ⟨X0.s.toArray⟩, .slice X0.a X0.l.length X0.cap] 26)) = w7 at *
  refine (HTVP.out _ HB7.out).mono ?_
  rintro e w8 ⟨X1, hp8, rfl, ho8, hn8, hb8⟩
  have HB8 := Lib.hid (HB7.out.trans (hb8.mono HB7.out.size))
  have HDX1_X0 : Hid (∀ k ∈ X1.blks, k ∉ X0.blks) := Lib.hid (fun k hk hk2 => by have h1 := (ho8.lt k hk).1; have h2 := (HOX0_7.out.lt k hk2).2; omega)
  have HDX0_X1 : Hid (∀ k ∈ X0.blks, k ∉ X1.blks) := Lib.hid (fun k hk hk2 => by have h1 := (ho8.lt k hk2).1; have h2 := (HOX0_7.out.lt k hk).2; omega)
  have HXc_X1 : Hid (w.heap.size ∉ X1.blks) := Lib.hid (fun hk => by have h1 := (ho8.lt _ hk).1; have h2 := cell_lt c0; simp only at h2; omega)
  have HXq_X1 : Hid (w6.heap.size ∉ X1.blks) := Lib.hid (fun hk => by have h1 := (ho8.lt _ hk).1; have h2 := cell_lt q0; simp only at h2; omega)
  replace c0 := keep_below hb8 c0
  replace c1 := keep_below hb8 c1
  replace c2 := keep_below hb8 c2
  replace c3 := keep_below hb8 c3
  replace c4 := keep_below hb8 c4
  replace q0 := keep_below hb8 q0
  replace q1 := keep_below hb8 q1
  replace q2 := keep_below hb8 q2
  replace q3 := keep_below hb8 q3
  replace q4 := keep_below hb8 q4
  have HOX0_8 := Lib.hid (HOX0_7.out.blw hb8)
  clear HOX0_7
  have HPX1 := Lib.hid hp8
  have HOX1_8 := Lib.hid (ho8.base HB7.out.size)
  have HNX1 := Lib.hid hn8
  clear hp8 ho8 hn8
  clear hb8
  go_wp2_with fail
  refine (HCI.out X0 X1 HPX0.out HPX1.out _ HOX0_8.out.in HOX1_8.out.sat HB8.out).mono ?_
  rintro e w9 ⟨rfl, hb9⟩
  have HB9 := Lib.hid (HB8.out.trans (hb9.mono HB8.out.size))
  replace c0 := keep_below hb9 c0
  replace c1 := keep_below hb9 c1
  replace c2 := keep_below hb9 c2
  replace c3 := keep_below hb9 c3
  replace c4 := keep_below hb9 c4
  replace q0 := keep_below hb9 q0
  replace q1 := keep_below hb9 q1
  replace q2 := keep_below hb9 q2
  replace q3 := keep_below hb9 q3
  replace q4 := keep_below hb9 q4
  have HOX0_9 := Lib.hid (HOX0_8.out.blw hb9)
  clear HOX0_8
  have HOX1_9 := Lib.hid (HOX1_8.out.blw hb9)
  clear HOX1_8
  clear hb9
  go_wp2_with fail
  have hownX0 := HOX0_9.out
  have hownX1 := HOX1_9.out
  have hbel := HB9.out
  go_region_held3 (fun W' => W'.cell? ⟨w.heap.size, 0, none⟩ = some (.int .i64 T.k) ∧ W'.cell? ⟨w.heap.size, 1, none⟩ = some (.int .i64 T.n) ∧ W'.cell? ⟨w.heap.size, 2, none⟩ = some (.int .i64 T.x) ∧ W'.cell? ⟨w.heap.size, 3, none⟩ = some (.string ⟨T.s.toArray⟩) ∧ W'.cell? ⟨w.heap.size, 4, none⟩ = some (.slice T.a T.l.length T.cap) ∧ W'.cell? ⟨w6.heap.size, 0, none⟩ = some (.int .i64 X0.k) ∧ W'.cell? ⟨w6.heap.size, 1, none⟩ = some (.int .i64 X0.n) ∧ W'.cell? ⟨w6.heap.size, 2, none⟩ = some (.int .i64 X0.x) ∧ W'.cell? ⟨w6.heap.size, 3, none⟩ = some (.string ⟨X0.s.toArray⟩) ∧ W'.cell? ⟨w6.heap.size, 4, none⟩ = some (.slice X0.a X0.l.length X0.cap) ∧ Below w.heap.size w W' ∧ X0.Own W' w.heap.size ∧ X1.Own W' w.heap.size) ((refine ⟨?_, ?_, ?_, ?_, ?_, ?_, ?_, ?_, ?_, ?_, ?_, ?_, ?_⟩ <;> first | assumption | (refine Below.drew ?_; assumption) | (refine AT.Own.drew ?_; assumption) | exact keep_below (by assumption) (by assumption) | exact below_tr (by assumption) (by assumption) | exact own_blw (by assumption) (by assumption) | (refine SR.Own.drew ?_; assumption) | exact sown_blw (by assumption) (by assumption))) ((first | (go_at_call 26; go_split_ands; ((with_reducible refine (HTVT.out _ (by assumption)).mono ?_); rintro e u0 ⟨Y0, hpu0, rfl, hou0, hnu0, hbu0⟩; have HOu0 := Lib.hid hou0; have HPu0 := Lib.hid hpu0; clear hou0 hnu0 hpu0)) | (go_at_call 28; go_split_ands; refine (HEQT.out X0 Y0 HPX0.out HPu0.out _ (AT.Own.in (by assumption)) HOu0.out.in).mono ?_; rintro e v0 ⟨rfl, hbv0⟩)))
  go_split_ands
  replace c0 : v0.cell? ⟨w.heap.size, 0, none⟩ = some (.int .i64 T.k) := by assumption
  replace c1 : v0.cell? ⟨w.heap.size, 1, none⟩ = some (.int .i64 T.n) := by assumption
  replace c2 : v0.cell? ⟨w.heap.size, 2, none⟩ = some (.int .i64 T.x) := by assumption
  replace c3 : v0.cell? ⟨w.heap.size, 3, none⟩ = some (.string ⟨T.s.toArray⟩) := by assumption
  replace c4 : v0.cell? ⟨w.heap.size, 4, none⟩ = some (.slice T.a T.l.length T.cap) := by assumption
  replace q0 : v0.cell? ⟨w6.heap.size, 0, none⟩ = some (.int .i64 X0.k) := by assumption
  replace q1 : v0.cell? ⟨w6.heap.size, 1, none⟩ = some (.int .i64 X0.n) := by assumption
  replace q2 : v0.cell? ⟨w6.heap.size, 2, none⟩ = some (.int .i64 X0.x) := by assumption
  replace q3 : v0.cell? ⟨w6.heap.size, 3, none⟩ = some (.string ⟨X0.s.toArray⟩) := by assumption
  replace q4 : v0.cell? ⟨w6.heap.size, 4, none⟩ = some (.slice X0.a X0.l.length X0.cap) := by assumption
  have HB10 : Hid (Below w.heap.size w v0) := Lib.hid (by assumption)
  have HOX0_10 : Hid (X0.Own v0 w.heap.size) := Lib.hid (by assumption)
  have HOX1_10 : Hid (X1.Own v0 w.heap.size) := Lib.hid (by assumption)
  clear hbel hownX0 hownX1
  go_wp2_with fail
  refine (HTVP.out _ HB10.out).mono ?_
  rintro e w11 ⟨Z1, hp11, rfl, ho11, hn11, hb11⟩
  have HB11 := Lib.hid (HB10.out.trans (hb11.mono HB10.out.size))
  have HDZ1_X0 : Hid (∀ k ∈ Z1.blks, k ∉ X0.blks) := Lib.hid (fun k hk hk2 => by have h1 := (ho11.lt k hk).1; have h2 := (HOX0_10.out.lt k hk2).2; omega)
  have HDX0_Z1 : Hid (∀ k ∈ X0.blks, k ∉ Z1.blks) := Lib.hid (fun k hk hk2 => by have h1 := (ho11.lt k hk2).1; have h2 := (HOX0_10.out.lt k hk).2; omega)
  have HDZ1_X1 : Hid (∀ k ∈ Z1.blks, k ∉ X1.blks) := Lib.hid (fun k hk hk2 => by have h1 := (ho11.lt k hk).1; have h2 := (HOX1_10.out.lt k hk2).2; omega)
  have HDX1_Z1 : Hid (∀ k ∈ X1.blks, k ∉ Z1.blks) := Lib.hid (fun k hk hk2 => by have h1 := (ho11.lt k hk2).1; have h2 := (HOX1_10.out.lt k hk).2; omega)
  have HXc_Z1 : Hid (w.heap.size ∉ Z1.blks) := Lib.hid (fun hk => by have h1 := (ho11.lt _ hk).1; have h2 := cell_lt c0; simp only at h2; omega)
  have HXq_Z1 : Hid (w6.heap.size ∉ Z1.blks) := Lib.hid (fun hk => by have h1 := (ho11.lt _ hk).1; have h2 := cell_lt q0; simp only at h2; omega)
  replace c0 := keep_below hb11 c0
  replace c1 := keep_below hb11 c1
  replace c2 := keep_below hb11 c2
  replace c3 := keep_below hb11 c3
  replace c4 := keep_below hb11 c4
  replace q0 := keep_below hb11 q0
  replace q1 := keep_below hb11 q1
  replace q2 := keep_below hb11 q2
  replace q3 := keep_below hb11 q3
  replace q4 := keep_below hb11 q4
  have HOX0_11 := Lib.hid (HOX0_10.out.blw hb11)
  clear HOX0_10
  have HOX1_11 := Lib.hid (HOX1_10.out.blw hb11)
  clear HOX1_10
  have HPZ1 := Lib.hid hp11
  have HOZ1_11 := Lib.hid (ho11.base HB10.out.size)
  have HNZ1 := Lib.hid hn11
  clear hp11 ho11 hn11
  clear hb11
  go_wp2_with fail
  refine (HEQP.out X1 Z1 HPX1.out HPZ1.out _ HOX1_11.out.sat HOZ1_11.out.sat).mono ?_
  rintro e w12 ⟨rfl, hb12⟩
  have HB12 := Lib.hid (HB11.out.trans (hb12.mono HB11.out.size))
  replace c0 := keep_below hb12 c0
  replace c1 := keep_below hb12 c1
  replace c2 := keep_below hb12 c2
  replace c3 := keep_below hb12 c3
  replace c4 := keep_below hb12 c4
  replace q0 := keep_below hb12 q0
  replace q1 := keep_below hb12 q1
  replace q2 := keep_below hb12 q2
  replace q3 := keep_below hb12 q3
  replace q4 := keep_below hb12 q4
  have HOX0_12 := Lib.hid (HOX0_11.out.blw hb12)
  clear HOX0_11
  have HOX1_12 := Lib.hid (HOX1_11.out.blw hb12)
  clear HOX1_11
  have HOZ1_12 := Lib.hid (HOZ1_11.out.blw hb12)
  clear HOZ1_11
  clear hb12
  go_wp2
  go_ret
  exact ⟨rfl, HB12.out⟩
theorem walk (T : AT) (lP : List St) (aP : Option Addr) (capP : Nat) (w : World) (hinT : T.In w w.heap.size) (hwfT : T.pt.Wf) (hsP : SAt w w.heap.size aP capP lP) (hlP : lP.length ≤ 9223372036854775807) (hiP : ∀ s ∈ lP, -9223372036854775808 ≤ s.1 ∧ s.1 ≤ 9223372036854775807) (htab : Lib.TabIs Tryd.prog w "internal/strconv.uint64pow10" .u64 Lib.pow10Tab) : Calls Tryd.prog 4 #[T.val, .slice aP lP.length capP] w fun e w' => e = .returned (.bool true) ∧ Below w.heap.size w w' := by
  by_cases hzT : T.pt.sz ≤ 1048576
  case neg => exact big1 T lP aP capP w hinT hwfT hsP hlP hiP htab hzT
  by_cases hzP : lP.length ≤ 1048576 - T.pt.sz
  case neg => exact big2 T lP aP capP w hinT hwfT hsP hlP hiP htab hzT hzP
  exact main T lP aP capP w hinT hwfT hsP hlP hiP htab hzT hzP

set_option maxRecDepth 100000 in
theorem contract (H : Type) (enc : TypeId × Value → H) (W : World) (base : Nat) (args : Array Value) (ds gs : List (DataW H)) (before : List MemPlace)
    (hval : ∀ (j : Nat) t v, Tryd.f4.params[j]? = some t → args[j]? = some v → Value.okWide Tryd.prog W .any base t v)
    (hW : DataW.Whole enc Tryd.prog Tryd.f4.params.toList Rows.fnExactPathTextSpec.vars false W args.toList ds gs before)
    (hcond : ∀ k, (OpenSpec.ofChange Rows.fnExactPathTextSpec).cond = some k → k H (ds ++ gs) = true)
    (hsz : (DataW.weightsEach Tryd.prog (Tryd.f4.params.toList ++ (OpenSpec.ofChange Rows.fnExactPathTextSpec).bare.plain.varTypes Tryd.prog) (ds ++ gs)).all (· ≤ reachBytes) = true)
    (hL : laidMetH Tryd.prog Rows.fnExactPathTextRow.laid W) :
    Calls Tryd.prog 4 args W fun e W' => ∃ v, e = .returned v ∧ Rows.fnExactPathTextSpec.post enc Tryd.prog Tryd.f4 false true false false W args v W' := by
  have hW' := hW
  have hlt := hW'.lt
  obtain ⟨p, q, hA0, hV, rfl, hfz, hnd⟩ := hW
  have hA : DataW.TrodAll enc Tryd.prog W 0 (fun _ => true) true Tryd.f4.params.toList args.toList ds p := hA0
  rw [Tryd.params4] at hA hval hsz
  obtain ⟨v0, vs0, d0, ds0, p0, q0, hargs, rfl, rfl, h0, r0⟩ := trodAll_cons hA
  obtain ⟨v1, vs1, d1, ds1, p1, q1, rfl, rfl, rfl, h1, r1⟩ := trodAll_cons r0
  obtain ⟨rfl, rfl, rfl⟩ := trodAll_nil r1
  obtain rfl : args = #[v0, v1] := by cases args; simp_all
  obtain ⟨rfl, rfl⟩ := trodVars_none hV
  simp only [List.append_nil] at hW' hlt
  have hlt0 : ∀ x ∈ p0, x.block < W.heap.size := fun x hx => hlt x (by simp [hx])
  have hlt1 : ∀ x ∈ p1, x.block < W.heap.size := fun x hx => hlt x (by simp [hx])
  have hk0 := h0
  have hk1 := h1
  obtain ⟨T0, rfl, hin0, hwf0⟩ := open_val (hval 0 51 v0 rfl rfl) h0
  obtain ⟨a1, cap1, l1, rfl, hs1, hlen1, hwf1⟩ := open_steps (hval 1 52 v1 rfl rfl) h1
  clear hA0 hA
  have fin : ∀ W' : World, Below W.heap.size W W' → Rows.fnExactPathTextSpec.post enc Tryd.prog Tryd.f4 false true false false W _ (.bool true) W' := fun W' hb =>
    ⟨_, _, _, [], _, [], hW', trodAll_mk1 (shut_bool Tryd.underlying4 _), (trodAll_cons_mk (Below.trod laidOut (by kernel_rfl) (of_decide_eq_true (by kernel_rfl)) hk0 hb hlt0) (trodAll_cons_mk (Below.trod laidOut (by kernel_rfl) (of_decide_eq_true (by kernel_rfl)) hk1 hb hlt1) trodAll_mk0)), rfl, hb.frame _, fun h => by cases h⟩
  refine Calls.mono (R := fun e w' => e = .returned (.bool true) ∧ Below W.heap.size W w') ?_ (fun e W' h => ⟨_, h.1, fin W' h.2⟩)
  clear fin
  rw [MakeChecks.laidMetH_plain _ _ _ (by kernel_rfl)] at hL
  exact walk T0 l1 a1 cap1 W hin0 hwf0 hs1 hlen1 hwf1 (tabs_pow10 hL)

theorem laid_met (os : Os) : laidMet Tryd.prog Rows.fnExactPathTextRow.laid (((World.doorLaid Tryd.prog 4000 os)).forCall (fun _ _ => 0) ⟨#[], #[.agg #[.int .i64 0, .int .i64 0, .int .i64 0, .string ⟨#[]⟩, .slice none 0 0], .slice none 0 0], []⟩).memory :=
  (laidMet_of_run' 8 (by kernel_rfl) (by kernel_rfl))
theorem reads (os : Os) {H : Type} (enc : TypeId × Value → H) : ∃ places, DataW.whole enc Tryd.prog (((World.doorLaid Tryd.prog 4000 os)).forCall (fun _ _ => 0) ⟨#[], #[.agg #[.int .i64 0, .int .i64 0, .int .i64 0, .string ⟨#[]⟩, .slice none 0 0], .slice none 0 0], []⟩).memory Tryd.f4.params.toList Rows.fnExactPathTextSpec.vars false (#[.agg #[.int .i64 0, .int .i64 0, .int .i64 0, .string ⟨#[]⟩, .slice none 0 0], .slice none 0 0] : Array Value).toList 8 = some ([.agg [.lit (.int .i64 0), .lit (.int .i64 0), .lit (.int .i64 0), .lit (.string []), .nil], .nil], [], places) :=
  ⟨[], by kernel_rfl⟩

set_option maxRecDepth 100000 in
theorem lifted (os : Os) (started : os.Started) (H : Type) (enc : TypeId × Value → H) (F : Stop.Interp) :
    ReturnsInHanded {} Tryd.checked os 4 .any ((OpenSpec.ofChange Rows.fnExactPathTextSpec).preRow enc Tryd.prog Tryd.f4 Rows.fnExactPathTextRow.domain false Rows.fnExactPathTextRow.laid) (((OpenSpec.ofChange Rows.fnExactPathTextSpec).at F).post enc Tryd.prog Tryd.f4 false true false false) := by
  obtain ⟨places, hx⟩ := reads os enc
  refine returnsInHanded_of_row (C := Tryd.checked) (s := OpenSpec.ofChange Rows.fnExactPathTextSpec) own started (by kernel_rfl) Tryd.func4
    (witness_row_atRef (enc := enc) (C := Tryd.checked) false (World.doorLaid Tryd.prog 4000 os) #[.agg #[.int .i64 0, .int .i64 0, .int .i64 0, .string ⟨#[]⟩, .slice none 0 0], .slice none 0 0] rfl (by kernel_rfl) (by kernel_rfl) (by kernel_rfl)
      (OpenSpec.preRow_of_cond 8 hx (by kernel_rfl) (fun k hk => by cases hk) (by kernel_rfl) (laid_met os))) ?_
  intro W base args ds gs before hval hW _ hcond hsz hL _ _
  exact contract H enc W base args ds gs before hval hW hcond hsz hL

theorem said : Rows.FnExactPathTextSaid :=
  OpenClaim.holds_of_cond 4 Tryd.f4 rfl rfl rfl rfl rfl rfl rfl ⟨rfl, rfl, rfl, rfl, rfl⟩ rfl rfl rfl rfl rfl (by kernel_rfl) Tryd.func4 (by kernel_rfl)
    (of_decide_eq_true (by kernel_rfl)) (by unfold Func.isWrapper; first | (rw [if_pos (by decide +kernel)]; kernel_rfl) | (rw [if_neg (by decide +kernel)]; exact ⟨rfl, rfl⟩))
    (fun os started H enc _ F => by rw [OpenClaim.pre_eq_preRow]; exact lifted os started H enc F)

theorem plain (f : FuncId) (fn : Func) (hf : Tryd.pinned.checked.prog.funcNamed Rows.fnExactPathTextRow.func = some f) (hfn : Tryd.pinned.checked.prog.funcs[f]? = some fn) :
    false = Tryd.pinned.checked.prog.looks [] ∧ ∀ (j : Nat) t, fn.params[j]? = some t → Tryd.pinned.checked.prog.wantsStandIn t = false := by
  obtain rfl : f = 4 := Option.some.inj ((show Tryd.prog.funcNamed Rows.fnExactPathTextRow.func = some 4 by kernel_rfl).symm.trans hf) |>.symm
  obtain rfl : fn = Tryd.f4 := (Option.some.inj (Tryd.func4.symm.trans hfn)).symm
  refine ⟨by kernel_rfl, fun j t ht => ?_⟩
  rw [Tryd.params4] at ht
  have hm : t ∈ [51, 52] := by simpa using Array.mem_of_getElem? ht
  have hall : ([51, 52].all fun u => !Tryd.prog.wantsStandIn u) = true := by kernel_rfl
  exact (show Tryd.prog.wantsStandIn t = false by simpa using List.all_eq_true.1 hall t hm)

theorem proved : Rows.FnExactPathTextCardSaid :=
  Claim7.holds_tied_plain_at .later [] _ _ _ _ said (fun _ h => by cases h) (by kernel_rfl) (fun _ h => by cases h) fnExactPathText_row_tie rfl ⟨rfl, rfl⟩ (by kernel_rfl) rfl plain (by kernel_rfl)
#print axioms proved
end Go.Proofs.YtgfebmnlcihpnaaDoor.fnExactPathText
