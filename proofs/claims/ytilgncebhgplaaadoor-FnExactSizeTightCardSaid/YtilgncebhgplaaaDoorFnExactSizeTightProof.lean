/- For every input the law FnExactSizeTight returns true and its arguments read afterwards as they read before; beside what the row states there is no condition. -/
import Derived.Test.YtilgncebhgplaaaDoorCards
import Derived.Test.YtilgncebhgplaaaDoorTie
import Derived.WalkKit
import Derived.ProofKit
import Derived.OpenShut
import Derived.SizedLaws
import Derived.Carry
import Derived.Deep.DeepHandedRow
import Derived.Deep.DeepWitnessRowRef
import Derived.LaidMore
import Derived.Lib.LaidTab
import Derived.Stop.LaidErr
import Derived.Test.YtilgncebhgplaaaDoorG0
import Derived.Test.YtilgncebhgplaaaDoorG1
import Derived.Test.YtilgncebhgplaaaDoorG25
import Derived.Test.YtilgncebhgplaaaDoorG10
import Derived.Deep.RegionHeld3

namespace Go.Proofs.YtilgncebhgplaaaDoor.fnExactSizeTight
open Go.ChangeShapes Go.WideShapes Go.ChangeAt Go.RowKit
open Go.ChangeMaps (open_string shut_string)
set_option linter.unusedVariables false

theorem own : ownKnob Tryd.prog.godebug = none := by kernel_rfl
theorem laidOut : laidOutB Tryd.prog = true := by kernel_rfl

set_option maxHeartbeats 1000000 in
theorem walk (T : AT) (w : World) (hin : T.In w w.heap.size) (hwf : T.pt.Wf) (hTz : Tz w) : Calls Tryd.prog 8 #[T.val] w fun e w' => e = .returned (.bool true) ∧ Below w.heap.size w w' := by
  have hsz := fun (w1 : World) (hb : Below w.heap.size w w1) => szVal_any T hwf w1 w.heap.size 1048576 (hin.blw hb (Nat.le_refl _)) hb.size (Nat.le_refl _)
  have HSZ := Lib.hid hsz
  clear hsz
  by_cases hbig : T.pt.sz ≤ 1048576
  · have hr : szR T.pt.sz 1048576 = ((1048576 - T.pt.sz : Nat) : Int) := by unfold szR; rw [if_pos hbig]; omega
    have HR := Lib.hid hr
    have hneg : ¬ (((1048576 - T.pt.sz : Nat) : Int) < 0) := by omega
    have htv := fun (w1 : World) (hb : Below w.heap.size w w1) => toVal_any T hwf hbig w1 w.heap.size (hin.blw hb (Nat.le_refl _)) hb.size
    have HTV := Lib.hid htv
    clear htv hr
    have HTZ := Lib.hid hTz
    clear hTz
    obtain ⟨C, hC⟩ : ∃ C, C = (if T.pt.fitC = true then T.pt.tight hdFor else []).length := ⟨_, rfl⟩
    have hcs := fun (T' : AT) (hp : T'.pt = T.pt) (w1 : World) (hi : T'.In w1 w1.heap.size) => (sizetight_spec T' w1 w1.heap.size ⟨by rw [hp]; exact hwf, by rw [hp]; exact hbig⟩ hi (Nat.le_refl _)).mono (fun e w' h => (⟨by rw [h.1, hp, ← hC], h.2⟩ : e = .returned (.int .i64 (C : Nat)) ∧ Below w1.heap.size w1 w'))
    have hci := fun (T' : AT) (hp : T'.pt = T.pt) (w1 : World) (hi : T'.In w1 w1.heap.size) (hbw : Below w.heap.size w w1) => (sizetight_impl T' w1 w1.heap.size ⟨by rw [hp]; exact hwf, by rw [hp]; exact hbig⟩ hi (Nat.le_refl _) (HTZ.out.below hbw)).mono (fun e w' h => (⟨by rw [h.1, hp, ← hC], h.2⟩ : e = .returned (.int .i64 (C : Nat)) ∧ Below w1.heap.size w1 w'))
    have heq := fun (T' U : AT) (hp : T'.pt = T.pt) (hu : U.pt = T.pt) (w1 : World) (hi : T'.In w1 w1.heap.size) (hj : U.In w1 w1.heap.size) => eqVal_any T' (by rw [hp]; exact hwf) U w1 w1.heap.size (by rw [hp, hu]) hi hj (Nat.le_refl _)
    have HCS := Lib.hid hcs
    have HCI := Lib.hid hci
    have HEQ := Lib.hid heq
    clear hcs hci heq hbig hwf hin hC
    generalize 1048576 - T.pt.sz = left at *
    obtain ⟨k, n, x, s, a, cap, l⟩ := T
    show Calls Tryd.prog 8 #[.agg #[.int .i64 k, .int .i64 n, .int .i64 x, .string ⟨s.toArray⟩, .slice a l.length cap]] w _
    go_enter Tryd.func8, Tryd.ntmps8
    go_wp2_with fail
    refine (HSZ.out _ (vbox _ _)).mono ?_
    rintro e w1 ⟨rfl, hb1⟩
    rw [HR.out]
    have HB1 := Lib.hid ((vbox w _).trans (hb1.mono (by simp)))
    have c0 := box5 w k n x ⟨s.toArray⟩ a l.length cap 24 (by simpa using hb1)
    obtain ⟨c0, c1, c2, c3, c4⟩ := c0
    clear hb1
    go_wp2_with fail
    refine (HTV.out _ HB1.out).mono ?_
    rintro e w2 ⟨T2, hp2, rfl, ho2, hn2, hb2⟩
    have HP2 := Lib.hid hp2
    have HO2 := Lib.hid ho2
    have HB2 := Lib.hid (HB1.out.trans (hb2.mono HB1.out.size))
    replace c0 := keep_below hb2 c0
    replace c1 := keep_below hb2 c1
    replace c2 := keep_below hb2 c2
    replace c3 := keep_below hb2 c3
    replace c4 := keep_below hb2 c4
    clear hp2 ho2 hn2 hb2
    go_wp2_with fail
    refine (HCS.out T2 HP2.out w2 HO2.out.in).mono ?_
    rintro e w3 ⟨rfl, hb3⟩
    have HB3 := Lib.hid (HB2.out.trans (hb3.mono HB2.out.size))
    replace c0 := keep_below hb3 c0
    replace c1 := keep_below hb3 c1
    replace c2 := keep_below hb3 c2
    replace c3 := keep_below hb3 c3
    replace c4 := keep_below hb3 c4
    clear hb3
    go_wp2_with fail
    refine (HTV.out _ HB3.out).mono ?_
    rintro e w4 ⟨T3, hp3, rfl, ho3, hn3, hb4⟩
    have HP3 := Lib.hid hp3
    have HO3 := Lib.hid (ho3.base HB3.out.size)
    have HB4 := Lib.hid (HB3.out.trans (hb4.mono HB3.out.size))
    replace c0 := keep_below hb4 c0
    replace c1 := keep_below hb4 c1
    replace c2 := keep_below hb4 c2
    replace c3 := keep_below hb4 c3
    replace c4 := keep_below hb4 c4
    clear hp3 ho3 hn3 hb4
    go_wp2_with fail
    refine (HCI.out T3 HP3.out _ (HO3.out.blw (vbox _ _)).in (HB4.out.trans ((vbox w4 _).mono HB4.out.size))).mono ?_
    rintro e w5 ⟨rfl, hb5⟩
    have HB5 := Lib.hid ((HB4.out.trans ((vbox w4 _).mono HB4.out.size)).trans (hb5.mono (by have := HB4.out.size; simp; omega)))
    have HO5 := Lib.hid ((HO3.out.blw (vbox _ _)).blw hb5)
    obtain ⟨d0, d1, d2, d3, d4⟩ := box5 w4 T3.k T3.n T3.x ⟨T3.s.toArray⟩ T3.a T3.l.length T3.cap 29 (by simpa using hb5)
    replace c0 := keep_below hb5 (keep_below (vbox _ _) c0)
    replace c1 := keep_below hb5 (keep_below (vbox _ _) c1)
    replace c2 := keep_below hb5 (keep_below (vbox _ _) c2)
    replace c3 := keep_below hb5 (keep_below (vbox _ _) c3)
    replace c4 := keep_below hb5 (keep_below (vbox _ _) c4)
    clear hb5
    generalize w4.heap.size = X at *
    have hbz := HB5.out
    have hoz := HO5.out
    go_wp2_with fail
    go_region_held3 (fun W' => W'.cell? ⟨w.heap.size, 0, none⟩ = some (.int .i64 k) ∧ W'.cell? ⟨w.heap.size, 1, none⟩ = some (.int .i64 n) ∧ W'.cell? ⟨w.heap.size, 2, none⟩ = some (.int .i64 x) ∧ W'.cell? ⟨w.heap.size, 3, none⟩ = some (.string ⟨s.toArray⟩) ∧ W'.cell? ⟨w.heap.size, 4, none⟩ = some (.slice a l.length cap) ∧ W'.cell? ⟨X, 0, none⟩ = some (.int .i64 T3.k) ∧ W'.cell? ⟨X, 1, none⟩ = some (.int .i64 T3.n) ∧ W'.cell? ⟨X, 2, none⟩ = some (.int .i64 T3.x) ∧ W'.cell? ⟨X, 3, none⟩ = some (.string ⟨T3.s.toArray⟩) ∧ W'.cell? ⟨X, 4, none⟩ = some (.slice T3.a T3.l.length T3.cap) ∧ Below w.heap.size w W' ∧ T3.Own W' w.heap.size) (first | (refine ⟨?_, ?_, ?_, ?_, ?_, ?_, ?_, ?_, ?_, ?_, ?_, ?_⟩ <;> assumption) | (refine ⟨?_, ?_, ?_, ?_, ?_, ?_, ?_, ?_, ?_, ?_, Below.drew ?_, AT.Own.drew ?_⟩ <;> assumption) | (refine keep12 (by assumption) ⟨?_, ?_, ?_, ?_, ?_, ?_, ?_, ?_, ?_, ?_, ?_, ?_⟩ <;> assumption)) ((first | (go_at_call 11; go_split_ands; refine (HTV.out _ (by assumption)).mono ?_; rintro e w6 ⟨T4, hp4, rfl, ho4, hn4, hb6⟩; have HO4 := Lib.hid ho4; have HP4 := Lib.hid hp4; clear ho4 hn4 hp4) | (go_at_call 13; go_split_ands; refine (HEQ.out T3 T4 HP3.out HP4.out _ (AT.Own.in (by assumption)) HO4.out.in).mono ?_; rintro e w7 ⟨rfl, hb7⟩)))
    all_goals
      go_split_ands
      go_wp2
      go_ret
      exact ⟨rfl, by assumption⟩
  · have hr : szR T.pt.sz 1048576 = -1 := by unfold szR; rw [if_neg hbig]
    have HR := Lib.hid hr
    clear hr hbig hwf hin
    obtain ⟨k, n, x, s, a, cap, l⟩ := T
    show Calls Tryd.prog 8 #[.agg #[.int .i64 k, .int .i64 n, .int .i64 x, .string ⟨s.toArray⟩, .slice a l.length cap]] w _
    go_enter Tryd.func8, Tryd.ntmps8
    go_wp2_with fail
    refine (HSZ.out _ (vbox _ _)).mono ?_
    rintro e w1 ⟨rfl, hb1⟩
    rw [HR.out]
    have HB1 := Lib.hid ((vbox w _).trans (hb1.mono (by simp)))
    clear hb1
    go_wp2
    go_ret
    exact ⟨rfl, HB1.out⟩

set_option maxRecDepth 100000 in
theorem contract (H : Type) (enc : TypeId × Value → H) (W : World) (base : Nat) (args : Array Value) (ds gs : List (DataW H)) (before : List MemPlace)
    (hval : ∀ (j : Nat) t v, Tryd.f8.params[j]? = some t → args[j]? = some v → Value.okWide Tryd.prog W .any base t v)
    (hW : DataW.Whole enc Tryd.prog Tryd.f8.params.toList Rows.fnExactSizeTightSpec.vars false W args.toList ds gs before)
    (hcond : ∀ k, (OpenSpec.ofChange Rows.fnExactSizeTightSpec).cond = some k → k H (ds ++ gs) = true)
    (hsz : (DataW.weightsEach Tryd.prog (Tryd.f8.params.toList ++ (OpenSpec.ofChange Rows.fnExactSizeTightSpec).bare.plain.varTypes Tryd.prog) (ds ++ gs)).all (· ≤ reachBytes) = true)
    (hL : laidMetH Tryd.prog Rows.fnExactSizeTightRow.laid W) :
    Calls Tryd.prog 8 args W fun e W' => ∃ v, e = .returned v ∧ Rows.fnExactSizeTightSpec.post enc Tryd.prog Tryd.f8 false true false false W args v W' := by
  have hW' := hW
  have hlt := hW'.lt
  obtain ⟨p, q, hA0, hV, rfl, hfz, hnd⟩ := hW
  have hA : DataW.TrodAll enc Tryd.prog W 0 (fun _ => true) true Tryd.f8.params.toList args.toList ds p := hA0
  rw [Tryd.params8] at hA hval hsz
  obtain ⟨v0, vs0, d0, ds0, p0, q0, hargs, rfl, rfl, h0, r0⟩ := trodAll_cons hA
  obtain ⟨rfl, rfl, rfl⟩ := trodAll_nil r0
  obtain rfl : args = #[v0] := by cases args; simp_all
  obtain ⟨rfl, rfl⟩ := trodVars_none hV
  simp only [List.append_nil] at hW' hlt
  have hlt0 : ∀ x ∈ p0, x.block < W.heap.size := fun x hx => hlt x (by simp [hx])
  have hk0 := h0
  obtain ⟨T0, rfl, hin0, hwf0⟩ := open_val (hval 0 24 v0 rfl rfl) h0
  clear hA0 hA
  have fin : ∀ W' : World, Below W.heap.size W W' → Rows.fnExactSizeTightSpec.post enc Tryd.prog Tryd.f8 false true false false W _ (.bool true) W' := fun W' hb =>
    ⟨_, _, _, [], _, [], hW', trodAll_mk1 (shut_bool Tryd.underlying4 _), (trodAll_cons_mk (Below.trod laidOut (by kernel_rfl) (of_decide_eq_true (by kernel_rfl)) hk0 hb hlt0) trodAll_mk0), rfl, hb.frame _, fun h => by cases h⟩
  refine Calls.mono (R := fun e w' => e = .returned (.bool true) ∧ Below W.heap.size W w') ?_ (fun e W' h => ⟨_, h.1, fin W' h.2⟩)
  clear fin
  exact walk T0 W hin0 hwf0 (tabs_tz hL)

theorem laid_met (os : Os) : laidMet Tryd.prog Rows.fnExactSizeTightRow.laid (((World.doorLaid Tryd.prog 4000 os)).forCall (fun _ _ => 0) ⟨#[], #[.agg #[.int .i64 0, .int .i64 0, .int .i64 0, .string ⟨#[]⟩, .slice none 0 0]], []⟩).memory :=
  (laidMet_of_run' 8 (by kernel_rfl) (by kernel_rfl))
theorem reads (os : Os) {H : Type} (enc : TypeId × Value → H) : ∃ places, DataW.whole enc Tryd.prog (((World.doorLaid Tryd.prog 4000 os)).forCall (fun _ _ => 0) ⟨#[], #[.agg #[.int .i64 0, .int .i64 0, .int .i64 0, .string ⟨#[]⟩, .slice none 0 0]], []⟩).memory Tryd.f8.params.toList Rows.fnExactSizeTightSpec.vars false (#[.agg #[.int .i64 0, .int .i64 0, .int .i64 0, .string ⟨#[]⟩, .slice none 0 0]] : Array Value).toList 8 = some ([.agg [.lit (.int .i64 0), .lit (.int .i64 0), .lit (.int .i64 0), .lit (.string []), .nil]], [], places) :=
  ⟨[], by kernel_rfl⟩

set_option maxRecDepth 100000 in
theorem lifted (os : Os) (started : os.Started) (H : Type) (enc : TypeId × Value → H) (F : Stop.Interp) :
    ReturnsInHanded {} Tryd.checked os 8 .any ((OpenSpec.ofChange Rows.fnExactSizeTightSpec).preRow enc Tryd.prog Tryd.f8 Rows.fnExactSizeTightRow.domain false Rows.fnExactSizeTightRow.laid) (((OpenSpec.ofChange Rows.fnExactSizeTightSpec).at F).post enc Tryd.prog Tryd.f8 false true false false) := by
  obtain ⟨places, hx⟩ := reads os enc
  refine returnsInHanded_of_row (C := Tryd.checked) (s := OpenSpec.ofChange Rows.fnExactSizeTightSpec) own started (by kernel_rfl) Tryd.func8
    (witness_row_atRef (enc := enc) (C := Tryd.checked) false (World.doorLaid Tryd.prog 4000 os) #[.agg #[.int .i64 0, .int .i64 0, .int .i64 0, .string ⟨#[]⟩, .slice none 0 0]] rfl (by kernel_rfl) (by kernel_rfl) (by kernel_rfl)
      (OpenSpec.preRow_of_cond 8 hx (by kernel_rfl) (fun k hk => by cases hk) (by kernel_rfl) (laid_met os))) ?_
  intro W base args ds gs before hval hW _ hcond hsz hL _ _
  exact contract H enc W base args ds gs before hval hW hcond hsz hL

theorem said : Rows.FnExactSizeTightSaid :=
  OpenClaim.holds_of_cond 8 Tryd.f8 rfl rfl rfl rfl rfl rfl rfl ⟨rfl, rfl, rfl, rfl, rfl⟩ rfl rfl rfl rfl rfl (by kernel_rfl) Tryd.func8 (by kernel_rfl)
    (of_decide_eq_true (by kernel_rfl)) (by unfold Func.isWrapper; first | (rw [if_pos (by decide +kernel)]; kernel_rfl) | (rw [if_neg (by decide +kernel)]; exact ⟨rfl, rfl⟩))
    (fun os started H enc _ F => by rw [OpenClaim.pre_eq_preRow]; exact lifted os started H enc F)

theorem plain (f : FuncId) (fn : Func) (hf : Tryd.pinned.checked.prog.funcNamed Rows.fnExactSizeTightRow.func = some f) (hfn : Tryd.pinned.checked.prog.funcs[f]? = some fn) :
    true = Tryd.pinned.checked.prog.looks [] ∧ ∀ (j : Nat) t, fn.params[j]? = some t → Tryd.pinned.checked.prog.wantsStandIn t = false := by
  obtain rfl : f = 8 := Option.some.inj ((show Tryd.prog.funcNamed Rows.fnExactSizeTightRow.func = some 8 by kernel_rfl).symm.trans hf) |>.symm
  obtain rfl : fn = Tryd.f8 := (Option.some.inj (Tryd.func8.symm.trans hfn)).symm
  refine ⟨by kernel_rfl, fun j t ht => ?_⟩
  rw [Tryd.params8] at ht
  have hm : t ∈ [24] := by simpa using Array.mem_of_getElem? ht
  have hall : ([24].all fun u => !Tryd.prog.wantsStandIn u) = true := by kernel_rfl
  exact (show Tryd.prog.wantsStandIn t = false by simpa using List.all_eq_true.1 hall t hm)

theorem proved : Rows.FnExactSizeTightCardSaid :=
  Claim7.holds_tied_plain_at .later [] _ _ _ _ said (fun _ h => by cases h) (by kernel_rfl) (fun _ h => by cases h) fnExactSizeTight_row_tie rfl ⟨rfl, rfl⟩ (by kernel_rfl) rfl plain (by kernel_rfl)
#print axioms proved
end Go.Proofs.YtilgncebhgplaaaDoor.fnExactSizeTight
