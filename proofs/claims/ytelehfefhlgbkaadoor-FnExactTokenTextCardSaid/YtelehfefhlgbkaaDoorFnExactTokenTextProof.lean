/- For every input the law FnExactTokenText returns true and its arguments read afterwards as they read before; beside what the row states there is no condition. -/
import Derived.Test.YtelehfefhlgbkaaDoorCards
import Derived.Test.YtelehfefhlgbkaaDoorTie
import Derived.WalkKit
import Derived.ProofKit
import Derived.OpenShut
import Derived.SizedLaws
import Derived.Carry
import Derived.Deep.DeepHandedRow
import Derived.Deep.DeepWitnessRowRef
import Derived.LaidMore
import Derived.Lib.LaidTab
import Derived.Stop.LaidErr
import Derived.Test.YtelehfefhlgbkaaDoorG16
import Derived.Test.YtelehfefhlgbkaaDoorG17
import Derived.Test.YtelehfefhlgbkaaDoorG6

namespace Go.Proofs.YtelehfefhlgbkaaDoor.fnExactTokenText
open Go.ChangeShapes Go.WideShapes Go.ChangeAt Go.RowKit
open Go.ChangeMaps (open_string shut_string)
set_option linter.unusedVariables false

theorem own : ownKnob Tryd.prog.godebug = none := by kernel_rfl
theorem laidOut : laidOutB Tryd.prog = true := by kernel_rfl

theorem big (t : Tok) (w : World) (ht : TokIn t) (h : ¬ t.s.length ≤ 1048576) : Calls Tryd.prog 5 #[t.val] w fun e w' => e = .returned (.bool true) ∧ Below w.heap.size w w' := by
  have CZ := Lib.hid (fun w1 => sztok_any t 1048576 w1 ht.s (Nat.le_refl _))
  have CZ' := CZ.out
  rw [show lft t.s.length 1048576 = -1 by unfold lft; rw [if_neg h]] at CZ'
  obtain ⟨k, s, n, x⟩ := t
  simp only [Tok.val] at CZ'
  have CZ := Lib.hid CZ'
  clear CZ' ht h
  show Calls Tryd.prog 5 #[.agg #[.int .i64 k, .string ⟨s.toArray⟩, .int .i64 n, .int .i64 x]] w _
  have HB0 := Lib.hid (vbox w (.cells #[.int .i64 k, .string ⟨s.toArray⟩, .int .i64 n, .int .i64 x] 34))
  go_enter Tryd.func5, Tryd.ntmps5
  go_wp2_with fail
  refine (CZ.out _).mono ?_
  rintro e w1 ⟨rfl, b1⟩
  have HB1 := Lib.hid (HB0.out.trans (b1.mono HB0.out.size))
  clear b1
  go_wp2
  go_ret
  exact ⟨rfl, HB1.out⟩
set_option maxHeartbeats 1000000 in
theorem walk (t : Tok) (w : World) (ht : TokIn t) (h : t.s.length ≤ 1048576) (htab : Lib.TabIs Tryd.prog w "internal/strconv.uint64pow10" .u64 Lib.pow10Tab) : Calls Tryd.prog 5 #[t.val] w fun e w' => e = .returned (.bool true) ∧ Below w.heap.size w w' := by
  have CZ := Lib.hid (fun w1 => sztok_any t 1048576 w1 ht.s (Nat.le_refl _))
  have CZ' := CZ.out
  rw [show lft t.s.length 1048576 = ((1048576 - t.s.length : Nat) : Int) by unfold lft; rw [if_pos h]] at CZ'
  have CT := Lib.hid (fun w1 => totok_any t w1)
  have CS := Lib.hid (fun w1 => toktext_spec t w1 (by omega) ht.n0 ht.n1 ht.x0 ht.x1)
  have CI := Lib.hid (fun w1 hb => toktext_impl t w1 (by omega) ht.n0 ht.n1 ht.x0 ht.x1 (tab_blw (w' := w1) hb htab))
  have CT' := CT.out
  have CS' := CS.out
  have CI' := CI.out
  obtain ⟨k, s, n, x⟩ := t
  simp only [Tok.val] at CZ' CT' CS' CI'
  have hneg : ¬ (((1048576 - s.length : Nat) : Int) < 0) := by omega
  generalize tokText ⟨k, s, n, x⟩ = T at *
  have htt : ((T : List UInt8) != T) = false := by simp
  generalize 1048576 - s.length = lf at *
  have CZ := Lib.hid CZ'
  have CT := Lib.hid CT'
  have CS := Lib.hid CS'
  have CI := Lib.hid CI'
  clear CZ' CT' CS' CI' ht h htab
  show Calls Tryd.prog 5 #[.agg #[.int .i64 k, .string ⟨s.toArray⟩, .int .i64 n, .int .i64 x]] w _
  have HB0 := Lib.hid (vbox w (.cells #[.int .i64 k, .string ⟨s.toArray⟩, .int .i64 n, .int .i64 x] 34))
  have T0 := tc_new w ⟨k, s, n, x⟩ 34
  go_enter Tryd.func5, Tryd.ntmps5
  go_wp2_with fail
  refine (CZ.out _).mono ?_
  rintro e w1 ⟨rfl, b1⟩
  have HB1 := Lib.hid (HB0.out.trans (b1.mono HB0.out.size))
  have T1 := T0.blw b1
  obtain ⟨c0, c1, c2, c3⟩ := T1
  clear b1 T0
  go_wp2_with fail
  refine (CT.out _).mono ?_
  rintro e w2 ⟨rfl, b2⟩
  have HB2 := Lib.hid (HB1.out.trans (b2.mono HB1.out.size))
  replace c0 := keep_below b2 c0
  replace c1 := keep_below b2 c1
  replace c2 := keep_below b2 c2
  replace c3 := keep_below b2 c3
  clear b2
  go_wp2_with fail
  refine (CS.out _).mono ?_
  rintro e w3 ⟨rfl, b3⟩
  have HB3 := Lib.hid (HB2.out.trans (b3.mono HB2.out.size))
  replace c0 := keep_below b3 c0
  replace c1 := keep_below b3 c1
  replace c2 := keep_below b3 c2
  replace c3 := keep_below b3 c3
  clear b3
  go_wp2_with fail
  refine (CT.out _).mono ?_
  rintro e w4 ⟨rfl, b4⟩
  have HB4 := Lib.hid (HB3.out.trans (b4.mono HB3.out.size))
  clear b4
  go_wp2_with fail
  refine (CI.out _ HB4.out).mono ?_
  rintro e w5 ⟨rfl, b5⟩
  have HB5 := Lib.hid (HB4.out.trans (b5.mono HB4.out.size))
  clear b5
  go_wp2
  go_ret
  exact ⟨rfl, HB5.out⟩

set_option maxRecDepth 100000 in
theorem contract (H : Type) (enc : TypeId × Value → H) (W : World) (base : Nat) (args : Array Value) (ds gs : List (DataW H)) (before : List MemPlace)
    (hval : ∀ (j : Nat) t v, Tryd.f5.params[j]? = some t → args[j]? = some v → Value.okWide Tryd.prog W .any base t v)
    (hW : DataW.Whole enc Tryd.prog Tryd.f5.params.toList Rows.fnExactTokenTextSpec.vars false W args.toList ds gs before)
    (hcond : ∀ k, (OpenSpec.ofChange Rows.fnExactTokenTextSpec).cond = some k → k H (ds ++ gs) = true)
    (hsz : (DataW.weightsEach Tryd.prog (Tryd.f5.params.toList ++ (OpenSpec.ofChange Rows.fnExactTokenTextSpec).bare.plain.varTypes Tryd.prog) (ds ++ gs)).all (· ≤ reachBytes) = true)
    (hL : laidMetH Tryd.prog Rows.fnExactTokenTextRow.laid W) :
    Calls Tryd.prog 5 args W fun e W' => ∃ v, e = .returned v ∧ Rows.fnExactTokenTextSpec.post enc Tryd.prog Tryd.f5 false true false false W args v W' := by
  have hW' := hW
  have hlt := hW'.lt
  obtain ⟨p, q, hA0, hV, rfl, hfz, hnd⟩ := hW
  have hA : DataW.TrodAll enc Tryd.prog W 0 (fun _ => true) true Tryd.f5.params.toList args.toList ds p := hA0
  rw [Tryd.params5] at hA hval hsz
  obtain ⟨v0, vs0, d0, ds0, p0, q0, hargs, rfl, rfl, h0, r0⟩ := trodAll_cons hA
  obtain ⟨rfl, rfl, rfl⟩ := trodAll_nil r0
  obtain rfl : args = #[v0] := by cases args; simp_all
  obtain ⟨rfl, rfl⟩ := trodVars_none hV
  simp only [List.append_nil] at hW' hlt
  have hlt0 : ∀ x ∈ p0, x.block < W.heap.size := fun x hx => hlt x (by simp [hx])
  have hk0 := h0
  obtain ⟨t0, rfl, ht0⟩ := open_tok (hval 0 34 v0 rfl rfl) h0
  clear hA0 hA
  have fin : ∀ W' : World, Below W.heap.size W W' → Rows.fnExactTokenTextSpec.post enc Tryd.prog Tryd.f5 false true false false W _ (.bool true) W' := fun W' hb =>
    ⟨_, _, _, [], _, [], hW', trodAll_mk1 (shut_bool Tryd.underlying4 _), (trodAll_cons_mk (Below.trod laidOut (by kernel_rfl) (of_decide_eq_true (by kernel_rfl)) hk0 hb hlt0) trodAll_mk0), rfl, hb.frame _, fun h => by cases h⟩
  refine Calls.mono (R := fun e w' => e = .returned (.bool true) ∧ Below W.heap.size W w') ?_ (fun e W' h => ⟨_, h.1, fin W' h.2⟩)
  clear fin
  rw [MakeChecks.laidMetH_plain _ _ _ (by kernel_rfl)] at hL
  by_cases hl : t0.s.length ≤ 1048576
  · exact walk t0 W ht0 hl (tabs_pow10 hL)
  · exact big t0 W ht0 hl

theorem laid_met (os : Os) : laidMet Tryd.prog Rows.fnExactTokenTextRow.laid (((World.doorLaid Tryd.prog 4000 os)).forCall (fun _ _ => 0) ⟨#[], #[.agg #[.int .i64 0, .string ⟨#[]⟩, .int .i64 0, .int .i64 0]], []⟩).memory :=
  (laidMet_of_run' 8 (by kernel_rfl) (by kernel_rfl))
theorem reads (os : Os) {H : Type} (enc : TypeId × Value → H) : ∃ places, DataW.whole enc Tryd.prog (((World.doorLaid Tryd.prog 4000 os)).forCall (fun _ _ => 0) ⟨#[], #[.agg #[.int .i64 0, .string ⟨#[]⟩, .int .i64 0, .int .i64 0]], []⟩).memory Tryd.f5.params.toList Rows.fnExactTokenTextSpec.vars false (#[.agg #[.int .i64 0, .string ⟨#[]⟩, .int .i64 0, .int .i64 0]] : Array Value).toList 8 = some ([.agg [.lit (.int .i64 0), .lit (.string []), .lit (.int .i64 0), .lit (.int .i64 0)]], [], places) :=
  ⟨[], by kernel_rfl⟩

set_option maxRecDepth 100000 in
theorem lifted (os : Os) (started : os.Started) (H : Type) (enc : TypeId × Value → H) (F : Stop.Interp) :
    ReturnsInHanded {} Tryd.checked os 5 .any ((OpenSpec.ofChange Rows.fnExactTokenTextSpec).preRow enc Tryd.prog Tryd.f5 Rows.fnExactTokenTextRow.domain false Rows.fnExactTokenTextRow.laid) (((OpenSpec.ofChange Rows.fnExactTokenTextSpec).at F).post enc Tryd.prog Tryd.f5 false true false false) := by
  obtain ⟨places, hx⟩ := reads os enc
  refine returnsInHanded_of_row (C := Tryd.checked) (s := OpenSpec.ofChange Rows.fnExactTokenTextSpec) own started (by kernel_rfl) Tryd.func5
    (witness_row_atRef (enc := enc) (C := Tryd.checked) false (World.doorLaid Tryd.prog 4000 os) #[.agg #[.int .i64 0, .string ⟨#[]⟩, .int .i64 0, .int .i64 0]] rfl (by kernel_rfl) (by kernel_rfl) (by kernel_rfl)
      (OpenSpec.preRow_of_cond 8 hx (by kernel_rfl) (fun k hk => by cases hk) (by kernel_rfl) (laid_met os))) ?_
  intro W base args ds gs before hval hW _ hcond hsz hL _ _
  exact contract H enc W base args ds gs before hval hW hcond hsz hL

theorem said : Rows.FnExactTokenTextSaid :=
  OpenClaim.holds_of_cond 5 Tryd.f5 rfl rfl rfl rfl rfl rfl rfl ⟨rfl, rfl, rfl, rfl, rfl⟩ rfl rfl rfl rfl rfl (by kernel_rfl) Tryd.func5 (by kernel_rfl)
    (of_decide_eq_true (by kernel_rfl)) (by unfold Func.isWrapper; first | (rw [if_pos (by decide +kernel)]; kernel_rfl) | (rw [if_neg (by decide +kernel)]; exact ⟨rfl, rfl⟩))
    (fun os started H enc _ F => by rw [OpenClaim.pre_eq_preRow]; exact lifted os started H enc F)

theorem plain (f : FuncId) (fn : Func) (hf : Tryd.pinned.checked.prog.funcNamed Rows.fnExactTokenTextRow.func = some f) (hfn : Tryd.pinned.checked.prog.funcs[f]? = some fn) :
    true = Tryd.pinned.checked.prog.looks [] ∧ ∀ (j : Nat) t, fn.params[j]? = some t → Tryd.pinned.checked.prog.wantsStandIn t = false := by
  obtain rfl : f = 5 := Option.some.inj ((show Tryd.prog.funcNamed Rows.fnExactTokenTextRow.func = some 5 by kernel_rfl).symm.trans hf) |>.symm
  obtain rfl : fn = Tryd.f5 := (Option.some.inj (Tryd.func5.symm.trans hfn)).symm
  refine ⟨by kernel_rfl, fun j t ht => ?_⟩
  rw [Tryd.params5] at ht
  have hm : t ∈ [34] := by simpa using Array.mem_of_getElem? ht
  have hall : ([34].all fun u => !Tryd.prog.wantsStandIn u) = true := by kernel_rfl
  exact (show Tryd.prog.wantsStandIn t = false by simpa using List.all_eq_true.1 hall t hm)

theorem proved : Rows.FnExactTokenTextCardSaid :=
  Claim7.holds_tied_plain_at .later [] _ _ _ _ said (fun _ h => by cases h) (by kernel_rfl) (fun _ h => by cases h) fnExactTokenText_row_tie rfl ⟨rfl, rfl⟩ (by kernel_rfl) rfl plain (by kernel_rfl)
#print axioms proved
end Go.Proofs.YtelehfefhlgbkaaDoor.fnExactTokenText
