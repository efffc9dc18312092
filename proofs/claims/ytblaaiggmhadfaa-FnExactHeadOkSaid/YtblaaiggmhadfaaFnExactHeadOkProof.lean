/- For every input the law FnExactHeadOk returns true and its arguments read afterwards as they read before; beside what the row states there is no condition. -/
import Derived.Test.YtblaaiggmhadfaaRows
import Derived.WalkKit
import Derived.ProofKit
import Derived.OpenShut
import Derived.SizedLaws
import Derived.Carry
import Derived.Deep.DeepHandedRow


import Derived.Lib.LaidTab
import Derived.Stop.LaidErr
import Derived.Test.YtblaaiggmhadfaaHeadLaw
import Derived.Lib.SmallJoins

namespace Go.Proofs.Ytblaaiggmhadfaa.fnExactHeadOk
open Go.ChangeShapes Go.WideShapes Go.ChangeAt Go.RowKit
open Go.ChangeMaps (open_string shut_string)
set_option linter.unusedVariables false

theorem own : ownKnob Try.prog.godebug = none := by kernel_rfl
theorem laidOut : laidOutB Try.prog = true := by kernel_rfl

theorem walk (h : Hd) (w : World) (h0 : -9223372036854775808 ≤ h.n) : Calls Try.prog 4 #[h.val] w fun e w' => e = .returned (.bool true) ∧ Below w.heap.size w w' := by
  have ct := fun w1 => tohead_any h w1
  have cs := fun w1 => headok_spec h w1
  have ci := fun w1 => headok_impl h w1 h0
  clear h0
  generalize decide (hdOk h) = B at *
  obtain ⟨k, n, x⟩ := h
  have H0 := Lib.hid (hb_new w ⟨k, n, x⟩ 33)
  have hb0 := Lib.hid (below_box w (.cells #[.int .i64 k, .int .i64 n, .int .i64 x] 33))
  go_enter Try.func4, Try.ntmps4
  go_wp2_with fail
  refine (ct _).mono ?_
  rintro e w1 ⟨rfl, hb1⟩
  go_wp2_with fail
  refine (cs _).mono ?_
  rintro e w2 ⟨rfl, hb2⟩
  have hba := hb1.trans (hb2.mono hb1.size)
  have B2 := Lib.hid (hb0.out.trans (hba.mono (by simp)))
  have H2 := H0.out.below hba
  have d0 := H2.c0
  have d1 := H2.c1
  have d2 := H2.c2
  simp only at d0 d1 d2
  clear hb1 hb2 hba H2
  go_wp2_with fail
  refine (ct _).mono ?_
  rintro e w3 ⟨rfl, hb3⟩
  go_wp2_with fail
  refine (ci _).mono ?_
  rintro e w4 ⟨rfl, hb4⟩
  have hbb := hb3.trans (hb4.mono hb3.size)
  clear hb3 hb4
  go_wp2
  go_ret
  exact ⟨rfl, B2.out.trans (hbb.mono B2.out.size)⟩

set_option maxRecDepth 100000 in
theorem contract (H : Type) (enc : TypeId × Value → H) (W : World) (base : Nat) (args : Array Value) (ds gs : List (DataW H)) (before : List MemPlace)
    (hval : ∀ (j : Nat) t v, Try.f4.params[j]? = some t → args[j]? = some v → Value.okWide Try.prog W .any base t v)
    (hW : DataW.Whole enc Try.prog Try.f4.params.toList Rows.fnExactHeadOkSpec.vars false W args.toList ds gs before)
    (hcond : ∀ k, (OpenSpec.ofChange Rows.fnExactHeadOkSpec).cond = some k → k H (ds ++ gs) = true)
    (hsz : (DataW.weightsEach Try.prog (Try.f4.params.toList ++ (OpenSpec.ofChange Rows.fnExactHeadOkSpec).bare.plain.varTypes Try.prog) (ds ++ gs)).all (· ≤ reachBytes) = true)
    (hL : laidMetH Try.prog Rows.fnExactHeadOkRow.laid W) :
    Calls Try.prog 4 args W fun e W' => ∃ v, e = .returned v ∧ Rows.fnExactHeadOkSpec.post enc Try.prog Try.f4 false true false false W args v W' := by
  have hW' := hW
  have hlt := hW'.lt
  obtain ⟨p, q, hA0, hV, rfl, hfz, hnd⟩ := hW
  have hA : DataW.TrodAll enc Try.prog W 0 (fun _ => true) true Try.f4.params.toList args.toList ds p := hA0
  rw [Try.params4] at hA hval hsz
  obtain ⟨v0, vs0, d0, ds0, p0, q0, hargs, rfl, rfl, h0, r0⟩ := trodAll_cons hA
  obtain ⟨rfl, rfl, rfl⟩ := trodAll_nil r0
  obtain rfl : args = #[v0] := by cases args; simp_all
  obtain ⟨rfl, rfl⟩ := trodVars_none hV
  simp only [List.append_nil] at hW' hlt
  have hlt0 : ∀ x ∈ p0, x.block < W.heap.size := fun x hx => hlt x (by simp [hx])
  have hk0 := h0
  obtain ⟨c0, e0, u0, y0, z0, m0, n0, rfl, rfl, rfl, hy0, hz0, hm0⟩ := Joins.open_agg3 Try.underlying33 (by kernel_rfl) (by kernel_rfl) (hval 0 33 v0 rfl rfl) h0
  obtain ⟨a0, i0, rfl, w0⟩ := DataW.trod_int Try.underlying3 hy0
  obtain ⟨b0, k0, rfl, x0⟩ := DataW.trod_int Try.underlying3 hz0
  obtain ⟨g0, o0, rfl, t0⟩ := DataW.trod_int Try.underlying3 hm0
  simp at i0 k0 o0
  subst i0 k0 o0
  clear hA0 hA
  have fin : ∀ W' : World, Below W.heap.size W W' → Rows.fnExactHeadOkSpec.post enc Try.prog Try.f4 false true false false W _ (.bool true) W' := fun W' hb =>
    ⟨_, _, _, [], _, [], hW', trodAll_mk1 (shut_bool Try.underlying4 _), (trodAll_cons_mk (Below.trod laidOut (by kernel_rfl) (of_decide_eq_true (by kernel_rfl)) hk0 hb hlt0) trodAll_mk0), rfl, hb.frame _, fun h => by cases h⟩
  refine Calls.mono (R := fun e w' => e = .returned (.bool true) ∧ Below W.heap.size W w') ?_ (fun e W' h => ⟨_, h.1, fin W' h.2⟩)
  clear fin
  exact walk ⟨a0, b0, g0⟩ W (wf_le x0).1

theorem laid_met (os : Os) : laidMet Try.prog Rows.fnExactHeadOkRow.laid (((World.holding Try.prog os ⟨#[], #[], []⟩)).forCall (fun _ _ => 0) ⟨#[], #[.agg #[.int .i64 0, .int .i64 0, .int .i64 0]], []⟩).memory :=
  ⟨[], rfl, List.nodup_nil, fun _ _ h => by cases h⟩
theorem reads (os : Os) {H : Type} (enc : TypeId × Value → H) : ∃ places, DataW.whole enc Try.prog (((World.holding Try.prog os ⟨#[], #[], []⟩)).forCall (fun _ _ => 0) ⟨#[], #[.agg #[.int .i64 0, .int .i64 0, .int .i64 0]], []⟩).memory Try.f4.params.toList Rows.fnExactHeadOkSpec.vars false (#[.agg #[.int .i64 0, .int .i64 0, .int .i64 0]] : Array Value).toList 8 = some ([.agg [.lit (.int .i64 0), .lit (.int .i64 0), .lit (.int .i64 0)]], [], places) :=
  ⟨[], by kernel_rfl⟩

set_option maxRecDepth 100000 in
theorem lifted (os : Os) (started : os.Started) (H : Type) (enc : TypeId × Value → H) (F : Stop.Interp) :
    ReturnsInHanded {} Try.checked os 4 .any ((OpenSpec.ofChange Rows.fnExactHeadOkSpec).preRow enc Try.prog Try.f4 Rows.fnExactHeadOkRow.domain false Rows.fnExactHeadOkRow.laid) (((OpenSpec.ofChange Rows.fnExactHeadOkSpec).at F).post enc Try.prog Try.f4 false true false false) := by
  obtain ⟨places, hx⟩ := reads os enc
  refine returnsInHanded_of_row (C := Try.checked) (s := OpenSpec.ofChange Rows.fnExactHeadOkSpec) own started (by kernel_rfl) Try.func4
    (witness_row_at (enc := enc) (C := Try.checked) false (World.holding Try.prog os ⟨#[], #[], []⟩) #[.agg #[.int .i64 0, .int .i64 0, .int .i64 0]] rfl (by kernel_rfl) (by kernel_rfl) (by kernel_rfl)
      (OpenSpec.preRow_of_cond 8 hx (by kernel_rfl) (fun k hk => by cases hk) (by kernel_rfl) (laid_met os))) ?_
  intro W base args ds gs before hval hW _ hcond hsz hL _ _
  exact contract H enc W base args ds gs before hval hW hcond hsz hL

theorem said : Rows.FnExactHeadOkSaid :=
  OpenClaim.holds_of_cond 4 Try.f4 rfl rfl rfl rfl rfl rfl rfl ⟨rfl, rfl, rfl, rfl, rfl⟩ rfl rfl rfl rfl rfl (by kernel_rfl) Try.func4 (by kernel_rfl)
    (of_decide_eq_true (by kernel_rfl)) (by unfold Func.isWrapper; first | (rw [if_pos (by decide +kernel)]; kernel_rfl) | (rw [if_neg (by decide +kernel)]; exact ⟨rfl, rfl⟩))
    (fun os started H enc _ F => by rw [OpenClaim.pre_eq_preRow]; exact lifted os started H enc F)

theorem proved : Rows.FnExactHeadOkSaid := said
#print axioms proved
end Go.Proofs.Ytblaaiggmhadfaa.fnExactHeadOk
