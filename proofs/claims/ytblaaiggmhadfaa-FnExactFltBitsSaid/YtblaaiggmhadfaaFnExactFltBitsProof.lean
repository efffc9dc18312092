/- For every input the law FnExactFltBits returns true and its arguments read afterwards as they read before; beside what the row states there is no condition. -/
import Derived.Test.YtblaaiggmhadfaaRows
import Derived.WalkKit
import Derived.ProofKit
import Derived.OpenShut
import Derived.SizedLaws
import Derived.Carry
import Derived.Deep.DeepHandedRow


import Derived.Lib.LaidTab
import Derived.Stop.LaidErr
import Derived.Test.YtblaaiggmhadfaaFltLaw
import Derived.Test.YtblaaiggmhadfaaFltBits
import Derived.Lib.SmallJoins

namespace Go.Proofs.Ytblaaiggmhadfaa.fnExactFltBits
open Go.ChangeShapes Go.WideShapes Go.ChangeAt Go.RowKit
open Go.ChangeMaps (open_string shut_string)
set_option linter.unusedVariables false

theorem own : ownKnob Try.prog.godebug = none := by kernel_rfl
theorem laidOut : laidOutB Try.prog = true := by kernel_rfl

theorem walk (n x : Int) (w : World) (h0 : -9223372036854775808 ≤ n) (h1 : n ≤ 9223372036854775807) (k0 : -9223372036854775808 ≤ x) (k1 : x ≤ 9223372036854775807) : Calls Try.prog 7 #[.agg #[.int .i64 n, .int .i64 x]] w fun e w' => e = .returned (.bool true) ∧ Below w.heap.size w w' := by
  have ct := fun w1 => toflt_any n x w1
  have cs := fun w1 => fltbits_spec n x w1 ⟨h0, h1⟩ ⟨k0, k1⟩
  have ci := fun w1 => fltbits_impl n x w1 ⟨h0, h1⟩ ⟨k0, k1⟩
  clear h0 h1 k0 k1
  generalize fltBits n x = B at *
  have hee : (B != B) = false := by simp
  go_enter Try.func7, Try.ntmps7
  go_wp2_with fail
  refine (ct _).mono ?_
  rintro e w1 ⟨rfl, hb1⟩
  go_wp2_with fail
  refine (cs _).mono ?_
  rintro e w2 ⟨rfl, hb2⟩
  have hba := hb1.trans (hb2.mono hb1.size)
  clear hb1 hb2
  have hcl : ∀ b o, b < (w.alloc (.cells #[.int .i64 n, .int .i64 x] 46)).heap.size → w2.cell? ⟨b, o, none⟩ = (w.alloc (.cells #[.int .i64 n, .int .i64 x] 46)).cell? ⟨b, o, none⟩ := fun b o h => hba.cell (p := ⟨b, o, none⟩) h
  have d0 : w2.cell? ⟨w.heap.size, 0, none⟩ = some (.int .i64 n) := (hcl _ _ (by simp)).trans (by simp [go_sem])
  have d1 : w2.cell? ⟨w.heap.size, 1, none⟩ = some (.int .i64 x) := (hcl _ _ (by simp)).trans (by simp [go_sem])
  clear hcl
  go_wp2_with fail
  refine (ct _).mono ?_
  rintro e w3 ⟨rfl, hb3⟩
  go_wp2_with fail
  refine (ci _).mono ?_
  rintro e w4 ⟨rfl, hb4⟩
  have hbb := (hb3.trans (hb4.mono hb3.size))
  clear hb3 hb4
  go_wp2
  go_ret
  exact ⟨rfl, (fbox _ _).trans ((hba.trans (hbb.mono hba.size)).mono (by simp))⟩

set_option maxRecDepth 100000 in
theorem contract (H : Type) (enc : TypeId × Value → H) (W : World) (base : Nat) (args : Array Value) (ds gs : List (DataW H)) (before : List MemPlace)
    (hval : ∀ (j : Nat) t v, Try.f7.params[j]? = some t → args[j]? = some v → Value.okWide Try.prog W .any base t v)
    (hW : DataW.Whole enc Try.prog Try.f7.params.toList Rows.fnExactFltBitsSpec.vars false W args.toList ds gs before)
    (hcond : ∀ k, (OpenSpec.ofChange Rows.fnExactFltBitsSpec).cond = some k → k H (ds ++ gs) = true)
    (hsz : (DataW.weightsEach Try.prog (Try.f7.params.toList ++ (OpenSpec.ofChange Rows.fnExactFltBitsSpec).bare.plain.varTypes Try.prog) (ds ++ gs)).all (· ≤ reachBytes) = true)
    (hL : laidMetH Try.prog Rows.fnExactFltBitsRow.laid W) :
    Calls Try.prog 7 args W fun e W' => ∃ v, e = .returned v ∧ Rows.fnExactFltBitsSpec.post enc Try.prog Try.f7 false true false false W args v W' := by
  have hW' := hW
  have hlt := hW'.lt
  obtain ⟨p, q, hA0, hV, rfl, hfz, hnd⟩ := hW
  have hA : DataW.TrodAll enc Try.prog W 0 (fun _ => true) true Try.f7.params.toList args.toList ds p := hA0
  rw [Try.params7] at hA hval hsz
  obtain ⟨v0, vs0, d0, ds0, p0, q0, hargs, rfl, rfl, h0, r0⟩ := trodAll_cons hA
  obtain ⟨rfl, rfl, rfl⟩ := trodAll_nil r0
  obtain rfl : args = #[v0] := by cases args; simp_all
  obtain ⟨rfl, rfl⟩ := trodVars_none hV
  simp only [List.append_nil] at hW' hlt
  have hlt0 : ∀ x ∈ p0, x.block < W.heap.size := fun x hx => hlt x (by simp [hx])
  have hk0 := h0
  obtain ⟨c0, e0, y0, z0, n0, rfl, rfl, rfl, hy0, hz0⟩ := Joins.open_agg2 Try.underlying46 (by kernel_rfl) (by kernel_rfl) (hval 0 46 v0 rfl rfl) h0
  obtain ⟨a0, i0, rfl, w0⟩ := DataW.trod_int Try.underlying3 hy0
  obtain ⟨b0, k0, rfl, x0⟩ := DataW.trod_int Try.underlying3 hz0
  simp at i0 k0
  subst i0 k0
  clear hA0 hA
  have fin : ∀ W' : World, Below W.heap.size W W' → Rows.fnExactFltBitsSpec.post enc Try.prog Try.f7 false true false false W _ (.bool true) W' := fun W' hb =>
    ⟨_, _, _, [], _, [], hW', trodAll_mk1 (shut_bool Try.underlying4 _), (trodAll_cons_mk (Below.trod laidOut (by kernel_rfl) (of_decide_eq_true (by kernel_rfl)) hk0 hb hlt0) trodAll_mk0), rfl, hb.frame _, fun h => by cases h⟩
  refine Calls.mono (R := fun e w' => e = .returned (.bool true) ∧ Below W.heap.size W w') ?_ (fun e W' h => ⟨_, h.1, fin W' h.2⟩)
  clear fin
  exact walk a0 b0 W (wf_le w0).1 (wf_le w0).2 (wf_le x0).1 (wf_le x0).2

theorem laid_met (os : Os) : laidMet Try.prog Rows.fnExactFltBitsRow.laid (((World.holding Try.prog os ⟨#[], #[], []⟩)).forCall (fun _ _ => 0) ⟨#[], #[.agg #[.int .i64 0, .int .i64 0]], []⟩).memory :=
  ⟨[], rfl, List.nodup_nil, fun _ _ h => by cases h⟩
theorem reads (os : Os) {H : Type} (enc : TypeId × Value → H) : ∃ places, DataW.whole enc Try.prog (((World.holding Try.prog os ⟨#[], #[], []⟩)).forCall (fun _ _ => 0) ⟨#[], #[.agg #[.int .i64 0, .int .i64 0]], []⟩).memory Try.f7.params.toList Rows.fnExactFltBitsSpec.vars false (#[.agg #[.int .i64 0, .int .i64 0]] : Array Value).toList 8 = some ([.agg [.lit (.int .i64 0), .lit (.int .i64 0)]], [], places) :=
  ⟨[], by kernel_rfl⟩

set_option maxRecDepth 100000 in
theorem lifted (os : Os) (started : os.Started) (H : Type) (enc : TypeId × Value → H) (F : Stop.Interp) :
    ReturnsInHanded {} Try.checked os 7 .any ((OpenSpec.ofChange Rows.fnExactFltBitsSpec).preRow enc Try.prog Try.f7 Rows.fnExactFltBitsRow.domain false Rows.fnExactFltBitsRow.laid) (((OpenSpec.ofChange Rows.fnExactFltBitsSpec).at F).post enc Try.prog Try.f7 false true false false) := by
  obtain ⟨places, hx⟩ := reads os enc
  refine returnsInHanded_of_row (C := Try.checked) (s := OpenSpec.ofChange Rows.fnExactFltBitsSpec) own started (by kernel_rfl) Try.func7
    (witness_row_at (enc := enc) (C := Try.checked) false (World.holding Try.prog os ⟨#[], #[], []⟩) #[.agg #[.int .i64 0, .int .i64 0]] rfl (by kernel_rfl) (by kernel_rfl) (by kernel_rfl)
      (OpenSpec.preRow_of_cond 8 hx (by kernel_rfl) (fun k hk => by cases hk) (by kernel_rfl) (laid_met os))) ?_
  intro W base args ds gs before hval hW _ hcond hsz hL _ _
  exact contract H enc W base args ds gs before hval hW hcond hsz hL

theorem said : Rows.FnExactFltBitsSaid :=
  OpenClaim.holds_of_cond 7 Try.f7 rfl rfl rfl rfl rfl rfl rfl ⟨rfl, rfl, rfl, rfl, rfl⟩ rfl rfl rfl rfl rfl (by kernel_rfl) Try.func7 (by kernel_rfl)
    (of_decide_eq_true (by kernel_rfl)) (by unfold Func.isWrapper; first | (rw [if_pos (by decide +kernel)]; kernel_rfl) | (rw [if_neg (by decide +kernel)]; exact ⟨rfl, rfl⟩))
    (fun os started H enc _ F => by rw [OpenClaim.pre_eq_preRow]; exact lifted os started H enc F)

theorem proved : Rows.FnExactFltBitsSaid := said
#print axioms proved
end Go.Proofs.Ytblaaiggmhadfaa.fnExactFltBits
