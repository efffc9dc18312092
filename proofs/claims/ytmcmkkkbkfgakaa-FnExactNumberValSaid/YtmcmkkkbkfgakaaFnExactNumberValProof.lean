/- For every input the law FnExactNumberVal returns true and its arguments read afterwards as they read before; beside what the row states there is no condition. -/
import Derived.Test.YtmcmkkkbkfgakaaRows
import Derived.WalkKit
import Derived.ProofKit
import Derived.OpenShut
import Derived.SizedLaws
import Derived.Carry
import Derived.Deep.DeepHandedRow


import Derived.Lib.LaidTab
import Derived.Stop.LaidErr
import Derived.Test.YtmcmkkkbkfgakaaLeafVal
import Derived.Lib.SmallJoins

namespace Go.Proofs.Ytmcmkkkbkfgakaa.fnExactNumberVal
open Go.ChangeShapes Go.WideShapes Go.ChangeAt Go.RowKit
open Go.ChangeMaps (open_string shut_string)
set_option linter.unusedVariables false

theorem own : ownKnob Try.prog.godebug = none := by kernel_rfl
theorem laidOut : laidOutB Try.prog = true := by kernel_rfl

theorem vcells (w : World) (a n x : Int) (s : ByteArray) : (w.alloc (.cells #[.int .i64 a, .int .i64 n, .int .i64 x, .string s, .slice none 0 0] 26)).cell? ⟨w.heap.size, 0, none⟩ = some (.int .i64 a) ∧ (w.alloc (.cells #[.int .i64 a, .int .i64 n, .int .i64 x, .string s, .slice none 0 0] 26)).cell? ⟨w.heap.size, 1, none⟩ = some (.int .i64 n) ∧ (w.alloc (.cells #[.int .i64 a, .int .i64 n, .int .i64 x, .string s, .slice none 0 0] 26)).cell? ⟨w.heap.size, 2, none⟩ = some (.int .i64 x) ∧ (w.alloc (.cells #[.int .i64 a, .int .i64 n, .int .i64 x, .string s, .slice none 0 0] 26)).cell? ⟨w.heap.size, 3, none⟩ = some (.string s) ∧ (w.alloc (.cells #[.int .i64 a, .int .i64 n, .int .i64 x, .string s, .slice none 0 0] 26)).cell? ⟨w.heap.size, 4, none⟩ = some (.slice none 0 0) := by
  refine ⟨?_, ?_, ?_, ?_, ?_⟩ <;> simp [go_sem]
theorem walk (n x : Int) (w : World) : Calls Try.prog 12 #[.agg #[.int .i64 n, .int .i64 x]] w fun e w' => e = .returned (.bool true) ∧ Below w.heap.size w w' := by
  go_enter Try.func12, Try.ntmps12
  go_wp2_with fail
  have HB0 := Lib.hid (vbox w (.cells #[.int .i64 n, .int .i64 x] 60))
  have e0 : (w.alloc (.cells #[.int .i64 n, .int .i64 x] 60)).cell? ⟨w.heap.size, 0, none⟩ = some (.int .i64 n) := by simp [go_sem]
  have e1 : (w.alloc (.cells #[.int .i64 n, .int .i64 x] 60)).cell? ⟨w.heap.size, 1, none⟩ = some (.int .i64 x) := by simp [go_sem]
  refine (todec_leaf n x _).mono ?_
  rintro e w1 ⟨rfl, hb1⟩
  have HB1 := Lib.hid (HB0.out.trans (hb1.mono HB0.out.size))
  replace e0 := keep_below hb1 e0
  replace e1 := keep_below hb1 e1
  clear hb1
  go_wp2_with fail
  refine (num_spec _ n x).mono ?_
  rintro e w2 ⟨rfl, hb2⟩
  have HB2 := Lib.hid (HB1.out.trans (hb2.mono HB1.out.size))
  replace e0 := keep_below hb2 e0
  replace e1 := keep_below hb2 e1
  clear hb2
  obtain ⟨c0, c1, c2, c3, c4⟩ := vcells w2 ((numK x)) (n) (x) ⟨#[]⟩
  replace e0 := keep_below (vbox w2 (.cells #[.int .i64 (numK x), .int .i64 n, .int .i64 x, .string ⟨#[]⟩, .slice none 0 0] 26)) e0
  replace e1 := keep_below (vbox w2 (.cells #[.int .i64 (numK x), .int .i64 n, .int .i64 x, .string ⟨#[]⟩, .slice none 0 0] 26)) e1
  replace HB2 := Lib.hid (HB2.out.trans ((vbox w2 (.cells #[.int .i64 (numK x), .int .i64 n, .int .i64 x, .string ⟨#[]⟩, .slice none 0 0] 26)).mono HB2.out.size))
  go_wp2_with fail
  refine (todec_leaf n x _).mono ?_
  rintro e w3 ⟨rfl, hb3⟩
  have HB3 := Lib.hid (HB2.out.trans (hb3.mono HB2.out.size))
  replace e0 := keep_below hb3 e0
  replace e1 := keep_below hb3 e1
  replace c0 := keep_below hb3 c0
  replace c1 := keep_below hb3 c1
  replace c2 := keep_below hb3 c2
  replace c3 := keep_below hb3 c3
  replace c4 := keep_below hb3 c4
  clear hb3
  go_wp2_with fail
  refine (num_impl _ n x).mono ?_
  rintro e w4 ⟨rfl, hb4⟩
  have HB4 := Lib.hid (HB3.out.trans (hb4.mono HB3.out.size))
  replace e0 := keep_below hb4 e0
  replace e1 := keep_below hb4 e1
  replace c0 := keep_below hb4 c0
  replace c1 := keep_below hb4 c1
  replace c2 := keep_below hb4 c2
  replace c3 := keep_below hb4 c3
  replace c4 := keep_below hb4 c4
  clear hb4
  obtain ⟨d0, d1, d2, d3, d4⟩ := vcells w4 ((numK x)) (n) (x) ⟨#[]⟩
  replace e0 := keep_below (vbox w4 (.cells #[.int .i64 (numK x), .int .i64 n, .int .i64 x, .string ⟨#[]⟩, .slice none 0 0] 26)) e0
  replace e1 := keep_below (vbox w4 (.cells #[.int .i64 (numK x), .int .i64 n, .int .i64 x, .string ⟨#[]⟩, .slice none 0 0] 26)) e1
  replace c0 := keep_below (vbox w4 (.cells #[.int .i64 (numK x), .int .i64 n, .int .i64 x, .string ⟨#[]⟩, .slice none 0 0] 26)) c0
  replace c1 := keep_below (vbox w4 (.cells #[.int .i64 (numK x), .int .i64 n, .int .i64 x, .string ⟨#[]⟩, .slice none 0 0] 26)) c1
  replace c2 := keep_below (vbox w4 (.cells #[.int .i64 (numK x), .int .i64 n, .int .i64 x, .string ⟨#[]⟩, .slice none 0 0] 26)) c2
  replace c3 := keep_below (vbox w4 (.cells #[.int .i64 (numK x), .int .i64 n, .int .i64 x, .string ⟨#[]⟩, .slice none 0 0] 26)) c3
  replace c4 := keep_below (vbox w4 (.cells #[.int .i64 (numK x), .int .i64 n, .int .i64 x, .string ⟨#[]⟩, .slice none 0 0] 26)) c4
  replace HB4 := Lib.hid (HB4.out.trans ((vbox w4 (.cells #[.int .i64 (numK x), .int .i64 n, .int .i64 x, .string ⟨#[]⟩, .slice none 0 0] 26)).mono HB4.out.size))
  go_wp2_with fail
  refine (eq_leaf _ (numK x) n x ⟨#[]⟩).mono ?_
  rintro e w5 ⟨rfl, hb5⟩
  have HB5 := Lib.hid (HB4.out.trans (hb5.mono HB4.out.size))
  replace e0 := keep_below hb5 e0
  replace e1 := keep_below hb5 e1
  replace c0 := keep_below hb5 c0
  replace c1 := keep_below hb5 c1
  replace c2 := keep_below hb5 c2
  replace c3 := keep_below hb5 c3
  replace c4 := keep_below hb5 c4
  replace d0 := keep_below hb5 d0
  replace d1 := keep_below hb5 d1
  replace d2 := keep_below hb5 d2
  replace d3 := keep_below hb5 d3
  replace d4 := keep_below hb5 d4
  clear hb5
  go_wp2_with fail
  refine (mark_leaf _ (numK x) n x ⟨#[]⟩ 1).mono ?_
  rintro e w6 ⟨rfl, hb6⟩
  have HB6 := Lib.hid (HB5.out.trans (hb6.mono HB5.out.size))
  replace e0 := keep_below hb6 e0
  replace e1 := keep_below hb6 e1
  replace c0 := keep_below hb6 c0
  replace c1 := keep_below hb6 c1
  replace c2 := keep_below hb6 c2
  replace c3 := keep_below hb6 c3
  replace c4 := keep_below hb6 c4
  replace d0 := keep_below hb6 d0
  replace d1 := keep_below hb6 d1
  replace d2 := keep_below hb6 d2
  replace d3 := keep_below hb6 d3
  replace d4 := keep_below hb6 d4
  clear hb6
  go_wp2_with fail
  refine (held_leaf _ (numK x) n x ⟨#[]⟩ 1 (by decide)).mono ?_
  rintro e w7 ⟨rfl, hb7⟩
  have HB7 := Lib.hid (HB6.out.trans (hb7.mono HB6.out.size))
  replace e0 := keep_below hb7 e0
  replace e1 := keep_below hb7 e1
  replace c0 := keep_below hb7 c0
  replace c1 := keep_below hb7 c1
  replace c2 := keep_below hb7 c2
  replace c3 := keep_below hb7 c3
  replace c4 := keep_below hb7 c4
  replace d0 := keep_below hb7 d0
  replace d1 := keep_below hb7 d1
  replace d2 := keep_below hb7 d2
  replace d3 := keep_below hb7 d3
  replace d4 := keep_below hb7 d4
  clear hb7
  go_wp2_with fail
  refine (todec_leaf n x _).mono ?_
  rintro e w8 ⟨rfl, hb8⟩
  have HB8 := Lib.hid (HB7.out.trans (hb8.mono HB7.out.size))
  replace e0 := keep_below hb8 e0
  replace e1 := keep_below hb8 e1
  replace c0 := keep_below hb8 c0
  replace c1 := keep_below hb8 c1
  replace c2 := keep_below hb8 c2
  replace c3 := keep_below hb8 c3
  replace c4 := keep_below hb8 c4
  replace d0 := keep_below hb8 d0
  replace d1 := keep_below hb8 d1
  replace d2 := keep_below hb8 d2
  replace d3 := keep_below hb8 d3
  replace d4 := keep_below hb8 d4
  clear hb8
  go_wp2_with fail
  refine (num_impl _ n x).mono ?_
  rintro e w9 ⟨rfl, hb9⟩
  have HB9 := Lib.hid (HB8.out.trans (hb9.mono HB8.out.size))
  replace e0 := keep_below hb9 e0
  replace e1 := keep_below hb9 e1
  replace c0 := keep_below hb9 c0
  replace c1 := keep_below hb9 c1
  replace c2 := keep_below hb9 c2
  replace c3 := keep_below hb9 c3
  replace c4 := keep_below hb9 c4
  replace d0 := keep_below hb9 d0
  replace d1 := keep_below hb9 d1
  replace d2 := keep_below hb9 d2
  replace d3 := keep_below hb9 d3
  replace d4 := keep_below hb9 d4
  clear hb9
  obtain ⟨h0, h1, h2, h3, h4⟩ := vcells w9 ((numK x)) (n) (x) ⟨#[]⟩
  replace e0 := keep_below (vbox w9 (.cells #[.int .i64 (numK x), .int .i64 n, .int .i64 x, .string ⟨#[]⟩, .slice none 0 0] 26)) e0
  replace e1 := keep_below (vbox w9 (.cells #[.int .i64 (numK x), .int .i64 n, .int .i64 x, .string ⟨#[]⟩, .slice none 0 0] 26)) e1
  replace c0 := keep_below (vbox w9 (.cells #[.int .i64 (numK x), .int .i64 n, .int .i64 x, .string ⟨#[]⟩, .slice none 0 0] 26)) c0
  replace c1 := keep_below (vbox w9 (.cells #[.int .i64 (numK x), .int .i64 n, .int .i64 x, .string ⟨#[]⟩, .slice none 0 0] 26)) c1
  replace c2 := keep_below (vbox w9 (.cells #[.int .i64 (numK x), .int .i64 n, .int .i64 x, .string ⟨#[]⟩, .slice none 0 0] 26)) c2
  replace c3 := keep_below (vbox w9 (.cells #[.int .i64 (numK x), .int .i64 n, .int .i64 x, .string ⟨#[]⟩, .slice none 0 0] 26)) c3
  replace c4 := keep_below (vbox w9 (.cells #[.int .i64 (numK x), .int .i64 n, .int .i64 x, .string ⟨#[]⟩, .slice none 0 0] 26)) c4
  replace d0 := keep_below (vbox w9 (.cells #[.int .i64 (numK x), .int .i64 n, .int .i64 x, .string ⟨#[]⟩, .slice none 0 0] 26)) d0
  replace d1 := keep_below (vbox w9 (.cells #[.int .i64 (numK x), .int .i64 n, .int .i64 x, .string ⟨#[]⟩, .slice none 0 0] 26)) d1
  replace d2 := keep_below (vbox w9 (.cells #[.int .i64 (numK x), .int .i64 n, .int .i64 x, .string ⟨#[]⟩, .slice none 0 0] 26)) d2
  replace d3 := keep_below (vbox w9 (.cells #[.int .i64 (numK x), .int .i64 n, .int .i64 x, .string ⟨#[]⟩, .slice none 0 0] 26)) d3
  replace d4 := keep_below (vbox w9 (.cells #[.int .i64 (numK x), .int .i64 n, .int .i64 x, .string ⟨#[]⟩, .slice none 0 0] 26)) d4
  replace HB9 := Lib.hid (HB9.out.trans ((vbox w9 (.cells #[.int .i64 (numK x), .int .i64 n, .int .i64 x, .string ⟨#[]⟩, .slice none 0 0] 26)).mono HB9.out.size))
  go_wp2_with fail
  refine (eq_leaf _ (numK x) n x ⟨#[]⟩).mono ?_
  rintro e w10 ⟨rfl, hb10⟩
  have HB10 := Lib.hid (HB9.out.trans (hb10.mono HB9.out.size))
  replace e0 := keep_below hb10 e0
  replace e1 := keep_below hb10 e1
  replace c0 := keep_below hb10 c0
  replace c1 := keep_below hb10 c1
  replace c2 := keep_below hb10 c2
  replace c3 := keep_below hb10 c3
  replace c4 := keep_below hb10 c4
  replace d0 := keep_below hb10 d0
  replace d1 := keep_below hb10 d1
  replace d2 := keep_below hb10 d2
  replace d3 := keep_below hb10 d3
  replace d4 := keep_below hb10 d4
  replace h0 := keep_below hb10 h0
  replace h1 := keep_below hb10 h1
  replace h2 := keep_below hb10 h2
  replace h3 := keep_below hb10 h3
  replace h4 := keep_below hb10 h4
  clear hb10
  go_wp2_with fail
  refine (held_leaf _ (numK x) n x ⟨#[]⟩ 1 (by decide)).mono ?_
  rintro e w11 ⟨rfl, hb11⟩
  have HB11 := Lib.hid (HB10.out.trans (hb11.mono HB10.out.size))
  replace e0 := keep_below hb11 e0
  replace e1 := keep_below hb11 e1
  replace c0 := keep_below hb11 c0
  replace c1 := keep_below hb11 c1
  replace c2 := keep_below hb11 c2
  replace c3 := keep_below hb11 c3
  replace c4 := keep_below hb11 c4
  replace d0 := keep_below hb11 d0
  replace d1 := keep_below hb11 d1
  replace d2 := keep_below hb11 d2
  replace d3 := keep_below hb11 d3
  replace d4 := keep_below hb11 d4
  replace h0 := keep_below hb11 h0
  replace h1 := keep_below hb11 h1
  replace h2 := keep_below hb11 h2
  replace h3 := keep_below hb11 h3
  replace h4 := keep_below hb11 h4
  clear hb11
  go_wp2
  go_ret
  exact ⟨rfl, HB11.out⟩

set_option maxRecDepth 100000 in
theorem contract (H : Type) (enc : TypeId × Value → H) (W : World) (base : Nat) (args : Array Value) (ds gs : List (DataW H)) (before : List MemPlace)
    (hval : ∀ (j : Nat) t v, Try.f12.params[j]? = some t → args[j]? = some v → Value.okWide Try.prog W .any base t v)
    (hW : DataW.Whole enc Try.prog Try.f12.params.toList Rows.fnExactNumberValSpec.vars false W args.toList ds gs before)
    (hcond : ∀ k, (OpenSpec.ofChange Rows.fnExactNumberValSpec).cond = some k → k H (ds ++ gs) = true)
    (hsz : (DataW.weightsEach Try.prog (Try.f12.params.toList ++ (OpenSpec.ofChange Rows.fnExactNumberValSpec).bare.plain.varTypes Try.prog) (ds ++ gs)).all (· ≤ reachBytes) = true)
    (hL : laidMetH Try.prog Rows.fnExactNumberValRow.laid W) :
    Calls Try.prog 12 args W fun e W' => ∃ v, e = .returned v ∧ Rows.fnExactNumberValSpec.post enc Try.prog Try.f12 false true false false W args v W' := by
  have hW' := hW
  have hlt := hW'.lt
  obtain ⟨p, q, hA0, hV, rfl, hfz, hnd⟩ := hW
  have hA : DataW.TrodAll enc Try.prog W 0 (fun _ => true) true Try.f12.params.toList args.toList ds p := hA0
  rw [Try.params12] at hA hval hsz
  obtain ⟨v0, vs0, d0, ds0, p0, q0, hargs, rfl, rfl, h0, r0⟩ := trodAll_cons hA
  obtain ⟨rfl, rfl, rfl⟩ := trodAll_nil r0
  obtain rfl : args = #[v0] := by cases args; simp_all
  obtain ⟨rfl, rfl⟩ := trodVars_none hV
  simp only [List.append_nil] at hW' hlt
  have hlt0 : ∀ x ∈ p0, x.block < W.heap.size := fun x hx => hlt x (by simp [hx])
  have hk0 := h0
  obtain ⟨c0, e0, y0, z0, n0, rfl, rfl, rfl, hy0, hz0⟩ := Joins.open_agg2 Try.underlying60 (by kernel_rfl) (by kernel_rfl) (hval 0 60 v0 rfl rfl) h0
  obtain ⟨a0, i0, rfl, w0⟩ := DataW.trod_int Try.underlying3 hy0
  obtain ⟨b0, k0, rfl, x0⟩ := DataW.trod_int Try.underlying3 hz0
  simp at i0 k0
  subst i0 k0
  clear hA0 hA
  have fin : ∀ W' : World, Below W.heap.size W W' → Rows.fnExactNumberValSpec.post enc Try.prog Try.f12 false true false false W _ (.bool true) W' := fun W' hb =>
    ⟨_, _, _, [], _, [], hW', trodAll_mk1 (shut_bool Try.underlying4 _), (trodAll_cons_mk (Below.trod laidOut (by kernel_rfl) (of_decide_eq_true (by kernel_rfl)) hk0 hb hlt0) trodAll_mk0), rfl, hb.frame _, fun h => by cases h⟩
  refine Calls.mono (R := fun e w' => e = .returned (.bool true) ∧ Below W.heap.size W w') ?_ (fun e W' h => ⟨_, h.1, fin W' h.2⟩)
  clear fin
  exact walk a0 b0 W

theorem laid_met (os : Os) : laidMet Try.prog Rows.fnExactNumberValRow.laid (((World.holding Try.prog os ⟨#[], #[], []⟩)).forCall (fun _ _ => 0) ⟨#[], #[.agg #[.int .i64 0, .int .i64 0]], []⟩).memory :=
  ⟨[], rfl, List.nodup_nil, fun _ _ h => by cases h⟩
theorem reads (os : Os) {H : Type} (enc : TypeId × Value → H) : ∃ places, DataW.whole enc Try.prog (((World.holding Try.prog os ⟨#[], #[], []⟩)).forCall (fun _ _ => 0) ⟨#[], #[.agg #[.int .i64 0, .int .i64 0]], []⟩).memory Try.f12.params.toList Rows.fnExactNumberValSpec.vars false (#[.agg #[.int .i64 0, .int .i64 0]] : Array Value).toList 8 = some ([.agg [.lit (.int .i64 0), .lit (.int .i64 0)]], [], places) :=
  ⟨[], by kernel_rfl⟩

set_option maxRecDepth 100000 in
theorem lifted (os : Os) (started : os.Started) (H : Type) (enc : TypeId × Value → H) (F : Stop.Interp) :
    ReturnsInHanded {} Try.checked os 12 .any ((OpenSpec.ofChange Rows.fnExactNumberValSpec).preRow enc Try.prog Try.f12 Rows.fnExactNumberValRow.domain false Rows.fnExactNumberValRow.laid) (((OpenSpec.ofChange Rows.fnExactNumberValSpec).at F).post enc Try.prog Try.f12 false true false false) := by
  obtain ⟨places, hx⟩ := reads os enc
  refine returnsInHanded_of_row (C := Try.checked) (s := OpenSpec.ofChange Rows.fnExactNumberValSpec) own started (by kernel_rfl) Try.func12
    (witness_row_at (enc := enc) (C := Try.checked) false (World.holding Try.prog os ⟨#[], #[], []⟩) #[.agg #[.int .i64 0, .int .i64 0]] rfl (by kernel_rfl) (by kernel_rfl) (by kernel_rfl)
      (OpenSpec.preRow_of_cond 8 hx (by kernel_rfl) (fun k hk => by cases hk) (by kernel_rfl) (laid_met os))) ?_
  intro W base args ds gs before hval hW _ hcond hsz hL _ _
  exact contract H enc W base args ds gs before hval hW hcond hsz hL

theorem said : Rows.FnExactNumberValSaid :=
  OpenClaim.holds_of_cond 12 Try.f12 rfl rfl rfl rfl rfl rfl rfl ⟨rfl, rfl, rfl, rfl, rfl⟩ rfl rfl rfl rfl rfl (by kernel_rfl) Try.func12 (by kernel_rfl)
    (of_decide_eq_true (by kernel_rfl)) (by unfold Func.isWrapper; first | (rw [if_pos (by decide +kernel)]; kernel_rfl) | (rw [if_neg (by decide +kernel)]; exact ⟨rfl, rfl⟩))
    (fun os started H enc _ F => by rw [OpenClaim.pre_eq_preRow]; exact lifted os started H enc F)

theorem proved : Rows.FnExactNumberValSaid := said
#print axioms proved
end Go.Proofs.Ytmcmkkkbkfgakaa.fnExactNumberVal
