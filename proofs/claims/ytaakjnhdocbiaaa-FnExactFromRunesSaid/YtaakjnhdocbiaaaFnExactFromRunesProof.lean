/- For every input the law FnExactFromRunes returns true and its arguments read afterwards as they read before; beside what the row states there is no condition. -/
import Derived.Test.YtaakjnhdocbiaaaRows
import Derived.WalkKit
import Derived.ProofKit
import Derived.OpenShut
import Derived.SizedLaws
import Derived.Carry
import Derived.Deep.DeepHandedRow

import Derived.Lib.LaidTab
import Derived.Stop.LaidErr
import Derived.Test.YtaakjnhdocbiaaaFromRunes
import Derived.Test.YtaakjnhdocbiaaaIntS
import Derived.Test.YtaakjnhdocbiaaaArgs

namespace Go.Proofs.Ytaakjnhdocbiaaa.fnExactFromRunes
open Go.ChangeShapes Go.WideShapes Go.ChangeAt Go.RowKit
open Go.ChangeMaps (open_string shut_string)
set_option linter.unusedVariables false

theorem own : ownKnob Try.prog.godebug = none := by kernel_rfl
theorem laidOut : laidOutB Try.prog = true := by kernel_rfl

theorem walk_long (v : Value) (l : List Int) (w : World) (h : Reads w v (iv l)) (hl : 1048576 < l.length) (hm : l.length ≤ maxLen) : Calls Try.prog 8 #[v] w fun e w' => e = .returned (.bool true) ∧ Below w.heap.size w w' := by
  unfold maxLen at hm
  obtain ⟨a, cap, rfl, hc⟩ := reads_int h
  clear hc h
  have hl' : (1048576 : Int) < l.length := by omega
  go_enter Try.func8, Try.ntmps8
  go_wp2
  go_ret
  exact ⟨rfl, Below.refl _ _⟩
theorem walk (v : Value) (l : List Int) (w : World) (h : Reads w v (iv l)) (hl : l.length ≤ 1048576) : Calls Try.prog 8 #[v] w fun e w' => e = .returned (.bool true) ∧ Below w.heap.size w w' := by
  have H := Lib.hid h
  obtain ⟨a, cap, rfl, hc⟩ := reads_int h
  clear hc h
  have hl' : ¬ (1048576 : Int) < l.length := by omega
  have hll : l.length ≤ 1099511627776 := by omega
  have hl3 : l.length ≤ 1073741824 := by omega
  have ci := fun w v h => fromrunes_impl w v l h hl3
  have cs := fun w v h => fromrunes_spec w v l h hl3
  have hss : (flat l == flat l) = true := by simp
  have hs2 : (flat l != flat l) = false := by simp
  have CI := Lib.hid ci
  have CS := Lib.hid cs
  clear ci cs
  generalize flat l = fl at *
  go_enter Try.func8, Try.ntmps8
  go_wp2_with fail
  refine (toIntS_any _ _ l H.out hll).mono ?_
  rintro e w1 ⟨v1, rfl, rfl, o1, b1⟩
  have cs := CS.out w1 _ (own_reads o1)
  clear o1
  go_wp2_with fail
  refine cs.mono ?_
  rintro e w2 ⟨rfl, b2⟩
  have b02 := b1.trans (b2.mono b1.size)
  clear cs b1 b2
  go_wp2_with fail
  refine (toIntS_any w2 _ l (H.out.below b02) hll).mono ?_
  rintro e w3 ⟨v3, rfl, rfl, o3, b3⟩
  have b03 := b02.trans (b3.mono b02.size)
  have ci := CI.out w3 _ (own_reads o3)
  clear b02 b3
  go_wp2_with fail
  refine ci.mono ?_
  rintro e w4 ⟨rfl, b4⟩
  have b04 := b03.trans (b4.mono b03.size)
  have p3 := own_below o3 b4
  clear ci o3 b03 b4
  go_wp2_with fail
  refine (toIntS_any w4 _ l (H.out.below b04) hll).mono ?_
  rintro e w5 ⟨v5, rfl, rfl, o5, b5⟩
  have b05 := b04.trans (b5.mono b04.size)
  have ce := eqIntS_yes w5 _ _ _ (own_reads (own_below p3 b5)) (own_reads o5) hll
  clear p3 o5 b04 b5
  go_wp2_with fail
  refine ce.mono ?_
  rintro e w6 ⟨rfl, b6⟩
  have b06 := b05.trans (b6.mono b05.size)
  clear ce b05 b6
  go_wp2
  go_ret
  exact ⟨rfl, b06⟩

theorem contract (H : Type) (enc : TypeId × Value → H) (W : World) (base : Nat) (args : Array Value) (ds gs : List (DataW H)) (before : List MemPlace)
    (hval : ∀ (j : Nat) t v, Try.f8.params[j]? = some t → args[j]? = some v → Value.okWide Try.prog W .any base t v)
    (hW : DataW.Whole enc Try.prog Try.f8.params.toList Rows.fnExactFromRunesSpec.vars false W args.toList ds gs before)
    (hcond : ∀ k, (OpenSpec.ofChange Rows.fnExactFromRunesSpec).cond = some k → k H (ds ++ gs) = true)
    (hsz : (DataW.weightsEach Try.prog (Try.f8.params.toList ++ (OpenSpec.ofChange Rows.fnExactFromRunesSpec).bare.plain.varTypes Try.prog) (ds ++ gs)).all (· ≤ reachBytes) = true)
    (hL : laidMetH Try.prog Rows.fnExactFromRunesRow.laid W) :
    Calls Try.prog 8 args W fun e W' => ∃ v, e = .returned v ∧ Rows.fnExactFromRunesSpec.post enc Try.prog Try.f8 false true false false W args v W' := by
  have hW' := hW
  have hlt := hW'.lt
  obtain ⟨p, q, hA0, hV, rfl, hfz, hnd⟩ := hW
  have hA : DataW.TrodAll enc Try.prog W 0 (fun _ => true) true Try.f8.params.toList args.toList ds p := hA0
  rw [Try.params8] at hA hval hsz
  obtain ⟨v0, vs0, d0, ds0, p0, q0, hargs, rfl, rfl, h0, r0⟩ := trodAll_cons hA
  obtain ⟨rfl, rfl, rfl⟩ := trodAll_nil r0
  obtain rfl : args = #[v0] := by cases args; simp_all
  obtain ⟨rfl, rfl⟩ := trodVars_none hV
  simp only [List.append_nil] at hW' hlt
  have hlt0 : ∀ x ∈ p0, x.block < W.heap.size := fun x hx => hlt x (by simp [hx])
  have hk0 := h0
  clear hA0 hA
  have fin : ∀ W' : World, Below W.heap.size W W' → Rows.fnExactFromRunesSpec.post enc Try.prog Try.f8 false true false false W _ (.bool true) W' := fun W' hb =>
    ⟨_, _, _, [], _, [], hW', trodAll_mk1 (shut_bool Try.underlying4 _), (trodAll_cons_mk (Below.trod laidOut (by kernel_rfl) (of_decide_eq_true (by kernel_rfl)) hk0 hb hlt0) trodAll_mk0), rfl, hb.frame _, fun h => by cases h⟩
  refine Calls.mono (R := fun e w' => e = .returned (.bool true) ∧ Below W.heap.size W w') ?_ (fun e W' h => ⟨_, h.1, fin W' h.2⟩)
  clear fin
  obtain ⟨l, hR, hm, _⟩ := open_intS (hval 0 _ v0 rfl rfl) h0
  by_cases hl : 1048576 < l.length
  · exact walk_long v0 l W hR hl hm
  · exact walk v0 l W hR (by omega)

theorem laid_met (os : Os) : laidMet Try.prog Rows.fnExactFromRunesRow.laid (((World.holding Try.prog os ⟨#[], #[], []⟩)).forCall (fun _ _ => 0) ⟨#[], #[.slice none 0 0], []⟩).memory :=
  ⟨[], rfl, List.nodup_nil, fun _ _ h => by cases h⟩
theorem reads (os : Os) {H : Type} (enc : TypeId × Value → H) : ∃ places, DataW.whole enc Try.prog (((World.holding Try.prog os ⟨#[], #[], []⟩)).forCall (fun _ _ => 0) ⟨#[], #[.slice none 0 0], []⟩).memory Try.f8.params.toList Rows.fnExactFromRunesSpec.vars false (#[.slice none 0 0] : Array Value).toList 8 = some ([.nil], [], places) :=
  ⟨[], by kernel_rfl⟩

set_option maxRecDepth 100000 in
theorem lifted (os : Os) (started : os.Started) (H : Type) (enc : TypeId × Value → H) (F : Stop.Interp) :
    ReturnsInHanded {} Try.checked os 8 .any ((OpenSpec.ofChange Rows.fnExactFromRunesSpec).preRow enc Try.prog Try.f8 Rows.fnExactFromRunesRow.domain false Rows.fnExactFromRunesRow.laid) (((OpenSpec.ofChange Rows.fnExactFromRunesSpec).at F).post enc Try.prog Try.f8 false true false false) := by
  obtain ⟨places, hx⟩ := reads os enc
  refine returnsInHanded_of_row (C := Try.checked) (s := OpenSpec.ofChange Rows.fnExactFromRunesSpec) own started (by kernel_rfl) Try.func8
    (witness_row_at (enc := enc) (C := Try.checked) false (World.holding Try.prog os ⟨#[], #[], []⟩) #[.slice none 0 0] rfl (by kernel_rfl) (by kernel_rfl) (by kernel_rfl)
      (OpenSpec.preRow_of_cond 8 hx (by kernel_rfl) (fun k hk => by cases hk) (by kernel_rfl) (laid_met os))) ?_
  intro W base args ds gs before hval hW _ hcond hsz hL _ _
  exact contract H enc W base args ds gs before hval hW hcond hsz hL

theorem said : Rows.FnExactFromRunesSaid :=
  OpenClaim.holds_of_cond 8 Try.f8 rfl rfl rfl rfl rfl rfl rfl ⟨rfl, rfl, rfl, rfl, rfl⟩ rfl rfl rfl rfl rfl (by kernel_rfl) Try.func8 (by kernel_rfl)
    (of_decide_eq_true (by kernel_rfl)) (by unfold Func.isWrapper; first | (rw [if_pos (by decide +kernel)]; kernel_rfl) | (rw [if_neg (by decide +kernel)]; exact ⟨rfl, rfl⟩))
    (fun os started H enc _ F => by rw [OpenClaim.pre_eq_preRow]; exact lifted os started H enc F)

theorem proved : Rows.FnExactFromRunesSaid := said
#print axioms proved
end Go.Proofs.Ytaakjnhdocbiaaa.fnExactFromRunes
