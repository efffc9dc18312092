/- For every input the law FnExactLessBytes returns true and its arguments read afterwards as they read before; beside what the row states there is no condition. -/
import Derived.Test.YtilgncebhgplaaaRows
import Derived.WalkKit
import Derived.ProofKit
import Derived.OpenShut
import Derived.SizedLaws
import Derived.Carry
import Derived.Deep.DeepHandedRow


import Derived.Lib.LaidTab
import Derived.Stop.LaidErr
import Derived.Test.YtilgncebhgplaaaLessBytes
import Derived.Test.YtilgncebhgplaaaByteS
import Derived.Test.YtilgncebhgplaaaArgs

namespace Go.Proofs.Ytilgncebhgplaaa.fnExactLessBytes
open Go.ChangeShapes Go.WideShapes Go.ChangeAt Go.RowKit
open Go.ChangeMaps (open_string shut_string)
set_option linter.unusedVariables false

theorem own : ownKnob Try.prog.godebug = none := by kernel_rfl
theorem laidOut : laidOutB Try.prog = true := by kernel_rfl

theorem walk_long (u v : Value) (l m : List UInt8) (w : World) (h : Reads w u (bv l)) (k : Reads w v (bv m)) (hl : 1048576 < l.length ∨ 1048576 < m.length) (hm : l.length ≤ maxLen) (hm2 : m.length ≤ maxLen) : Calls Try.prog 4 #[u, v] w fun e w' => e = .returned (.bool true) ∧ Below w.heap.size w w' := by
  unfold maxLen at hm hm2
  obtain ⟨a, cap, rfl, hc⟩ := reads_byte h
  obtain ⟨a2, cap2, rfl, hc2⟩ := reads_byte k
  clear hc hc2 h k
  by_cases h1 : 1048576 < l.length
  · have hl' : (1048576 : Int) < l.length := by omega
    go_enter Try.func4, Try.ntmps4
    go_wp2
    go_ret
    exact ⟨rfl, Below.refl _ _⟩
  · have hl' : ¬ (1048576 : Int) < l.length := by omega
    have hl2 : (1048576 : Int) < m.length := by omega
    go_enter Try.func4, Try.ntmps4
    go_wp2
    go_ret
    exact ⟨rfl, Below.refl _ _⟩
theorem walk (u v : Value) (l m : List UInt8) (w : World) (h : Reads w u (bv l)) (k : Reads w v (bv m)) (hl : l.length ≤ 1048576) (hl2 : m.length ≤ 1048576) : Calls Try.prog 4 #[u, v] w fun e w' => e = .returned (.bool true) ∧ Below w.heap.size w w' := by
  have H := Lib.hid h
  have K := Lib.hid k
  obtain ⟨a, cap, rfl, hc⟩ := reads_byte h
  obtain ⟨a2, cap2, rfl, hc2⟩ := reads_byte k
  clear hc hc2 h k
  have hl' : ¬ (1048576 : Int) < l.length := by omega
  have hm' : ¬ (1048576 : Int) < m.length := by omega
  have hll : l.length ≤ 1099511627776 := by omega
  have hmm : m.length ≤ 1099511627776 := by omega
  clear hl hl2
  have CS := Lib.hid (fun w u v hu hv => lessbytes_spec w u v l m hu hv hll hmm)
  have CI := Lib.hid (fun w u v hu hv => lessbytes_impl w u v l m hu hv)
  obtain ⟨t, ht⟩ : ∃ t, t = bltB l m := ⟨_, rfl⟩
  rw [← ht] at CS CI
  have hd : (t != t) = false := by simp
  clear ht
  go_enter Try.func4, Try.ntmps4
  go_wp2_with fail
  refine (toByteS_any _ _ l H.out hll).mono ?_
  rintro e w1 ⟨v1, rfl, rfl, o1, b1⟩
  have r1 := own_reads o1
  clear o1
  go_wp2_with fail
  refine (toByteS_any _ _ m (K.out.below b1) hmm).mono ?_
  rintro e w2 ⟨v2, rfl, rfl, o2, b2⟩
  have r2 := own_reads o2
  have r1' := r1.below b2
  have b02 := b1.trans (b2.mono b1.size)
  clear o2 r1 b1 b2
  have cs := CS.out w2 _ _ r1' r2
  clear r1' r2
  go_wp2_with fail
  refine cs.mono ?_
  rintro e w3 ⟨rfl, b3⟩
  have b03 := b02.trans (b3.mono b02.size)
  clear b02 b3 cs
  go_wp2_with fail
  refine (toByteS_any _ _ l (H.out.below b03) hll).mono ?_
  rintro e w4 ⟨v4, rfl, rfl, o4, b4⟩
  have r4 := own_reads o4
  have b04 := b03.trans (b4.mono b03.size)
  clear o4 b03 b4
  go_wp2_with fail
  refine (toByteS_any _ _ m (K.out.below b04) hmm).mono ?_
  rintro e w5 ⟨v5, rfl, rfl, o5, b5⟩
  have r5 := own_reads o5
  have r4' := r4.below b5
  have b05 := b04.trans (b5.mono b04.size)
  have ci := CI.out w5 _ _ r4' r5
  clear o5 b04 b5 r4
  go_wp2_with fail
  refine ci.mono ?_
  rintro e w6 ⟨rfl, rfl⟩
  clear ci
  go_wp2_with fail
  refine (toByteS_any _ _ l (H.out.below b05) hll).mono ?_
  rintro e w7 ⟨v7, rfl, rfl, o7, b7⟩
  have ce := eqByteS_yes w7 _ _ l (r4'.below b7) (own_reads o7) hll
  have s5 := r5.below b7
  have b07 := b05.trans (b7.mono b05.size)
  clear o7 b05 b7 r4' r5
  go_wp2_with fail
  refine ce.mono ?_
  rintro e w8 ⟨rfl, b8⟩
  have s5' := s5.below b8
  have b08 := b07.trans (b8.mono b07.size)
  clear ce b07 b8 s5
  go_wp2_with fail
  refine (toByteS_any _ _ m (K.out.below b08) hmm).mono ?_
  rintro e w9 ⟨v9, rfl, rfl, o9, b9⟩
  have ce := eqByteS_yes w9 _ _ m (s5'.below b9) (own_reads o9) hmm
  have b09 := b08.trans (b9.mono b08.size)
  clear o9 b08 b9 s5'
  go_wp2_with fail
  refine ce.mono ?_
  rintro e w10 ⟨rfl, b10⟩
  have b010 := Lib.hid (b09.trans (b10.mono b09.size))
  clear ce b09 b10
  go_wp2
  go_ret
  exact ⟨rfl, b010.out⟩

set_option maxRecDepth 100000 in
theorem contract (H : Type) (enc : TypeId × Value → H) (W : World) (base : Nat) (args : Array Value) (ds gs : List (DataW H)) (before : List MemPlace)
    (hval : ∀ (j : Nat) t v, Try.f4.params[j]? = some t → args[j]? = some v → Value.okWide Try.prog W .any base t v)
    (hW : DataW.Whole enc Try.prog Try.f4.params.toList Rows.fnExactLessBytesSpec.vars false W args.toList ds gs before)
    (hcond : ∀ k, (OpenSpec.ofChange Rows.fnExactLessBytesSpec).cond = some k → k H (ds ++ gs) = true)
    (hsz : (DataW.weightsEach Try.prog (Try.f4.params.toList ++ (OpenSpec.ofChange Rows.fnExactLessBytesSpec).bare.plain.varTypes Try.prog) (ds ++ gs)).all (· ≤ reachBytes) = true)
    (hL : laidMetH Try.prog Rows.fnExactLessBytesRow.laid W) :
    Calls Try.prog 4 args W fun e W' => ∃ v, e = .returned v ∧ Rows.fnExactLessBytesSpec.post enc Try.prog Try.f4 false true false false W args v W' := by
  have hW' := hW
  have hlt := hW'.lt
  obtain ⟨p, q, hA0, hV, rfl, hfz, hnd⟩ := hW
  have hA : DataW.TrodAll enc Try.prog W 0 (fun _ => true) true Try.f4.params.toList args.toList ds p := hA0
  rw [Try.params4] at hA hval hsz
  obtain ⟨v0, vs0, d0, ds0, p0, q0, hargs, rfl, rfl, h0, r0⟩ := trodAll_cons hA
  obtain ⟨v1, vs1, d1, ds1, p1, q1, rfl, rfl, rfl, h1, r1⟩ := trodAll_cons r0
  obtain ⟨rfl, rfl, rfl⟩ := trodAll_nil r1
  obtain rfl : args = #[v0, v1] := by cases args; simp_all
  obtain ⟨rfl, rfl⟩ := trodVars_none hV
  simp only [List.append_nil] at hW' hlt
  have hlt0 : ∀ x ∈ p0, x.block < W.heap.size := fun x hx => hlt x (by simp [hx])
  have hlt1 : ∀ x ∈ p1, x.block < W.heap.size := fun x hx => hlt x (by simp [hx])
  have hk0 := h0
  have hk1 := h1
  clear hA0 hA
  have fin : ∀ W' : World, Below W.heap.size W W' → Rows.fnExactLessBytesSpec.post enc Try.prog Try.f4 false true false false W _ (.bool true) W' := fun W' hb =>
    ⟨_, _, _, [], _, [], hW', trodAll_mk1 (shut_bool Try.underlying4 _), (trodAll_cons_mk (Below.trod laidOut (by kernel_rfl) (of_decide_eq_true (by kernel_rfl)) hk0 hb hlt0) (trodAll_cons_mk (Below.trod laidOut (by kernel_rfl) (of_decide_eq_true (by kernel_rfl)) hk1 hb hlt1) trodAll_mk0)), rfl, hb.frame _, fun h => by cases h⟩
  refine Calls.mono (R := fun e w' => e = .returned (.bool true) ∧ Below W.heap.size W w') ?_ (fun e W' h => ⟨_, h.1, fin W' h.2⟩)
  clear fin
  obtain ⟨l, hR, hm⟩ := open_bytes (hval 0 _ v0 rfl rfl) h0
  obtain ⟨m, hR1, hm1⟩ := open_bytes (hval 1 _ v1 rfl rfl) h1
  by_cases hl : 1048576 < l.length ∨ 1048576 < m.length
  · exact walk_long v0 v1 l m W hR hR1 hl hm hm1
  · exact walk v0 v1 l m W hR hR1 (by omega) (by omega)

theorem laid_met (os : Os) : laidMet Try.prog Rows.fnExactLessBytesRow.laid (((World.holding Try.prog os ⟨#[], #[], []⟩)).forCall (fun _ _ => 0) ⟨#[], #[.slice none 0 0, .slice none 0 0], []⟩).memory :=
  ⟨[], rfl, List.nodup_nil, fun _ _ h => by cases h⟩
theorem reads (os : Os) {H : Type} (enc : TypeId × Value → H) : ∃ places, DataW.whole enc Try.prog (((World.holding Try.prog os ⟨#[], #[], []⟩)).forCall (fun _ _ => 0) ⟨#[], #[.slice none 0 0, .slice none 0 0], []⟩).memory Try.f4.params.toList Rows.fnExactLessBytesSpec.vars false (#[.slice none 0 0, .slice none 0 0] : Array Value).toList 8 = some ([.nil, .nil], [], places) :=
  ⟨[], by kernel_rfl⟩

set_option maxRecDepth 100000 in
theorem lifted (os : Os) (started : os.Started) (H : Type) (enc : TypeId × Value → H) (F : Stop.Interp) :
    ReturnsInHanded {} Try.checked os 4 .any ((OpenSpec.ofChange Rows.fnExactLessBytesSpec).preRow enc Try.prog Try.f4 Rows.fnExactLessBytesRow.domain false Rows.fnExactLessBytesRow.laid) (((OpenSpec.ofChange Rows.fnExactLessBytesSpec).at F).post enc Try.prog Try.f4 false true false false) := by
  obtain ⟨places, hx⟩ := reads os enc
  refine returnsInHanded_of_row (C := Try.checked) (s := OpenSpec.ofChange Rows.fnExactLessBytesSpec) own started (by kernel_rfl) Try.func4
    (witness_row_at (enc := enc) (C := Try.checked) false (World.holding Try.prog os ⟨#[], #[], []⟩) #[.slice none 0 0, .slice none 0 0] rfl (by kernel_rfl) (by kernel_rfl) (by kernel_rfl)
      (OpenSpec.preRow_of_cond 8 hx (by kernel_rfl) (fun k hk => by cases hk) (by kernel_rfl) (laid_met os))) ?_
  intro W base args ds gs before hval hW _ hcond hsz hL _ _
  exact contract H enc W base args ds gs before hval hW hcond hsz hL

theorem said : Rows.FnExactLessBytesSaid :=
  OpenClaim.holds_of_cond 4 Try.f4 rfl rfl rfl rfl rfl rfl rfl ⟨rfl, rfl, rfl, rfl, rfl⟩ rfl rfl rfl rfl rfl (by kernel_rfl) Try.func4 (by kernel_rfl)
    (of_decide_eq_true (by kernel_rfl)) (by unfold Func.isWrapper; first | (rw [if_pos (by decide +kernel)]; kernel_rfl) | (rw [if_neg (by decide +kernel)]; exact ⟨rfl, rfl⟩))
    (fun os started H enc _ F => by rw [OpenClaim.pre_eq_preRow]; exact lifted os started H enc F)

theorem proved : Rows.FnExactLessBytesSaid := said
#print axioms proved
end Go.Proofs.Ytilgncebhgplaaa.fnExactLessBytes
