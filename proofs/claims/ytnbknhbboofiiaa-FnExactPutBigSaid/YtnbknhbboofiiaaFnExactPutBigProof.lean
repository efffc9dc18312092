/- For every input the law FnExactPutBig returns true and its arguments read afterwards as they read before; beside what the row states there is no condition. -/
import Derived.Test.YtnbknhbboofiiaaRows
import Derived.WalkKit
import Derived.ProofKit
import Derived.OpenShut
import Derived.SizedLaws
import Derived.Carry
import Derived.Deep.DeepHandedRow


import Derived.Lib.LaidTab
import Derived.Stop.LaidErr
import Derived.Test.YtnbknhbboofiiaaPutBig
import Derived.Test.YtnbknhbboofiiaaByteS
import Derived.Test.YtnbknhbboofiiaaArgs

namespace Go.Proofs.Ytnbknhbboofiiaa.fnExactPutBig
open Go.ChangeShapes Go.WideShapes Go.ChangeAt Go.RowKit
open Go.ChangeMaps (open_string shut_string)
set_option linter.unusedVariables false

theorem own : ownKnob Try.prog.godebug = none := by kernel_rfl
theorem laidOut : laidOutB Try.prog = true := by kernel_rfl

theorem walk_long (v : Value) (n x : Int) (l : List UInt8) (w : World) (h : Reads w v (bv l)) (hl : 1048576 < l.length) (hm : l.length ≤ maxLen) : Calls Try.prog 5 #[v, .int .i64 n, .int .i64 x] w fun e w' => e = .returned (.bool true) ∧ Below w.heap.size w w' := by
  unfold maxLen at hm
  obtain ⟨a, cap, rfl, hc⟩ := reads_byte h
  clear hc h
  have hl' : (1048576 : Int) < l.length := by omega
  go_enter Try.func5, Try.ntmps5
  go_wp2
  go_ret
  exact ⟨rfl, Below.refl _ _⟩
theorem walk (v : Value) (n x : Int) (l : List UInt8) (w : World) (h : Reads w v (bv l)) (hl : l.length ≤ 1048576) : Calls Try.prog 5 #[v, .int .i64 n, .int .i64 x] w fun e w' => e = .returned (.bool true) ∧ Below w.heap.size w w' := by
  have H := Lib.hid h
  obtain ⟨a, cap, rfl, hc⟩ := reads_byte h
  clear hc h
  have hl' : ¬ (1048576 : Int) < l.length := by omega
  have hel : (l ++ bigL n x).length ≤ 1099511627776 := by
    rw [List.length_append]
    have := bigL_len n x
    omega
  have hll : l.length ≤ 1099511627776 := by omega
  go_enter Try.func5, Try.ntmps5
  go_wp2_with fail
  refine (toByteS_any _ _ l H.out hll).mono ?_
  rintro e w1 ⟨v1, rfl, rfl, o1, b1⟩
  go_wp2_with fail
  refine (putbig_spec w1 _ l n x (own_sl o1 (by intro e; cases e)) hll).mono ?_
  rintro e w2 ⟨v2, rfl, _, o2, b2⟩
  have hN := b1.size
  have b02 : Below w.heap.size w w2 := b1.trans (b2.mono hN)
  have hN2 := b02.size
  have hv2 : ∀ k, v2.ownBlock = some k → k < w2.heap.size := fun k hk => (o2.lt k hk).2
  clear o1 b1 b2
  go_wp2_with fail
  refine (toByteS_any w2 _ l (H.out.below b02) hll).mono ?_
  rintro e w3 ⟨v3, rfl, rfl, o3, b3⟩
  have b03 := b02.trans (b3.mono b02.size)
  have p2 := own_below o2 b3
  clear o2 b02
  go_wp2_with fail
  refine (putbig_impl w3 _ l n x (own_sl o3 (by intro e; cases e)) hll).mono ?_
  rintro e w4 ⟨v4, rfl, _, o4, b4⟩
  have b04 := b03.trans (b4.mono b03.size)
  have q2 := own_below p2 b4
  have q3 := own_below o3 b4
  have ce := eqByteS_yes w4 _ _ _ (own_reads o4) (own_reads q2) hel
  have S34 := Lib.hid (o3.lt _ rfl).2
  clear o3 p2 b03 b4 b3
  go_wp2_with fail
  refine ce.mono ?_
  rintro e w5 ⟨rfl, b5⟩
  have b05 := b04.trans (b5.mono b04.size)
  have r2 := own_below q2 b5
  have r3 := own_below q3 b5
  have r4 := own_below o4 b5
  clear ce q2 q3 o4 b04 b5
  go_wp2_with fail
  refine (toByteS_any w5 _ l (H.out.below b05) hll).mono ?_
  rintro e w6 ⟨v6, rfl, rfl, o6, b6⟩
  have b06 := b05.trans (b6.mono b05.size)
  have p2 := own_below r2 b6
  have p3 := own_below r3 b6
  have p4 := own_below r4 b6
  have ce := eqByteS_yes w6 _ _ _ (own_reads p3) (own_reads o6) hll
  clear r2 r3 r4 b05 b6 o6
  go_wp2_with fail
  refine ce.mono ?_
  rintro e w7 ⟨rfl, b7⟩
  have b07 := b06.trans (b7.mono b06.size)
  have q2 := own_below p2 b7
  have q3 := own_below p3 b7
  have q4 := own_below p4 b7
  clear ce p2 p3 p4 b06 b7
  go_wp2_with fail
  refine (markByteS_any w7 _ _ l q3 hll).mono ?_
  rintro e w8 ⟨rfl, o8, g, hg, hgg, b8⟩
  have hz : w.heap.size ≤ w2.heap.size := hN2
  have b08 := only_below b07 b8 (by omega) b07.size
  have r2 := own_old q2 b8 (fun k hk => by have := hv2 k hk; omega)
  have r4 := own_new q4 b8 hgg (fun k hk => by have := S34.out; injection hk with hk; first | omega | (simp only at hk this; omega))
  clear q2 q3 q4 b07 b8 o8 hg hgg hz
  have hk : ¬ (1 + (l.length : Int) < 0) := by omega
  have ce := eqByteS_yes w8 _ _ _ (own_reads r4) (own_reads r2) hel
  go_wp2_with fail
  refine ce.mono ?_
  rintro e w9 ⟨rfl, b9⟩
  have b09 := b08.trans (b9.mono b08.size)
  have p2 := own_below r2 b9
  have p4 := own_below r4 b9
  clear ce r2 r4 b08 b9
  go_wp2_with fail
  refine (markByteS_any w9 _ _ _ p4 hel).mono ?_
  rintro e w10 ⟨rfl, o10, g, hg, hgg, b10⟩
  have s34 := S34.out
  have b010 := only_below b09 b10 (by omega) b09.size
  have q2 := own_old p2 b10 (fun k hk => by have := hv2 k hk; omega)
  clear p2 p4 b09 b10 hg hgg s34
  generalize hm : (l ++ bigL n x).length = m at *
  have hk2 : ¬ (1 + (m : Int) < 0) := by omega
  have hk3 : ((1 + (m : Int)) != (1 + (m : Int))) = false := by simp
  have ch := heldByteS_any w10 _ m (own_reads o10) (by omega)
  go_wp2_with fail
  refine ch.mono ?_
  rintro e w11 ⟨rfl, b11⟩
  have b011 := b010.trans (b11.mono b010.size)
  have r2 := own_below q2 b11
  have r10 := own_below o10 b11
  clear ch q2 o10 b010 b11
  go_wp2_with fail
  refine (toByteS_any w11 _ l (H.out.below b011) hll).mono ?_
  rintro e w12 ⟨v12, rfl, rfl, o12, b12⟩
  have b012 := b011.trans (b12.mono b011.size)
  have p2 := own_below r2 b12
  have p10 := own_below r10 b12
  clear r2 r10 b011 b12
  go_wp2_with fail
  refine (putbig_impl w12 _ l n x (own_sl o12 (by intro e; cases e)) hll).mono ?_
  rintro e w13 ⟨v13, rfl, _, o13, b13⟩
  have b013 := b012.trans (b13.mono b012.size)
  have q2 := own_below p2 b13
  have q10 := own_below p10 b13
  clear p2 p10 b012 b13 o12
  have ce := eqByteS_yes w13 _ _ _ (own_reads o13) (own_reads q2) (by omega)
  go_wp2_with fail
  refine ce.mono ?_
  rintro e w14 ⟨rfl, b14⟩
  have b014 := b013.trans (b14.mono b013.size)
  have r10 := own_below q10 b14
  clear ce q2 q10 b013 b14 o13
  have ch := heldByteS_any w14 _ m (own_reads r10) (by omega)
  go_wp2_with fail
  refine ch.mono ?_
  rintro e w15 ⟨rfl, b15⟩
  have b015 := b014.trans (b15.mono b014.size)
  clear ch r10 b014 b15
  go_wp2
  go_ret
  exact ⟨rfl, b015⟩

theorem contract (H : Type) (enc : TypeId × Value → H) (W : World) (base : Nat) (args : Array Value) (ds gs : List (DataW H)) (before : List MemPlace)
    (hval : ∀ (j : Nat) t v, Try.f5.params[j]? = some t → args[j]? = some v → Value.okWide Try.prog W .any base t v)
    (hW : DataW.Whole enc Try.prog Try.f5.params.toList Rows.fnExactPutBigSpec.vars false W args.toList ds gs before)
    (hcond : ∀ k, (OpenSpec.ofChange Rows.fnExactPutBigSpec).cond = some k → k H (ds ++ gs) = true)
    (hsz : (DataW.weightsEach Try.prog (Try.f5.params.toList ++ (OpenSpec.ofChange Rows.fnExactPutBigSpec).bare.plain.varTypes Try.prog) (ds ++ gs)).all (· ≤ reachBytes) = true)
    (hL : laidMetH Try.prog Rows.fnExactPutBigRow.laid W) :
    Calls Try.prog 5 args W fun e W' => ∃ v, e = .returned v ∧ Rows.fnExactPutBigSpec.post enc Try.prog Try.f5 false true false false W args v W' := by
  have hW' := hW
  have hlt := hW'.lt
  obtain ⟨p, q, hA0, hV, rfl, hfz, hnd⟩ := hW
  have hA : DataW.TrodAll enc Try.prog W 0 (fun _ => true) true Try.f5.params.toList args.toList ds p := hA0
  rw [Try.params5] at hA hval hsz
  obtain ⟨v0, vs0, d0, ds0, p0, q0, hargs, rfl, rfl, h0, r0⟩ := trodAll_cons hA
  obtain ⟨v1, vs1, d1, ds1, p1, q1, rfl, rfl, rfl, h1, r1⟩ := trodAll_cons r0
  obtain ⟨v2, vs2, d2, ds2, p2, q2, rfl, rfl, rfl, h2, r2⟩ := trodAll_cons r1
  obtain ⟨rfl, rfl, rfl⟩ := trodAll_nil r2
  obtain rfl : args = #[v0, v1, v2] := by cases args; simp_all
  obtain ⟨rfl, rfl⟩ := trodVars_none hV
  simp only [List.append_nil] at hW' hlt
  have hlt0 : ∀ x ∈ p0, x.block < W.heap.size := fun x hx => hlt x (by simp [hx])
  have hlt1 : ∀ x ∈ p1, x.block < W.heap.size := fun x hx => hlt x (by simp [hx])
  have hlt2 : ∀ x ∈ p2, x.block < W.heap.size := fun x hx => hlt x (by simp [hx])
  have hk0 := h0
  have hk1 := h1
  have hk2 := h2
  obtain ⟨a1, rfl, rfl, rfl, w1⟩ := open_int Try.underlying3 (hval 1 3 v1 rfl rfl) h1
  obtain ⟨a2, rfl, rfl, rfl, w2⟩ := open_int Try.underlying3 (hval 2 3 v2 rfl rfl) h2
  clear hA0 hA
  have fin : ∀ W' : World, Below W.heap.size W W' → Rows.fnExactPutBigSpec.post enc Try.prog Try.f5 false true false false W _ (.bool true) W' := fun W' hb =>
    ⟨_, _, _, [], _, [], hW', trodAll_mk1 (shut_bool Try.underlying4 _), (trodAll_cons_mk (Below.trod laidOut (by kernel_rfl) (of_decide_eq_true (by kernel_rfl)) hk0 hb hlt0) (trodAll_cons_mk (Below.trod laidOut (by kernel_rfl) (of_decide_eq_true (by kernel_rfl)) hk1 hb hlt1) (trodAll_cons_mk (Below.trod laidOut (by kernel_rfl) (of_decide_eq_true (by kernel_rfl)) hk2 hb hlt2) trodAll_mk0))), rfl, hb.frame _, fun h => by cases h⟩
  refine Calls.mono (R := fun e w' => e = .returned (.bool true) ∧ Below W.heap.size W w') ?_ (fun e W' h => ⟨_, h.1, fin W' h.2⟩)
  clear fin
  obtain ⟨l, hR, hm⟩ := open_bytes (hval 0 _ v0 rfl rfl) h0
  by_cases hl : 1048576 < l.length
  · exact walk_long v0 a1 a2 l W hR hl hm
  · exact walk v0 a1 a2 l W hR (by omega)

theorem laid_met (os : Os) : laidMet Try.prog Rows.fnExactPutBigRow.laid (((World.holding Try.prog os ⟨#[], #[], []⟩)).forCall (fun _ _ => 0) ⟨#[], #[.slice none 0 0, .int .i64 0, .int .i64 0], []⟩).memory :=
  ⟨[], rfl, List.nodup_nil, fun _ _ h => by cases h⟩
theorem reads (os : Os) {H : Type} (enc : TypeId × Value → H) : ∃ places, DataW.whole enc Try.prog (((World.holding Try.prog os ⟨#[], #[], []⟩)).forCall (fun _ _ => 0) ⟨#[], #[.slice none 0 0, .int .i64 0, .int .i64 0], []⟩).memory Try.f5.params.toList Rows.fnExactPutBigSpec.vars false (#[.slice none 0 0, .int .i64 0, .int .i64 0] : Array Value).toList 8 = some ([.nil, .lit (.int .i64 0), .lit (.int .i64 0)], [], places) :=
  ⟨[], by kernel_rfl⟩

set_option maxRecDepth 100000 in
theorem lifted (os : Os) (started : os.Started) (H : Type) (enc : TypeId × Value → H) (F : Stop.Interp) :
    ReturnsInHanded {} Try.checked os 5 .any ((OpenSpec.ofChange Rows.fnExactPutBigSpec).preRow enc Try.prog Try.f5 Rows.fnExactPutBigRow.domain false Rows.fnExactPutBigRow.laid) (((OpenSpec.ofChange Rows.fnExactPutBigSpec).at F).post enc Try.prog Try.f5 false true false false) := by
  obtain ⟨places, hx⟩ := reads os enc
  refine returnsInHanded_of_row (C := Try.checked) (s := OpenSpec.ofChange Rows.fnExactPutBigSpec) own started (by kernel_rfl) Try.func5
    (witness_row_at (enc := enc) (C := Try.checked) false (World.holding Try.prog os ⟨#[], #[], []⟩) #[.slice none 0 0, .int .i64 0, .int .i64 0] rfl (by kernel_rfl) (by kernel_rfl) (by kernel_rfl)
      (OpenSpec.preRow_of_cond 8 hx (by kernel_rfl) (fun k hk => by cases hk) (by kernel_rfl) (laid_met os))) ?_
  intro W base args ds gs before hval hW _ hcond hsz hL _ _
  exact contract H enc W base args ds gs before hval hW hcond hsz hL

theorem said : Rows.FnExactPutBigSaid :=
  OpenClaim.holds_of_cond 5 Try.f5 rfl rfl rfl rfl rfl rfl rfl ⟨rfl, rfl, rfl, rfl, rfl⟩ rfl rfl rfl rfl rfl (by kernel_rfl) Try.func5 (by kernel_rfl)
    (of_decide_eq_true (by kernel_rfl)) (by unfold Func.isWrapper; first | (rw [if_pos (by decide +kernel)]; kernel_rfl) | (rw [if_neg (by decide +kernel)]; exact ⟨rfl, rfl⟩))
    (fun os started H enc _ F => by rw [OpenClaim.pre_eq_preRow]; exact lifted os started H enc F)

theorem proved : Rows.FnExactPutBigSaid := said
#print axioms proved
end Go.Proofs.Ytnbknhbboofiiaa.fnExactPutBig
