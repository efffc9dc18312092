/- For every input the law FnExactGetBig returns true and its arguments read afterwards as they read before; beside what the row states there is no condition. -/
import Derived.Test.YtnbknhbboofiiaaRows
import Derived.WalkKit
import Derived.ProofKit
import Derived.OpenShut
import Derived.SizedLaws
import Derived.Carry
import Derived.Deep.DeepHandedRow


import Derived.Lib.LaidTab
import Derived.Stop.LaidErr
import Derived.Test.YtnbknhbboofiiaaGetBig
import Derived.Test.YtnbknhbboofiiaaByteS
import Derived.Test.YtnbknhbboofiiaaArgs

namespace Go.Proofs.Ytnbknhbboofiiaa.fnExactGetBig
open Go.ChangeShapes Go.WideShapes Go.ChangeAt Go.RowKit
open Go.ChangeMaps (open_string shut_string)
set_option linter.unusedVariables false

theorem own : ownKnob Try.prog.godebug = none := by kernel_rfl
theorem laidOut : laidOutB Try.prog = true := by kernel_rfl

theorem walk_long (v : Value) (n x : Int) (l : List UInt8) (w : World) (h : Reads w v (bv l)) (hl : 1048576 < l.length) (hm : l.length ≤ maxLen) : Calls Try.prog 6 #[v, .int .i64 n, .int .i64 x] w fun e w' => e = .returned (.bool true) ∧ Below w.heap.size w w' := by
  unfold maxLen at hm
  obtain ⟨a, cap, rfl, hc⟩ := reads_byte h
  clear hc h
  have hl' : (1048576 : Int) < l.length := by omega
  go_enter Try.func6, Try.ntmps6
  go_wp2
  go_ret
  exact ⟨rfl, Below.refl _ _⟩
theorem walk (v : Value) (n x : Int) (l : List UInt8) (w : World) (h : Reads w v (bv l)) (hl : l.length ≤ 1048576) (hn : n ≤ 9223372036854775807) : Calls Try.prog 6 #[v, .int .i64 n, .int .i64 x] w fun e w' => e = .returned (.bool true) ∧ Below w.heap.size w w' := by
  have H := Lib.hid h
  have HNN := Lib.hid hn
  obtain ⟨a, cap, rfl, hc⟩ := reads_byte h
  clear hc h hn
  have hl' : ¬ (1048576 : Int) < l.length := by omega
  have hll : l.length ≤ 1099511627776 := by omega
  have hml : l.length ≤ maxLen := by unfold maxLen; omega
  have hr : ((bigR l n x : Int) != bigR l n x) = false := by simp
  have hd : (decide (bigOk l n x) != decide (bigOk l n x)) = false := by simp
  have HT := bigT_eq l n x
  generalize bigR l n x = r at *
  generalize decide (bigOk l n x) = d at *
  have HT := Lib.hid HT
  go_enter Try.func6, Try.ntmps6
  go_wp2_with fail
  refine (toByteS_any _ _ l H.out hll).mono ?_
  rintro e w1 ⟨v1, rfl, rfl, o1, b1⟩
  have cs := getbig_spec w1 _ 0 l.length l n x (fun j u hu => own_cells o1 j u hu) hll
  rw [HT.out] at cs
  go_wp2_with fail
  refine cs.mono ?_
  rintro e w' ⟨rfl, rfl⟩
  clear o1 cs
  go_wp2_with fail
  refine (toByteS_any w1 _ l (H.out.below b1) hll).mono ?_
  rintro e w3 ⟨v3, rfl, rfl, o3, b3⟩
  have b03 := b1.trans (b3.mono b1.size)
  have cg := getbig_impl w3 _ 0 l.length l n x (fun j u hu => own_cells o3 j u hu) (Nat.le_refl _) hml hll HNN.out
  rw [HT.out] at cg
  clear b1 b3
  go_wp2_with fail
  refine cg.mono ?_
  rintro e w' ⟨rfl, rfl⟩
  clear cg
  go_wp2_with fail
  refine (toByteS_any w3 _ l (H.out.below b03) hll).mono ?_
  rintro e w6 ⟨v6, rfl, rfl, o6, b6⟩
  have b06 := b03.trans (b6.mono b03.size)
  have p3 := own_below o3 b6
  have ce := eqByteS_yes w6 _ _ _ (own_reads p3) (own_reads o6) hll
  clear o3 b03 b6 o6 p3
  go_wp2_with fail
  refine ce.mono ?_
  rintro e w7 ⟨rfl, b7⟩
  have b07 := b06.trans (b7.mono b06.size)
  clear ce b06 b7
  go_wp2
  go_ret
  exact ⟨rfl, b07⟩

theorem contract (H : Type) (enc : TypeId × Value → H) (W : World) (base : Nat) (args : Array Value) (ds gs : List (DataW H)) (before : List MemPlace)
    (hval : ∀ (j : Nat) t v, Try.f6.params[j]? = some t → args[j]? = some v → Value.okWide Try.prog W .any base t v)
    (hW : DataW.Whole enc Try.prog Try.f6.params.toList Rows.fnExactGetBigSpec.vars false W args.toList ds gs before)
    (hcond : ∀ k, (OpenSpec.ofChange Rows.fnExactGetBigSpec).cond = some k → k H (ds ++ gs) = true)
    (hsz : (DataW.weightsEach Try.prog (Try.f6.params.toList ++ (OpenSpec.ofChange Rows.fnExactGetBigSpec).bare.plain.varTypes Try.prog) (ds ++ gs)).all (· ≤ reachBytes) = true)
    (hL : laidMetH Try.prog Rows.fnExactGetBigRow.laid W) :
    Calls Try.prog 6 args W fun e W' => ∃ v, e = .returned v ∧ Rows.fnExactGetBigSpec.post enc Try.prog Try.f6 false true false false W args v W' := by
  have hW' := hW
  have hlt := hW'.lt
  obtain ⟨p, q, hA0, hV, rfl, hfz, hnd⟩ := hW
  have hA : DataW.TrodAll enc Try.prog W 0 (fun _ => true) true Try.f6.params.toList args.toList ds p := hA0
  rw [Try.params6] at hA hval hsz
  obtain ⟨v0, vs0, d0, ds0, p0, q0, hargs, rfl, rfl, h0, r0⟩ := trodAll_cons hA
  obtain ⟨v1, vs1, d1, ds1, p1, q1, rfl, rfl, rfl, h1, r1⟩ := trodAll_cons r0
  obtain ⟨v2, vs2, d2, ds2, p2, q2, rfl, rfl, rfl, h2, r2⟩ := trodAll_cons r1
  obtain ⟨rfl, rfl, rfl⟩ := trodAll_nil r2
  obtain rfl : args = #[v0, v1, v2] := by cases args; simp_all
  obtain ⟨rfl, rfl⟩ := trodVars_none hV
  simp only [List.append_nil] at hW' hlt
  have hlt0 : ∀ x ∈ p0, x.block < W.heap.size := fun x hx => hlt x (by simp [hx])
  have hlt1 : ∀ x ∈ p1, x.block < W.heap.size := fun x hx => hlt x (by simp [hx])
  have hlt2 : ∀ x ∈ p2, x.block < W.heap.size := fun x hx => hlt x (by simp [hx])
  have hk0 := h0
  have hk1 := h1
  have hk2 := h2
  obtain ⟨a1, rfl, rfl, rfl, w1⟩ := open_int Try.underlying3 (hval 1 3 v1 rfl rfl) h1
  obtain ⟨a2, rfl, rfl, rfl, w2⟩ := open_int Try.underlying3 (hval 2 3 v2 rfl rfl) h2
  clear hA0 hA
  have fin : ∀ W' : World, Below W.heap.size W W' → Rows.fnExactGetBigSpec.post enc Try.prog Try.f6 false true false false W _ (.bool true) W' := fun W' hb =>
    ⟨_, _, _, [], _, [], hW', trodAll_mk1 (shut_bool Try.underlying4 _), (trodAll_cons_mk (Below.trod laidOut (by kernel_rfl) (of_decide_eq_true (by kernel_rfl)) hk0 hb hlt0) (trodAll_cons_mk (Below.trod laidOut (by kernel_rfl) (of_decide_eq_true (by kernel_rfl)) hk1 hb hlt1) (trodAll_cons_mk (Below.trod laidOut (by kernel_rfl) (of_decide_eq_true (by kernel_rfl)) hk2 hb hlt2) trodAll_mk0))), rfl, hb.frame _, fun h => by cases h⟩
  refine Calls.mono (R := fun e w' => e = .returned (.bool true) ∧ Below W.heap.size W w') ?_ (fun e W' h => ⟨_, h.1, fin W' h.2⟩)
  clear fin
  obtain ⟨l, hR, hm⟩ := open_bytes (hval 0 _ v0 rfl rfl) h0
  by_cases hl : 1048576 < l.length
  · exact walk_long v0 a1 a2 l W hR hl hm
  · exact walk v0 a1 a2 l W hR (by omega) (wf_le w1).2

theorem laid_met (os : Os) : laidMet Try.prog Rows.fnExactGetBigRow.laid (((World.holding Try.prog os ⟨#[], #[], []⟩)).forCall (fun _ _ => 0) ⟨#[], #[.slice none 0 0, .int .i64 0, .int .i64 0], []⟩).memory :=
  ⟨[], rfl, List.nodup_nil, fun _ _ h => by cases h⟩
theorem reads (os : Os) {H : Type} (enc : TypeId × Value → H) : ∃ places, DataW.whole enc Try.prog (((World.holding Try.prog os ⟨#[], #[], []⟩)).forCall (fun _ _ => 0) ⟨#[], #[.slice none 0 0, .int .i64 0, .int .i64 0], []⟩).memory Try.f6.params.toList Rows.fnExactGetBigSpec.vars false (#[.slice none 0 0, .int .i64 0, .int .i64 0] : Array Value).toList 8 = some ([.nil, .lit (.int .i64 0), .lit (.int .i64 0)], [], places) :=
  ⟨[], by kernel_rfl⟩

set_option maxRecDepth 100000 in
theorem lifted (os : Os) (started : os.Started) (H : Type) (enc : TypeId × Value → H) (F : Stop.Interp) :
    ReturnsInHanded {} Try.checked os 6 .any ((OpenSpec.ofChange Rows.fnExactGetBigSpec).preRow enc Try.prog Try.f6 Rows.fnExactGetBigRow.domain false Rows.fnExactGetBigRow.laid) (((OpenSpec.ofChange Rows.fnExactGetBigSpec).at F).post enc Try.prog Try.f6 false true false false) := by
  obtain ⟨places, hx⟩ := reads os enc
  refine returnsInHanded_of_row (C := Try.checked) (s := OpenSpec.ofChange Rows.fnExactGetBigSpec) own started (by kernel_rfl) Try.func6
    (witness_row_at (enc := enc) (C := Try.checked) false (World.holding Try.prog os ⟨#[], #[], []⟩) #[.slice none 0 0, .int .i64 0, .int .i64 0] rfl (by kernel_rfl) (by kernel_rfl) (by kernel_rfl)
      (OpenSpec.preRow_of_cond 8 hx (by kernel_rfl) (fun k hk => by cases hk) (by kernel_rfl) (laid_met os))) ?_
  intro W base args ds gs before hval hW _ hcond hsz hL _ _
  exact contract H enc W base args ds gs before hval hW hcond hsz hL

theorem said : Rows.FnExactGetBigSaid :=
  OpenClaim.holds_of_cond 6 Try.f6 rfl rfl rfl rfl rfl rfl rfl ⟨rfl, rfl, rfl, rfl, rfl⟩ rfl rfl rfl rfl rfl (by kernel_rfl) Try.func6 (by kernel_rfl)
    (of_decide_eq_true (by kernel_rfl)) (by unfold Func.isWrapper; first | (rw [if_pos (by decide +kernel)]; kernel_rfl) | (rw [if_neg (by decide +kernel)]; exact ⟨rfl, rfl⟩))
    (fun os started H enc _ F => by rw [OpenClaim.pre_eq_preRow]; exact lifted os started H enc F)

theorem proved : Rows.FnExactGetBigSaid := said
#print axioms proved
end Go.Proofs.Ytnbknhbboofiiaa.fnExactGetBig
