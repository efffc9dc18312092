/- For every input the law FnExactGetHead returns true and its arguments read afterwards as they read before; beside what the row states there is no condition. -/
import Derived.Test.YtblaaiggmhadfaaRows
import Derived.WalkKit
import Derived.ProofKit
import Derived.OpenShut
import Derived.SizedLaws
import Derived.Carry
import Derived.Deep.DeepHandedRow


import Derived.Lib.LaidTab
import Derived.Stop.LaidErr
import Derived.Test.YtblaaiggmhadfaaGetHead
import Derived.Test.YtblaaiggmhadfaaHeadLaw
import Derived.Test.YtblaaiggmhadfaaByteS
import Derived.Test.YtblaaiggmhadfaaArgs

namespace Go.Proofs.Ytblaaiggmhadfaa.fnExactGetHead
open Go.ChangeShapes Go.WideShapes Go.ChangeAt Go.RowKit
open Go.ChangeMaps (open_string shut_string)
set_option linter.unusedVariables false

theorem own : ownKnob Try.prog.godebug = none := by kernel_rfl
theorem laidOut : laidOutB Try.prog = true := by kernel_rfl

theorem walk_long (v : Value) (n : Int) (l : List UInt8) (w : World) (h : Reads w v (bv l)) (hl : 1048576 < l.length) (hm : l.length ≤ maxLen) : Calls Try.prog 6 #[v, .int .i64 n] w fun e w' => e = .returned (.bool true) ∧ Below w.heap.size w w' := by
  unfold maxLen at hm
  obtain ⟨a, cap, rfl, hc⟩ := reads_byte h
  clear hc h
  have hl' : (1048576 : Int) < l.length := by omega
  go_enter Try.func6, Try.ntmps6
  go_wp2
  go_ret
  exact ⟨rfl, Below.refl _ _⟩
set_option maxRecDepth 100000 in
set_option maxHeartbeats 4000000 in
theorem walk (v : Value) (n : Int) (l : List UInt8) (w : World) (h : Reads w v (bv l)) (hl : l.length ≤ 1048576) (hn : n ≤ 9223372036854775807) : Calls Try.prog 6 #[v, .int .i64 n] w fun e w' => e = .returned (.bool true) ∧ Below w.heap.size w w' := by
  have H := Lib.hid h
  obtain ⟨a, cap, rfl, hc⟩ := reads_byte h
  clear hc h
  have hl' : ¬ (1048576 : Int) < l.length := by omega
  have hll : l.length ≤ 1099511627776 := by omega
  have cs0 := (fun (W : World) (g : Nat) (B : Nat) (o : W.ownsRow B 5 1 (.slice (some ⟨g, 0, none⟩) l.length l.length) l.length (bv l)) => gethead_spec W g 0 l.length l n (fun j u hu => own_cells o j u hu) (o.lt g rfl).2 hll)
  have ci0 := (fun (W : World) (g : Nat) (B : Nat) (o : W.ownsRow B 5 1 (.slice (some ⟨g, 0, none⟩) l.length l.length) l.length (bv l)) => gethead_impl W g 0 l.length l n (fun j u hu => own_cells o j u hu) (o.lt g rfl).2 (Nat.le_refl _) (by unfold maxLen; omega) hll hn)
  generalize getHI l n = R at *
  obtain ⟨⟨rk, rn, rw'⟩, rx, rc⟩ := R
  have he1 : ((rx : Int) != rx) = false := by simp
  have he2 : ((rc : Int) != rc) = false := by simp
  have ce0 := (fun w1 => eqhead_same ⟨rk, rn, rw'⟩ w1)
  simp only [HdR.val, Hd.val] at cs0 ci0 ce0
  have CS := Lib.hid cs0
  have CI := Lib.hid ci0
  have CE := Lib.hid ce0
  clear cs0 ci0 ce0
  go_enter Try.func6, Try.ntmps6
  go_wp2_with fail
  refine (toByteS_any _ _ l H.out hll).mono ?_
  rintro e w1 ⟨v1, rfl, rfl, o1, b1⟩
  have cs := CS.out _ _ _ o1
  go_wp2_with fail
  refine cs.mono ?_
  rintro e w2 ⟨rfl, b2⟩
  have B2 := Lib.hid ((b1.trans (b2.mono b1.size)).trans ((below_box w2 (.cells #[.int .i64 rk, .int .i64 rn, .int .i64 rw'] 35)).mono (by have := b1.size; have := b2.size; omega)))
  have X2 := Lib.hid (hb_new w2 ⟨rk, rn, rw'⟩ 35)
  clear b1 b2 o1 cs
  go_wp2_with fail
  refine (toByteS_any _ _ l (H.out.below B2.out) hll).mono ?_
  rintro e w3 ⟨v3, rfl, rfl, o3, b3⟩
  have hsz : (w2.alloc (.cells #[.int .i64 rk, .int .i64 rn, .int .i64 rw'] 35)).heap.size = w2.heap.size + 1 := by simp
  rw [hsz] at o3
  clear hsz
  have B3 := Lib.hid (B2.out.trans (b3.mono B2.out.size))
  have X3 := Lib.hid (X2.out.below b3)
  have O3 := Lib.hid o3
  have ci := CI.out _ _ _ o3
  clear b3 o3
  go_wp2_with fail
  refine ci.mono ?_
  rintro e w4 ⟨rfl, b4⟩
  have B4 := Lib.hid (B3.out.trans (b4.mono B3.out.size))
  have X4 := Lib.hid (X3.out.below b4)
  have O4 := Lib.hid (own_below O3.out b4)
  have bb := below_box w4 (.cells #[.int .i64 rk, .int .i64 rn, .int .i64 rw'] 35)
  have B5 := Lib.hid (B4.out.trans (bb.mono B4.out.size))
  have O5 := Lib.hid (own_below O4.out bb)
  have d0 := X4.out.c0
  have d1 := X4.out.c1
  have d2 := X4.out.c2
  have hlt := X4.out.lt
  simp only at d0 d1 d2
  clear b4 bb ci
  go_wp2_with fail
  refine (CE.out _).mono ?_
  rintro e w6 ⟨rfl, b6⟩
  have B6 := Lib.hid (B5.out.trans (b6.mono B5.out.size))
  have O6 := Lib.hid (own_below O5.out b6)
  clear b6 d0 d1 d2
  go_wp2_with fail
  refine (toByteS_any _ _ l (H.out.below B6.out) hll).mono ?_
  rintro e w7 ⟨v7, rfl, rfl, o7, b7⟩
  have B7 := Lib.hid (B6.out.trans (b7.mono B6.out.size))
  have ce := eqByteS_yes w7 _ _ _ (own_reads (own_below O6.out b7)) (own_reads o7) hll
  clear b7 o7
  go_wp2_with fail
  refine ce.mono ?_
  rintro e w8 ⟨rfl, b8⟩
  have B8 := Lib.hid (B7.out.trans (b8.mono B7.out.size))
  clear b8 ce
  go_wp2
  go_ret
  exact ⟨rfl, B8.out⟩

set_option maxRecDepth 100000 in
theorem contract (H : Type) (enc : TypeId × Value → H) (W : World) (base : Nat) (args : Array Value) (ds gs : List (DataW H)) (before : List MemPlace)
    (hval : ∀ (j : Nat) t v, Try.f6.params[j]? = some t → args[j]? = some v → Value.okWide Try.prog W .any base t v)
    (hW : DataW.Whole enc Try.prog Try.f6.params.toList Rows.fnExactGetHeadSpec.vars false W args.toList ds gs before)
    (hcond : ∀ k, (OpenSpec.ofChange Rows.fnExactGetHeadSpec).cond = some k → k H (ds ++ gs) = true)
    (hsz : (DataW.weightsEach Try.prog (Try.f6.params.toList ++ (OpenSpec.ofChange Rows.fnExactGetHeadSpec).bare.plain.varTypes Try.prog) (ds ++ gs)).all (· ≤ reachBytes) = true)
    (hL : laidMetH Try.prog Rows.fnExactGetHeadRow.laid W) :
    Calls Try.prog 6 args W fun e W' => ∃ v, e = .returned v ∧ Rows.fnExactGetHeadSpec.post enc Try.prog Try.f6 false true false false W args v W' := by
  have hW' := hW
  have hlt := hW'.lt
  obtain ⟨p, q, hA0, hV, rfl, hfz, hnd⟩ := hW
  have hA : DataW.TrodAll enc Try.prog W 0 (fun _ => true) true Try.f6.params.toList args.toList ds p := hA0
  rw [Try.params6] at hA hval hsz
  obtain ⟨v0, vs0, d0, ds0, p0, q0, hargs, rfl, rfl, h0, r0⟩ := trodAll_cons hA
  obtain ⟨v1, vs1, d1, ds1, p1, q1, rfl, rfl, rfl, h1, r1⟩ := trodAll_cons r0
  obtain ⟨rfl, rfl, rfl⟩ := trodAll_nil r1
  obtain rfl : args = #[v0, v1] := by cases args; simp_all
  obtain ⟨rfl, rfl⟩ := trodVars_none hV
  simp only [List.append_nil] at hW' hlt
  have hlt0 : ∀ x ∈ p0, x.block < W.heap.size := fun x hx => hlt x (by simp [hx])
  have hlt1 : ∀ x ∈ p1, x.block < W.heap.size := fun x hx => hlt x (by simp [hx])
  have hk0 := h0
  have hk1 := h1
  obtain ⟨a1, rfl, rfl, rfl, w1⟩ := open_int Try.underlying3 (hval 1 3 v1 rfl rfl) h1
  clear hA0 hA
  have fin : ∀ W' : World, Below W.heap.size W W' → Rows.fnExactGetHeadSpec.post enc Try.prog Try.f6 false true false false W _ (.bool true) W' := fun W' hb =>
    ⟨_, _, _, [], _, [], hW', trodAll_mk1 (shut_bool Try.underlying4 _), (trodAll_cons_mk (Below.trod laidOut (by kernel_rfl) (of_decide_eq_true (by kernel_rfl)) hk0 hb hlt0) (trodAll_cons_mk (Below.trod laidOut (by kernel_rfl) (of_decide_eq_true (by kernel_rfl)) hk1 hb hlt1) trodAll_mk0)), rfl, hb.frame _, fun h => by cases h⟩
  refine Calls.mono (R := fun e w' => e = .returned (.bool true) ∧ Below W.heap.size W w') ?_ (fun e W' h => ⟨_, h.1, fin W' h.2⟩)
  clear fin
  obtain ⟨l, hR, hm⟩ := open_bytes (hval 0 _ v0 rfl rfl) h0
  by_cases hl : 1048576 < l.length
  · exact walk_long v0 a1 l W hR hl hm
  · exact walk v0 a1 l W hR (by omega) (wf_le w1).2

theorem laid_met (os : Os) : laidMet Try.prog Rows.fnExactGetHeadRow.laid (((World.holding Try.prog os ⟨#[], #[], []⟩)).forCall (fun _ _ => 0) ⟨#[], #[.slice none 0 0, .int .i64 0], []⟩).memory :=
  ⟨[], rfl, List.nodup_nil, fun _ _ h => by cases h⟩
theorem reads (os : Os) {H : Type} (enc : TypeId × Value → H) : ∃ places, DataW.whole enc Try.prog (((World.holding Try.prog os ⟨#[], #[], []⟩)).forCall (fun _ _ => 0) ⟨#[], #[.slice none 0 0, .int .i64 0], []⟩).memory Try.f6.params.toList Rows.fnExactGetHeadSpec.vars false (#[.slice none 0 0, .int .i64 0] : Array Value).toList 8 = some ([.nil, .lit (.int .i64 0)], [], places) :=
  ⟨[], by kernel_rfl⟩

set_option maxRecDepth 100000 in
theorem lifted (os : Os) (started : os.Started) (H : Type) (enc : TypeId × Value → H) (F : Stop.Interp) :
    ReturnsInHanded {} Try.checked os 6 .any ((OpenSpec.ofChange Rows.fnExactGetHeadSpec).preRow enc Try.prog Try.f6 Rows.fnExactGetHeadRow.domain false Rows.fnExactGetHeadRow.laid) (((OpenSpec.ofChange Rows.fnExactGetHeadSpec).at F).post enc Try.prog Try.f6 false true false false) := by
  obtain ⟨places, hx⟩ := reads os enc
  refine returnsInHanded_of_row (C := Try.checked) (s := OpenSpec.ofChange Rows.fnExactGetHeadSpec) own started (by kernel_rfl) Try.func6
    (witness_row_at (enc := enc) (C := Try.checked) false (World.holding Try.prog os ⟨#[], #[], []⟩) #[.slice none 0 0, .int .i64 0] rfl (by kernel_rfl) (by kernel_rfl) (by kernel_rfl)
      (OpenSpec.preRow_of_cond 8 hx (by kernel_rfl) (fun k hk => by cases hk) (by kernel_rfl) (laid_met os))) ?_
  intro W base args ds gs before hval hW _ hcond hsz hL _ _
  exact contract H enc W base args ds gs before hval hW hcond hsz hL

theorem said : Rows.FnExactGetHeadSaid :=
  OpenClaim.holds_of_cond 6 Try.f6 rfl rfl rfl rfl rfl rfl rfl ⟨rfl, rfl, rfl, rfl, rfl⟩ rfl rfl rfl rfl rfl (by kernel_rfl) Try.func6 (by kernel_rfl)
    (of_decide_eq_true (by kernel_rfl)) (by unfold Func.isWrapper; first | (rw [if_pos (by decide +kernel)]; kernel_rfl) | (rw [if_neg (by decide +kernel)]; exact ⟨rfl, rfl⟩))
    (fun os started H enc _ F => by rw [OpenClaim.pre_eq_preRow]; exact lifted os started H enc F)

theorem proved : Rows.FnExactGetHeadSaid := said
#print axioms proved
end Go.Proofs.Ytblaaiggmhadfaa.fnExactGetHead
