/- For every input the law FnBits returns true and its arguments read afterwards as they read before; beside what the row states there is no condition. -/
import Derived.Test.YtblaaiggmhadfaaRows
import Derived.WalkKit
import Derived.ProofKit
import Derived.OpenShut
import Derived.SizedLaws
import Derived.Carry
import Derived.Deep.DeepHandedRow


import Derived.Lib.LaidTab
import Derived.Stop.LaidErr
import Derived.Test.YtblaaiggmhadfaaDrawBits
import Derived.Test.YtblaaiggmhadfaaBitsFlt
import Derived.Test.YtblaaiggmhadfaaFltEq

namespace Go.Proofs.Ytblaaiggmhadfaa.fnBits
open Go.ChangeShapes Go.WideShapes Go.ChangeAt Go.RowKit
open Go.ChangeMaps (open_string shut_string)
set_option linter.unusedVariables false

theorem own : ownKnob Try.prog.godebug = none := by kernel_rfl
theorem laidOut : laidOutB Try.prog = true := by kernel_rfl

theorem walk_long (a : Option Addr) (len cap : Nat) (w : World) (h : 1048576 < len) (hm : len ≤ maxLen) : Calls Try.prog 3 #[.slice a len cap] w fun e w' => e = .returned (.bool true) ∧ Below w.heap.size w w' := by
  have hb := big_yes a len cap w h hm
  go_enter Try.func3, Try.ntmps3
  go_wp2_with (go_at_call 9; refine hb.mono ?_; rintro e w' ⟨rfl, rfl⟩)
  go_ret
  exact ⟨rfl, Below.refl _ _⟩
/-- a number in a box -/
def FB (w : World) (b : Nat) (m e : Int) : Prop := w.cell? ⟨b, 0, none⟩ = some (.int .i64 m) ∧ w.cell? ⟨b, 1, none⟩ = some (.int .i64 e)
theorem FB.below {w w' : World} {b : Nat} {m e : Int} (h : FB w b m e) (hb : Below w.heap.size w w') : FB w' b m e :=
  ⟨(hb.cell (p := ⟨b, 0, none⟩) (cell_lt h.1)).trans h.1, (hb.cell (p := ⟨b, 1, none⟩) (cell_lt h.2)).trans h.2⟩
theorem fb_new (w : World) (m e : Int) (t : TypeId) : FB (w.alloc (.cells #[.int .i64 m, .int .i64 e] t)) w.heap.size m e := ⟨by simp [go_sem], by simp [go_sem]⟩
theorem FB.lt {w : World} {b : Nat} {m e : Int} (h : FB w b m e) : b < w.heap.size := cell_lt h.1
set_option maxRecDepth 100000 in
set_option maxHeartbeats 4000000 in
theorem walk (a : Option Addr) (len cap : Nat) (w : World) (hC : CodeAt w a len) (hl : len ≤ 1048576) : Calls Try.prog 3 #[.slice a len cap] w fun e w' => e = .returned (.bool true) ∧ Below w.heap.size w w' := by
  have hb := big_no a len cap w hl
  have HC := Lib.hid hC
  clear hC
  go_enter Try.func3, Try.ntmps3
  go_wp2_with fail
  refine hb.mono ?_
  rintro e w' ⟨rfl, rfl⟩
  clear hb
  go_wp2_with fail
  refine (drawfltbits_any a len cap w HC.out hl).mono ?_
  rintro e w1 ⟨m, x, ⟨m0, m1, x0, x1⟩, rfl, b1⟩
  have B1 := Lib.hid (b1.trans ((fbox w1 (.cells #[.int .i64 m, .int .i64 x] 25)).mono b1.size))
  have F1 := Lib.hid (fb_new w1 m x 25)
  have hwm : inW m := ⟨by omega, by omega⟩
  have hwx : inW x := ⟨by omega, by omega⟩
  have CI := Lib.hid (fun W => fltbits_impl m x W hwm hwx)
  have CS := Lib.hid (fun W => fltbits_spec m x W hwm hwx)
  have CK := Lib.hid (fun W => fltok_impl m x W hwm.1 hwm.2 hwx.1 hwx.2)
  clear b1 m0 m1 x0 x1 hwm hwx
  go_wp2_with fail
  refine (drawbitsflt_any a len cap _ (HC.out.below B1.out) hl).mono ?_
  rintro e w2 ⟨n, hn, rfl, b2⟩
  have B2 := Lib.hid (B1.out.trans (b2.mono B1.out.size))
  have F2 := Lib.hid (F1.out.below b2)
  clear b2 hn
  go_wp2_with fail
  refine (bitsflt_impl n w2).mono ?_
  rintro e w3 ⟨N, X, ok, rfl, hN, b3⟩
  have B3 := Lib.hid ((B2.out.trans (b3.mono B2.out.size)).trans ((fbox w3 (.cells #[.int .i64 N, .int .i64 X] 25)).mono (by have := B2.out.size; have := b3.size; omega)))
  have F3 := Lib.hid ((F2.out.below b3).below (fbox w3 (.cells #[.int .i64 N, .int .i64 X] 25)))
  have G3 := Lib.hid (fb_new w3 N X 25)
  have HN := Lib.hid hN
  clear b3 hN
  go_wp2_with fail
  refine (bitsflt_spec n _).mono ?_
  rintro e w4 ⟨N2, X2, ok2, rfl, hN2, b4⟩
  obtain ⟨rfl, rfl, rfl⟩ := isBits_uniq HN.out hN2
  have B4 := Lib.hid ((B3.out.trans (b4.mono B3.out.size)).trans ((fbox w4 (.cells #[.int .i64 N2, .int .i64 X2] 25)).mono (by have := B3.out.size; have := b4.size; omega)))
  have F4 := Lib.hid ((F3.out.below b4).below (fbox w4 (.cells #[.int .i64 N2, .int .i64 X2] 25)))
  have G4 := Lib.hid ((G3.out.below b4).below (fbox w4 (.cells #[.int .i64 N2, .int .i64 X2] 25)))
  have H4 := Lib.hid (fb_new w4 N2 X2 25)
  have hokN : ok2 = true → fltOk N2 X2 = true := fun h => by
    have hh := HN.out
    unfold IsBits at hh
    split at hh
    · exact isFlt_okAll hh
    · exact absurd (hh.2.2.symm.trans h) (by decide)
  have HOK := Lib.hid hokN
  clear b4 hN2 hokN HN
  obtain ⟨f0, f1⟩ := F4.out
  have hltf := F4.out.lt
  have HV := Lib.hid (fun h : fltOk m x = true => (show IsBits (fltBits m x) m x true ∧ 0 ≤ fltBits m x ∧ fltBits m x < 33554432 from by
    have q := bits_back h
    refine ⟨?_, q.1, q.2.1⟩
    unfold IsBits
    rw [if_pos ⟨q.1, by omega⟩]
    exact bits_new h))
  have HU := Lib.hid (fun h : fltOk m x = false => fltBits_no h)
  obtain ⟨bb, hbb⟩ : ∃ bb, bb = fltBits m x := ⟨_, rfl⟩
  rw [← hbb] at CI CS HV HU
  clear hbb
  have hbn : (bb != bb) = false := by simp
  have hgn := fun x y xs ys w => run_eqGuard_agg (P := Try.prog) w .neq 25 x y xs ys (by kernel_rfl)
  have hge := fun x y xs ys w => run_eqGuard_agg (P := Try.prog) w .eql 25 x y xs ys (by kernel_rfl)
  have hq1 := fun w => flt_neq N2 X2 N2 X2 w
  have hq2 := fun w => flt_eql m x m x w
  rw [show (N2 == N2 && X2 == X2) = true by simp] at hq1
  rw [show (m == m && x == x) = true by simp] at hq2
  have hoo : (ok2 != ok2) = false := by simp
  go_wp2_with fail
  refine (CI.out _).mono ?_
  rintro e w5 ⟨rfl, b5⟩
  have B5 := Lib.hid (B4.out.trans (b5.mono B4.out.size))
  have F5 := Lib.hid (F4.out.below b5)
  have G5 := Lib.hid (G4.out.below b5)
  have H5 := Lib.hid (H4.out.below b5)
  clear b5 f0 f1 hltf
  obtain ⟨f0, f1⟩ := F5.out
  go_wp2_with fail
  refine (CS.out _).mono ?_
  rintro e w6 ⟨rfl, b6⟩
  have B6 := Lib.hid (B5.out.trans (b6.mono B5.out.size))
  have F6 := Lib.hid (F5.out.below b6)
  have G6 := Lib.hid (G5.out.below b6)
  have H6 := Lib.hid (H5.out.below b6)
  clear b6 f0 f1
  obtain ⟨f0, f1⟩ := F6.out
  obtain ⟨g0, g1⟩ := G6.out
  obtain ⟨h0, h1⟩ := H6.out
  cases ok2
  · have BX := B6
    have FX := F6
    clear g0 g1 h0 h1
    obtain ⟨g0, g1⟩ := G6.out
    obtain ⟨h0, h1⟩ := H6.out
    cases hok : fltOk m x
    · have CK2 := fun W => CK.out W
      rw [hok] at CK2
      have hb1 := HU.out hok
      subst hb1
      go_wp2_with fail
      refine (CK2 _).mono ?_
      rintro e w8 ⟨rfl, b8⟩
      have B8 := Lib.hid (BX.out.trans (b8.mono BX.out.size))
      clear b8
      go_wp2
      go_ret
      exact ⟨rfl, B8.out⟩
    · have CK2 := fun W => CK.out W
      rw [hok] at CK2
      obtain ⟨hbits, hb0, hb1⟩ := HV.out hok
      have HBT := Lib.hid hbits
      clear hbits
      go_wp2_with fail
      refine (CK2 _).mono ?_
      rintro e w8 ⟨rfl, b8⟩
      have B8 := Lib.hid (BX.out.trans (b8.mono BX.out.size))
      have F8 := Lib.hid (FX.out.below b8)
      clear b8
      go_wp2_with fail
      refine (bitsflt_impl bb w8).mono ?_
      rintro e w9 ⟨N9, X9, ok9, rfl, hN9, b9⟩
      obtain ⟨rfl, rfl, rfl⟩ := isBits_uniq hN9 HBT.out
      have B9 := Lib.hid (B8.out.trans (b9.mono B8.out.size))
      have B10 := Lib.hid (B9.out.trans ((fbox w9 (.cells #[.int .i64 m, .int .i64 x] 25)).mono B9.out.size))
      have F9 := Lib.hid (F8.out.below b9)
      obtain ⟨k0, k1⟩ := F9.out
      have kl := F9.out.lt
      clear b9 hN9
      go_wp2
      go_ret
      exact ⟨by simp, B10.out⟩
  · have CG := fun W => fltok_impl N2 X2 W
    rw [HOK.out rfl] at CG
    have hr := fltOk_range (HOK.out rfl)
    have CG2 := Lib.hid (fun W => CG W (by omega) (by omega) (by omega) (by omega))
    clear CG hr
    go_wp2_with fail
    refine (CG2.out _).mono ?_
    rintro e w7 ⟨rfl, b7⟩
    have BX := Lib.hid (B6.out.trans (b7.mono B6.out.size))
    have FX := Lib.hid (F6.out.below b7)
    clear b7 f0 f1 g0 g1 h0 h1
    obtain ⟨f0, f1⟩ := FX.out
    cases hok : fltOk m x
    · have CK2 := fun W => CK.out W
      rw [hok] at CK2
      have hb1 := HU.out hok
      subst hb1
      go_wp2_with fail
      refine (CK2 _).mono ?_
      rintro e w8 ⟨rfl, b8⟩
      have B8 := Lib.hid (BX.out.trans (b8.mono BX.out.size))
      clear b8
      go_wp2
      go_ret
      exact ⟨rfl, B8.out⟩
    · have CK2 := fun W => CK.out W
      rw [hok] at CK2
      obtain ⟨hbits, hb0, hb1⟩ := HV.out hok
      have HBT := Lib.hid hbits
      clear hbits
      go_wp2_with fail
      refine (CK2 _).mono ?_
      rintro e w8 ⟨rfl, b8⟩
      have B8 := Lib.hid (BX.out.trans (b8.mono BX.out.size))
      have F8 := Lib.hid (FX.out.below b8)
      clear b8
      go_wp2_with fail
      refine (bitsflt_impl bb w8).mono ?_
      rintro e w9 ⟨N9, X9, ok9, rfl, hN9, b9⟩
      obtain ⟨rfl, rfl, rfl⟩ := isBits_uniq hN9 HBT.out
      have B9 := Lib.hid (B8.out.trans (b9.mono B8.out.size))
      have B10 := Lib.hid (B9.out.trans ((fbox w9 (.cells #[.int .i64 m, .int .i64 x] 25)).mono B9.out.size))
      have F9 := Lib.hid (F8.out.below b9)
      obtain ⟨k0, k1⟩ := F9.out
      have kl := F9.out.lt
      clear b9 hN9
      go_wp2
      go_ret
      exact ⟨by simp, B10.out⟩

set_option maxRecDepth 100000 in
theorem contract (H : Type) (enc : TypeId × Value → H) (W : World) (base : Nat) (args : Array Value) (ds gs : List (DataW H)) (before : List MemPlace)
    (hval : ∀ (j : Nat) t v, Try.f3.params[j]? = some t → args[j]? = some v → Value.okWide Try.prog W .any base t v)
    (hW : DataW.Whole enc Try.prog Try.f3.params.toList Rows.fnBitsSpec.vars false W args.toList ds gs before)
    (hcond : ∀ k, (OpenSpec.ofChange Rows.fnBitsSpec).cond = some k → k H (ds ++ gs) = true)
    (hsz : (DataW.weightsEach Try.prog (Try.f3.params.toList ++ (OpenSpec.ofChange Rows.fnBitsSpec).bare.plain.varTypes Try.prog) (ds ++ gs)).all (· ≤ reachBytes) = true)
    (hL : laidMetH Try.prog Rows.fnBitsRow.laid W) :
    Calls Try.prog 3 args W fun e W' => ∃ v, e = .returned v ∧ Rows.fnBitsSpec.post enc Try.prog Try.f3 false true false false W args v W' := by
  have hW' := hW
  have hlt := hW'.lt
  obtain ⟨p, q, hA0, hV, rfl, hfz, hnd⟩ := hW
  have hA : DataW.TrodAll enc Try.prog W 0 (fun _ => true) true Try.f3.params.toList args.toList ds p := hA0
  rw [Try.params3] at hA hval hsz
  obtain ⟨v0, vs0, d0, ds0, p0, q0, hargs, rfl, rfl, h0, r0⟩ := trodAll_cons hA
  obtain ⟨rfl, rfl, rfl⟩ := trodAll_nil r0
  obtain rfl : args = #[v0] := by cases args; simp_all
  obtain ⟨rfl, rfl⟩ := trodVars_none hV
  simp only [List.append_nil] at hW' hlt
  have hlt0 : ∀ x ∈ p0, x.block < W.heap.size := fun x hx => hlt x (by simp [hx])
  have hk0 := h0
  clear hA0 hA
  have fin : ∀ W' : World, Below W.heap.size W W' → Rows.fnBitsSpec.post enc Try.prog Try.f3 false true false false W _ (.bool true) W' := fun W' hb =>
    ⟨_, _, _, [], _, [], hW', trodAll_mk1 (shut_bool Try.underlying4 _), (trodAll_cons_mk (Below.trod laidOut (by kernel_rfl) (of_decide_eq_true (by kernel_rfl)) hk0 hb hlt0) trodAll_mk0), rfl, hb.frame _, fun h => by cases h⟩
  refine Calls.mono (R := fun e w' => e = .returned (.bool true) ∧ Below W.heap.size W w') ?_ (fun e W' h => ⟨_, h.1, fin W' h.2⟩)
  clear fin
  obtain ⟨a, len, cap, rfl, hC, hm⟩ := open_code (hval 0 _ v0 rfl rfl) h0 hlt0
  by_cases hl : 1048576 < len
  · exact walk_long a len cap W hl hm
  · exact walk a len cap W hC (by omega)

theorem laid_met (os : Os) : laidMet Try.prog Rows.fnBitsRow.laid (((World.holding Try.prog os ⟨#[], #[], []⟩)).forCall (fun _ _ => 0) ⟨#[], #[.slice none 0 0], []⟩).memory :=
  ⟨[], rfl, List.nodup_nil, fun _ _ h => by cases h⟩
theorem reads (os : Os) {H : Type} (enc : TypeId × Value → H) : ∃ places, DataW.whole enc Try.prog (((World.holding Try.prog os ⟨#[], #[], []⟩)).forCall (fun _ _ => 0) ⟨#[], #[.slice none 0 0], []⟩).memory Try.f3.params.toList Rows.fnBitsSpec.vars false (#[.slice none 0 0] : Array Value).toList 8 = some ([.nil], [], places) :=
  ⟨[], by kernel_rfl⟩

set_option maxRecDepth 100000 in
theorem lifted (os : Os) (started : os.Started) (H : Type) (enc : TypeId × Value → H) (F : Stop.Interp) :
    ReturnsInHanded {} Try.checked os 3 .any ((OpenSpec.ofChange Rows.fnBitsSpec).preRow enc Try.prog Try.f3 Rows.fnBitsRow.domain false Rows.fnBitsRow.laid) (((OpenSpec.ofChange Rows.fnBitsSpec).at F).post enc Try.prog Try.f3 false true false false) := by
  obtain ⟨places, hx⟩ := reads os enc
  refine returnsInHanded_of_row (C := Try.checked) (s := OpenSpec.ofChange Rows.fnBitsSpec) own started (by kernel_rfl) Try.func3
    (witness_row_at (enc := enc) (C := Try.checked) false (World.holding Try.prog os ⟨#[], #[], []⟩) #[.slice none 0 0] rfl (by kernel_rfl) (by kernel_rfl) (by kernel_rfl)
      (OpenSpec.preRow_of_cond 8 hx (by kernel_rfl) (fun k hk => by cases hk) (by kernel_rfl) (laid_met os))) ?_
  intro W base args ds gs before hval hW _ hcond hsz hL _ _
  exact contract H enc W base args ds gs before hval hW hcond hsz hL

theorem said : Rows.FnBitsSaid :=
  OpenClaim.holds_of_cond 3 Try.f3 rfl rfl rfl rfl rfl rfl rfl ⟨rfl, rfl, rfl, rfl, rfl⟩ rfl rfl rfl rfl rfl (by kernel_rfl) Try.func3 (by kernel_rfl)
    (of_decide_eq_true (by kernel_rfl)) (by unfold Func.isWrapper; first | (rw [if_pos (by decide +kernel)]; kernel_rfl) | (rw [if_neg (by decide +kernel)]; exact ⟨rfl, rfl⟩))
    (fun os started H enc _ F => by rw [OpenClaim.pre_eq_preRow]; exact lifted os started H enc F)

theorem proved : Rows.FnBitsSaid := said
#print axioms proved
end Go.Proofs.Ytblaaiggmhadfaa.fnBits
