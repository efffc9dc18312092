/- For every input the law FnEscapes returns true and its arguments read afterwards as they read before; beside what the row states there is no condition. -/
import Derived.Test.YtaelepaogkakmaaDoorCards
import Derived.Test.YtaelepaogkakmaaDoorTie
import Derived.WalkKit
import Derived.ProofKit
import Derived.OpenShut
import Derived.SizedLaws
import Derived.Carry
import Derived.Deep.DeepHandedRow
import Derived.Deep.DeepWitnessRowRef
import Derived.LaidMore
import Derived.Lay
import Derived.Lib.LaidTab
import Derived.Stop.LaidErr
import Derived.Test.YtaelepaogkakmaaDoorReadQuoted
import Derived.Test.YtaelepaogkakmaaDoorQuoteBack
import Derived.Test.YtaelepaogkakmaaDoorDrawQuote
import Derived.Test.YtaelepaogkakmaaDoorCodeName

namespace Go.Proofs.YtaelepaogkakmaaDoor.fnEscapes
open Go.ChangeShapes Go.WideShapes Go.ChangeAt Go.RowKit
open Go.ChangeMaps (open_string shut_string)
set_option linter.unusedVariables false

theorem own : ownKnob Tryd.prog.godebug = none := by kernel_rfl
theorem laidOut : laidOutB Tryd.prog = true := by kernel_rfl

theorem walk_long (a : Option Addr) (len cap : Nat) (w : World) (h : 1048576 < len) (hm : len ≤ maxLen) : Calls Tryd.prog 4 #[.slice a len cap] w fun e w' => e = .returned (.bool true) ∧ Below w.heap.size w w' := by
  have hb := big_yes a len cap w h hm
  go_enter Tryd.func4, Tryd.ntmps4
  go_wp2_with (go_at_call 7; refine hb.mono ?_; rintro e w' ⟨rfl, rfl⟩)
  go_ret
  exact ⟨rfl, Below.refl _ _⟩
theorem four_tuple (l : List UInt8) (a : Int) : ∃ (n : Int) (t : Bool), fourV l a = .tuple #[.int .i64 n, .bool t] := by
  unfold fourV
  split
  · exact ⟨0, false, rfl⟩
  · exact ⟨_, true, rfl⟩
set_option maxHeartbeats 4000000 in
theorem walk (a : Option Addr) (len cap : Nat) (w : World) (hC : CodeAt w a len) (hl : len ≤ 1048576) (hE : Env w) : Calls Tryd.prog 4 #[.slice a len cap] w fun e w' => e = .returned (.bool true) ∧ Below w.heap.size w w' := by
  have hb := big_no a len cap w hl
  have HC := Lib.hid hC
  have HE := Lib.hid hE
  clear hC hE
  go_enter Tryd.func4, Tryd.ntmps4
  go_wp2_with fail
  refine hb.mono ?_
  rintro e w' ⟨rfl, rfl⟩
  clear hb
  go_wp2_with fail
  refine (draw_escapeof a len cap w HC.out hl).mono ?_
  rintro e w1 ⟨n, hn, rfl, b1⟩
  have B1 := Lib.hid b1
  have ce := Lib.hid (fun w => escapeof_impl n w hn.1 hn.2)
  have cs := Lib.hid (fun w => escapeof_spec n w)
  clear b1
  go_wp2_with fail
  refine (ce.out w1).mono ?_
  rintro e w2 ⟨rfl, b2⟩
  have B2 := Lib.hid (B1.out.trans (b2.mono B1.out.size))
  clear b2
  go_wp2_with fail
  refine (draw_readfour a len cap w2 (HC.out.below B2.out) hl).mono ?_
  rintro e w3 ⟨l, i, hll, hi, rfl, b3⟩
  have B3 := Lib.hid (B2.out.trans (b3.mono B2.out.size))
  obtain ⟨_, ts, ps, hS⟩ := HE.out.below B3.out
  have c4 := readfour_impl l i w3 (by omega) hi.1 hi.2 ts ps hS
  have C5 := Lib.hid (fun w => readfour_spec l i w (by omega) hi.1 hi.2)
  obtain ⟨m, t, hr⟩ := four_tuple l i
  rw [hr] at c4
  have C5' := C5.out
  rw [hr] at C5'
  have C6 := Lib.hid C5'
  clear b3 hS hll hi hr C5 C5'
  go_wp2_with fail
  refine c4.mono ?_
  rintro e w4 ⟨rfl, b4⟩
  have B4 := Lib.hid (B3.out.trans (b4.mono B3.out.size))
  clear b4 c4
  go_wp2_with fail
  refine (C6.out w4).mono ?_
  rintro e w5 ⟨rfl, rfl⟩
  go_wp2_with fail
  refine (draw_codename a len cap w4 (HC.out.below B4.out) hl).mono ?_
  rintro e w6 ⟨k, hk, rfl, b6⟩
  have B6 := Lib.hid (B4.out.trans (b6.mono B4.out.size))
  have ck := Lib.hid (fun w => code_impl k w)
  have cq := Lib.hid (fun w => code_spec k w)
  clear b6 hk
  have hEE : (escL n != escL n) = false := by simp
  have hmm : ((m : Int) != m) = false := by simp
  have htt : ((t : Bool) != t) = false := by simp
  have hkk : (codeL k != codeL k) = false := by simp
  generalize codeL k = K at *
  by_cases hok : okR n
  · have CR := Lib.hid (fun w => runeok_impl_yes hok w)
    have HOK := Lib.hid hok
    have hel := escL_len n
    generalize hX : escL n = X at *
    have HX := Lib.hid hX
    clear hX hn hok
    go_wp2_with fail
    refine (cs.out w6).mono ?_
    rintro e w7 ⟨rfl, b7⟩
    have B7 := Lib.hid (B6.out.trans (b7.mono B6.out.size))
    clear b7
    go_wp2_with fail
    refine (ck.out w7).mono ?_
    rintro e w8 ⟨rfl, b8⟩
    have B8 := Lib.hid (B7.out.trans (b8.mono B7.out.size))
    clear b8
    go_wp2_with fail
    refine (cq.out w8).mono ?_
    rintro e w9 ⟨rfl, b9⟩
    have B9 := Lib.hid (B8.out.trans (b9.mono B8.out.size))
    clear b9
    have h1 : ¬ (9223372036854775807 < 1 + X.length) := by omega
    have h2 : ¬ (9223372036854775807 < 1 + X.length + 1) := by omega
    have cr := readquoted_impl (34 :: (X ++ [34])) 0 w9 (by simp; omega) (by omega) (by omega) (HE.out.below B9.out)
    have hrv : readV (34 :: (X ++ [34])) 0 = .tuple #[.string ⟨(encR n).toArray⟩, .int .i64 ((X.length + 2 : Nat) : Int), .int .i64 0] := by
      unfold readV
      rw [← HX.out, one_back HOK.out]
      simp only [flat_one]
    rw [hrv, ← ba_two] at cr
    have CF := Lib.hid (fun w => fromrunes_impl (w.alloc (.cells #[.int .i64 n] 3)) (.slice (some ⟨w.heap.size, 0, none⟩) 1 1) [n] (escapeof_spec.one_reads w n) (by simp))
    have hel4 : (encR n).length ≤ 4 := by rw [encR_len]; rcases wideR_cases n with h | h | h | h | h <;> omega
    have CQ := Lib.hid (fun w => quote_impl (encR n) w (by omega))
    have hq1 := quote_one HOK.out
    rw [HX.out] at hq1
    have CF' := CF.out
    rw [flat_one] at CF'
    have CQ' := CQ.out
    rw [hq1] at CQ'
    have CF2 := Lib.hid CF'
    have CQ2 := Lib.hid CQ'
    clear CF CQ CF' CQ' hq1 hrv
    generalize encR n = Y at *
    have hYY : (Y == Y) = true := by simp
    have hbl := ba_two_list X
    have hlast : (34 :: (X ++ [34]) == 34 :: (X ++ [34])) = true := by simp
    clear hel hel4
    go_wp2_with fail
    refine (CR.out w9).mono ?_
    rintro e w10 ⟨rfl, rfl⟩
    go_wp2_with fail
    refine cr.mono ?_
    rintro e w11 ⟨rfl, b11⟩
    have B11 := Lib.hid (B9.out.trans (b11.mono B9.out.size))
    clear b11 cr
    go_wp2_with fail
    refine (CF2.out w11).mono ?_
    rintro e w12 ⟨rfl, b12⟩
    have B12 := Lib.hid ((B11.out.alloc B11.out.size _).trans (b12.mono (by have := B11.out.size; simp; omega)))
    clear b12
    go_wp2_with fail
    refine (CQ2.out w12).mono ?_
    rintro e w13 ⟨rfl, b13⟩
    have B13 := Lib.hid (B12.out.trans (b13.mono B12.out.size))
    clear b13
    go_wp2
    go_ret
    exact ⟨by simp only [hbl, hlast]; rfl, B13.out⟩
  · have CR := Lib.hid (fun w => runeok_impl_no hok w)
    have e1 : escL n = [] := by
      have hne : escB n = none := by
        cases h : escB n with
        | none => rfl
        | some c => have := escB_ok h; exact absurd (okR_mk (by omega)) hok
      have : ¬ (0 ≤ n ∧ n < 32) := fun g => hok (okR_mk (by omega))
      rw [escL_plain hne this, enc_bad' hok]
    rw [e1]
    have cs' := cs.out
    rw [e1] at cs'
    have CS := Lib.hid cs'
    clear cs' cs ce e1 hn hok hEE
    go_wp2_with fail
    refine (CS.out w6).mono ?_
    rintro e w7 ⟨rfl, b7⟩
    have B7 := Lib.hid (B6.out.trans (b7.mono B6.out.size))
    clear b7
    go_wp2_with fail
    refine (ck.out w7).mono ?_
    rintro e w8 ⟨rfl, b8⟩
    have B8 := Lib.hid (B7.out.trans (b8.mono B7.out.size))
    clear b8
    go_wp2_with fail
    refine (cq.out w8).mono ?_
    rintro e w9 ⟨rfl, b9⟩
    have B9 := Lib.hid (B8.out.trans (b9.mono B8.out.size))
    clear b9
    go_wp2_with fail
    refine (CR.out w9).mono ?_
    rintro e w10 ⟨rfl, rfl⟩
    go_wp2
    go_ret
    exact ⟨rfl, B9.out⟩

set_option maxRecDepth 100000 in
theorem contract (H : Type) (enc : TypeId × Value → H) (W : World) (base : Nat) (args : Array Value) (ds gs : List (DataW H)) (before : List MemPlace)
    (hval : ∀ (j : Nat) t v, Tryd.f4.params[j]? = some t → args[j]? = some v → Value.okWide Tryd.prog W .any base t v)
    (hW : DataW.Whole enc Tryd.prog Tryd.f4.params.toList Rows.fnEscapesSpec.vars false W args.toList ds gs before)
    (hcond : ∀ k, (OpenSpec.ofChange Rows.fnEscapesSpec).cond = some k → k H (ds ++ gs) = true)
    (hsz : (DataW.weightsEach Tryd.prog (Tryd.f4.params.toList ++ (OpenSpec.ofChange Rows.fnEscapesSpec).bare.plain.varTypes Tryd.prog) (ds ++ gs)).all (· ≤ reachBytes) = true)
    (hL : laidMetH Tryd.prog Rows.fnEscapesRow.laid W) :
    Calls Tryd.prog 4 args W fun e W' => ∃ v, e = .returned v ∧ Rows.fnEscapesSpec.post enc Tryd.prog Tryd.f4 false true false false W args v W' := by
  have hW' := hW
  have hlt := hW'.lt
  obtain ⟨p, q, hA0, hV, rfl, hfz, hnd⟩ := hW
  have hA : DataW.TrodAll enc Tryd.prog W 0 (fun _ => true) true Tryd.f4.params.toList args.toList ds p := hA0
  rw [Tryd.params4] at hA hval hsz
  obtain ⟨v0, vs0, d0, ds0, p0, q0, hargs, rfl, rfl, h0, r0⟩ := trodAll_cons hA
  obtain ⟨rfl, rfl, rfl⟩ := trodAll_nil r0
  obtain rfl : args = #[v0] := by cases args; simp_all
  obtain ⟨rfl, rfl⟩ := trodVars_none hV
  simp only [List.append_nil] at hW' hlt
  have hlt0 : ∀ x ∈ p0, x.block < W.heap.size := fun x hx => hlt x (by simp [hx])
  have hk0 := h0
  clear hA0 hA
  have fin : ∀ W' : World, Below W.heap.size W W' → Rows.fnEscapesSpec.post enc Tryd.prog Tryd.f4 false true false false W _ (.bool true) W' := fun W' hb =>
    ⟨_, _, _, [], _, [], hW', trodAll_mk1 (shut_bool Tryd.underlying4 _), (trodAll_cons_mk (Below.trod laidOut (by kernel_rfl) (of_decide_eq_true (by kernel_rfl)) hk0 hb hlt0) trodAll_mk0), rfl, hb.frame _, fun h => by cases h⟩
  refine Calls.mono (R := fun e w' => e = .returned (.bool true) ∧ Below W.heap.size W w') ?_ (fun e W' h => ⟨_, h.1, fin W' h.2⟩)
  clear fin
  rw [MakeChecks.laidMetH_plain _ _ _ (by kernel_rfl)] at hL
  have hEnv := env_of hL
  obtain ⟨a, len, cap, rfl, hC, hm⟩ := open_code (hval 0 _ v0 rfl rfl) h0 hlt0
  by_cases hl : 1048576 < len
  · exact walk_long a len cap W hl hm
  · exact walk a len cap W hC (by omega) hEnv

theorem laid_met (os : Os) : laidMet Tryd.prog Rows.fnEscapesRow.laid (((World.laidAll Tryd.prog os Rows.fnEscapesRow.laid)).forCall (fun _ _ => 0) ⟨#[], #[.slice none 0 0], []⟩).memory :=
  laidMet_laidAll _ (by kernel_rfl) (by kernel_rfl)
theorem reads (os : Os) {H : Type} (enc : TypeId × Value → H) : ∃ places, DataW.whole enc Tryd.prog (((World.laidAll Tryd.prog os Rows.fnEscapesRow.laid)).forCall (fun _ _ => 0) ⟨#[], #[.slice none 0 0], []⟩).memory Tryd.f4.params.toList Rows.fnEscapesSpec.vars false (#[.slice none 0 0] : Array Value).toList 8 = some ([.nil], [], places) :=
  ⟨[], by kernel_rfl⟩

set_option maxRecDepth 100000 in
theorem lifted (os : Os) (started : os.Started) (H : Type) (enc : TypeId × Value → H) (F : Stop.Interp) :
    ReturnsInHanded {} Tryd.checked os 4 .any ((OpenSpec.ofChange Rows.fnEscapesSpec).preRow enc Tryd.prog Tryd.f4 Rows.fnEscapesRow.domain false Rows.fnEscapesRow.laid) (((OpenSpec.ofChange Rows.fnEscapesSpec).at F).post enc Tryd.prog Tryd.f4 false true false false) := by
  obtain ⟨places, hx⟩ := reads os enc
  refine returnsInHanded_of_row (C := Tryd.checked) (s := OpenSpec.ofChange Rows.fnEscapesSpec) own started (by kernel_rfl) Tryd.func4
    (witness_row_atRef (enc := enc) (C := Tryd.checked) false (World.laidAll Tryd.prog os Rows.fnEscapesRow.laid) #[.slice none 0 0] (World.laidAll_os _ _ _) (by kernel_rfl) (by kernel_rfl) (by kernel_rfl)
      (OpenSpec.preRow_of_cond 8 hx (by kernel_rfl) (fun k hk => by cases hk) (by kernel_rfl) (laid_met os))) ?_
  intro W base args ds gs before hval hW _ hcond hsz hL _ _
  exact contract H enc W base args ds gs before hval hW hcond hsz hL

theorem said : Rows.FnEscapesSaid :=
  OpenClaim.holds_of_cond 4 Tryd.f4 rfl rfl rfl rfl rfl rfl rfl ⟨rfl, rfl, rfl, rfl, rfl⟩ rfl rfl rfl rfl rfl (by kernel_rfl) Tryd.func4 (by kernel_rfl)
    (of_decide_eq_true (by kernel_rfl)) (by unfold Func.isWrapper; first | (rw [if_pos (by decide +kernel)]; kernel_rfl) | (rw [if_neg (by decide +kernel)]; exact ⟨rfl, rfl⟩))
    (fun os started H enc _ F => by rw [OpenClaim.pre_eq_preRow]; exact lifted os started H enc F)

theorem plain (f : FuncId) (fn : Func) (hf : Tryd.pinned.checked.prog.funcNamed Rows.fnEscapesRow.func = some f) (hfn : Tryd.pinned.checked.prog.funcs[f]? = some fn) :
    true = Tryd.pinned.checked.prog.looks [] ∧ ∀ (j : Nat) t, fn.params[j]? = some t → Tryd.pinned.checked.prog.wantsStandIn t = false := by
  obtain rfl : f = 4 := Option.some.inj ((show Tryd.prog.funcNamed Rows.fnEscapesRow.func = some 4 by kernel_rfl).symm.trans hf) |>.symm
  obtain rfl : fn = Tryd.f4 := (Option.some.inj (Tryd.func4.symm.trans hfn)).symm
  refine ⟨by kernel_rfl, fun j t ht => ?_⟩
  rw [Tryd.params4] at ht
  have hm : t ∈ [22] := by simpa using Array.mem_of_getElem? ht
  have hall : ([22].all fun u => !Tryd.prog.wantsStandIn u) = true := by kernel_rfl
  exact (show Tryd.prog.wantsStandIn t = false by simpa using List.all_eq_true.1 hall t hm)

theorem proved : Rows.FnEscapesCardSaid :=
  Claim7.holds_tied_plain_at .later [] _ _ _ _ said (fun _ h => by cases h) (by kernel_rfl) (fun _ h => by cases h) fnEscapes_row_tie rfl ⟨rfl, rfl⟩ (by kernel_rfl) rfl plain (by kernel_rfl)
#print axioms proved
end Go.Proofs.YtaelepaogkakmaaDoor.fnEscapes
