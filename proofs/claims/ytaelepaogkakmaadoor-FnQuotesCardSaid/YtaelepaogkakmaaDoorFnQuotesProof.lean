/- For every input the law FnQuotes returns true and its arguments read afterwards as they read before; beside what the row states there is no condition. -/
import Derived.Test.YtaelepaogkakmaaDoorCards
import Derived.Test.YtaelepaogkakmaaDoorTie
import Derived.WalkKit
import Derived.ProofKit
import Derived.OpenShut
import Derived.SizedLaws
import Derived.Carry
import Derived.Deep.DeepHandedRow
import Derived.Deep.DeepWitnessRowRef
import Derived.LaidMore
import Derived.Lay
import Derived.Lib.LaidTab
import Derived.Stop.LaidErr
import Derived.Test.YtaelepaogkakmaaDoorReadQuoted
import Derived.Test.YtaelepaogkakmaaDoorQuoteBack
import Derived.Test.YtaelepaogkakmaaDoorDrawQuote

namespace Go.Proofs.YtaelepaogkakmaaDoor.fnQuotes
open Go.ChangeShapes Go.WideShapes Go.ChangeAt Go.RowKit
open Go.ChangeMaps (open_string shut_string)
set_option linter.unusedVariables false

theorem own : ownKnob Tryd.prog.godebug = none := by kernel_rfl
theorem laidOut : laidOutB Tryd.prog = true := by kernel_rfl

theorem walk_long (a : Option Addr) (len cap : Nat) (w : World) (h : 1048576 < len) (hm : len ≤ maxLen) : Calls Tryd.prog 3 #[.slice a len cap] w fun e w' => e = .returned (.bool true) ∧ Below w.heap.size w w' := by
  have hb := big_yes a len cap w h hm
  go_enter Tryd.func3, Tryd.ntmps3
  go_wp2_with (go_at_call 7; refine hb.mono ?_; rintro e w' ⟨rfl, rfl⟩)
  go_ret
  exact ⟨rfl, Below.refl _ _⟩
theorem readV_cases (l : List UInt8) (a : Int) (hl : l.length ≤ 1073741824) : (∃ (q : List UInt8) (e : Nat), (runes q).isSome = true ∧ q.length ≤ 4294967296 ∧ readV l a = .tuple #[.string ⟨q.toArray⟩, .int .i64 e, .int .i64 0]) ∨ readV l a = .tuple #[.string ⟨#[]⟩, .int .i64 0, .int .i64 1] := by
  cases h : readQ l a with
  | none => right; unfold readV; rw [h]
  | some p =>
    obtain ⟨rs, e⟩ := p
    refine .inl ⟨flat rs, e, flat_text rs, ?_, by unfold readV; rw [h]⟩
    have hf := flat_len rs
    have : rs.length ≤ l.length := by
      unfold readQ at h
      split at h
      · have := readAt_ok _ l _ e rs (Nat.le_refl _) h
        omega
      · cases h
    omega
theorem ba_x (q : List UInt8) : (ByteArray.mk q.toArray) ++ (ByteArray.mk #[120]) = ByteArray.mk (q ++ [120]).toArray := by
  apply ByteArray.ext; simp
set_option maxHeartbeats 4000000 in
theorem walk (a : Option Addr) (len cap : Nat) (w : World) (hC : CodeAt w a len) (hl : len ≤ 1048576) (hE : Env w) : Calls Tryd.prog 3 #[.slice a len cap] w fun e w' => e = .returned (.bool true) ∧ Below w.heap.size w w' := by
  have hb := big_no a len cap w hl
  have HC := Lib.hid hC
  have HE := Lib.hid hE
  clear hC hE
  go_enter Tryd.func3, Tryd.ntmps3
  go_wp2_with fail
  refine hb.mono ?_
  rintro e w' ⟨rfl, rfl⟩
  clear hb
  go_wp2_with fail
  refine (draw_quote a len cap w HC.out hl).mono ?_
  rintro e w1 ⟨s, hs, rfl, b1⟩
  have B1 := Lib.hid b1
  have cq := Lib.hid (fun w => quote_impl s w (by omega))
  have cs := Lib.hid (fun w => quote_spec s w (by omega))
  have HS := Lib.hid hs
  clear b1
  go_wp2_with fail
  refine (cq.out w1).mono ?_
  rintro e w2 ⟨rfl, b2⟩
  have B2 := Lib.hid (B1.out.trans (b2.mono B1.out.size))
  clear b2
  go_wp2_with fail
  refine (draw_readq a len cap w2 (HC.out.below B2.out) hl).mono ?_
  rintro e w3 ⟨l, i, hll, hi, rfl, b3⟩
  have B3 := Lib.hid (B2.out.trans (b3.mono B2.out.size))
  have c4 := readquoted_impl l i w3 (by omega) hi.1 hi.2 (HE.out.below B3.out)
  have C5 := Lib.hid (fun w => readquoted_spec l i w (by omega) hi.1 hi.2)
  have hcase := readV_cases l i (by omega)
  clear b3 hi
  obtain ⟨t, n, m, hr, hmm, htq⟩ : ∃ (t : List UInt8) (n m : Int), readV l i = .tuple #[.string ⟨t.toArray⟩, .int .i64 n, .int .i64 m] ∧ (m = 0 ∨ m = 1) ∧ (m = 0 → (runes t).isSome = true ∧ t.length ≤ 4294967296) := by
    rcases hcase with ⟨q, e, h1, h2, h3⟩ | h3
    · exact ⟨q, e, 0, h3, .inl rfl, fun _ => ⟨h1, h2⟩⟩
    · exact ⟨[], 0, 1, h3, .inr rfl, fun h => by cases h⟩
  have C5' := C5.out
  rw [hr] at c4 C5'
  have C6 := Lib.hid C5'
  clear C5 C5' hcase hr hll
  have hn1 : ((n : Int) != n) = false := by simp
  have hm1 : ((m : Int) != m) = false := by simp
  have ht1 : ((t : List UInt8) != t) = false := by simp
  go_wp2_with fail
  refine c4.mono ?_
  rintro e w4 ⟨rfl, b4⟩
  have B4 := Lib.hid (B3.out.trans (b4.mono B3.out.size))
  clear b4 c4
  go_wp2_with fail
  refine (C6.out w4).mono ?_
  rintro e w5 ⟨rfl, b5⟩
  have B5 := Lib.hid (B4.out.trans (b5.mono B4.out.size))
  clear b5
  go_wp2_with fail
  refine (draw_bare a len cap w5 (HC.out.below B5.out) hl).mono ?_
  rintro e w6 ⟨b, hbl, rfl, b6⟩
  have B6 := Lib.hid (B5.out.trans (b6.mono B5.out.size))
  have cb := Lib.hid (fun w => bare_impl b w (by omega))
  have cb2 := Lib.hid (fun w => bare_spec b w (by omega))
  have hbb : (bareB b != bareB b) = false := by simp
  generalize bareB b = bb at *
  have hqq : (quoteL s != quoteL s) = false := by simp
  have hql := quoteL_len s
  have CT := Lib.hid (fun w => textok_impl s w (by omega))
  have CT2 := Lib.hid (fun (h : m = 0) w => textok_impl t w (by have := (htq h).2; omega))
  have HTQ := Lib.hid htq
  generalize hX : quoteL s = X at *
  have HX := Lib.hid hX
  clear hX b6 htq hbl hs
  go_wp2_with fail
  refine (cs.out w6).mono ?_
  rintro e w7 ⟨rfl, b7⟩
  have B7 := Lib.hid (B6.out.trans (b7.mono B6.out.size))
  clear b7
  go_wp2_with fail
  refine (cb.out w7).mono ?_
  rintro e w8 ⟨rfl, b8⟩
  have B8 := Lib.hid (B7.out.trans (b8.mono B7.out.size))
  clear b8
  go_wp2_with fail
  refine (cb2.out w8).mono ?_
  rintro e w9 ⟨rfl, b9⟩
  have B9 := Lib.hid (B8.out.trans (b9.mono B8.out.size))
  clear b9
  rcases hmm with hm | hm
  · have c2 := CT2.out hm
    rw [(HTQ.out hm).1] at c2
    subst hm
    go_wp2_with fail
    refine (c2 w9).mono ?_
    rintro e w10 ⟨rfl, b10⟩
    have B10 := Lib.hid (B9.out.trans (b10.mono B9.out.size))
    clear b10 c2
    cases hrs : runes s with
    | none =>
      have ct' := CT.out
      rw [hrs] at ct'
      have hx0 : X = [] := by rw [← HX.out, quoteL_none hrs]
      subst hx0
      clear hrs
      go_wp2_with fail
      refine (ct' w10).mono ?_
      rintro e w11 ⟨rfl, b11⟩
      have B11 := Lib.hid (B10.out.trans (b11.mono B10.out.size))
      clear b11 ct'
      go_wp2
      go_ret
      exact ⟨rfl, B11.out⟩
    | some rs =>
      have ct' := CT.out
      rw [hrs] at ct'
      have hfr : flat rs = s := flat_runes _ s rs (Nat.le_refl _) hrs
      have hrv : readV (X ++ [120]) 0 = .tuple #[.string ⟨s.toArray⟩, .int .i64 ((X.length : Nat) : Int), .int .i64 0] := by
        have hq := quote_back s [120] rs hrs
        rw [HX.out] at hq
        unfold readV
        rw [hq]
        simp only [hfr]
      have hqt := quote_text s rs hrs
      rw [HX.out] at hqt
      have hsl := HS.out
      have CRD := Lib.hid (fun w hE => readquoted_impl (X ++ [120]) 0 w (by simp; omega) (by omega) (by omega) hE)
      have CRD' := CRD.out
      rw [hrv, ← ba_x] at CRD'
      have CX := Lib.hid (fun w => textok_impl X w (by omega))
      have CX' := CX.out
      rw [hqt] at CX'
      have h1 : ¬ (9223372036854775807 < X.length + 1) := by omega
      have hss : (s == s) = true := by simp
      have hxx : (((X.length : Nat) : Int) == (X.length : Int)) = true := by simp
      have CRD2 := Lib.hid CRD'
      have CX2 := Lib.hid CX'
      clear hrs hfr hrv hqt hsl CRD CRD' CX CX' hql
      go_wp2_with fail
      refine (ct' w10).mono ?_
      rintro e w11 ⟨rfl, b11⟩
      have B11 := Lib.hid (B10.out.trans (b11.mono B10.out.size))
      clear b11 ct'
      go_wp2_with fail
      refine (CRD2.out w11 (HE.out.below B11.out)).mono ?_
      rintro e w12 ⟨rfl, b12⟩
      have B12 := Lib.hid (B11.out.trans (b12.mono B11.out.size))
      clear b12
      go_wp2_with fail
      refine (CX2.out w12).mono ?_
      rintro e w13 ⟨rfl, b13⟩
      have B13 := Lib.hid (B12.out.trans (b13.mono B12.out.size))
      clear b13
      go_wp2
      go_ret
      exact ⟨rfl, B13.out⟩
  · subst hm
    cases hrs : runes s with
    | none =>
      have ct' := CT.out
      rw [hrs] at ct'
      have hx0 : X = [] := by rw [← HX.out, quoteL_none hrs]
      subst hx0
      clear hrs
      go_wp2_with fail
      refine (ct' w9).mono ?_
      rintro e w11 ⟨rfl, b11⟩
      have B11 := Lib.hid (B9.out.trans (b11.mono B9.out.size))
      clear b11 ct'
      go_wp2
      go_ret
      exact ⟨rfl, B11.out⟩
    | some rs =>
      have ct' := CT.out
      rw [hrs] at ct'
      have hfr : flat rs = s := flat_runes _ s rs (Nat.le_refl _) hrs
      have hrv : readV (X ++ [120]) 0 = .tuple #[.string ⟨s.toArray⟩, .int .i64 ((X.length : Nat) : Int), .int .i64 0] := by
        have hq := quote_back s [120] rs hrs
        rw [HX.out] at hq
        unfold readV
        rw [hq]
        simp only [hfr]
      have hqt := quote_text s rs hrs
      rw [HX.out] at hqt
      have hsl := HS.out
      have CRD := Lib.hid (fun w hE => readquoted_impl (X ++ [120]) 0 w (by simp; omega) (by omega) (by omega) hE)
      have CRD' := CRD.out
      rw [hrv, ← ba_x] at CRD'
      have CX := Lib.hid (fun w => textok_impl X w (by omega))
      have CX' := CX.out
      rw [hqt] at CX'
      have h1 : ¬ (9223372036854775807 < X.length + 1) := by omega
      have hss : (s == s) = true := by simp
      have hxx : (((X.length : Nat) : Int) == (X.length : Int)) = true := by simp
      have CRD2 := Lib.hid CRD'
      have CX2 := Lib.hid CX'
      clear hrs hfr hrv hqt hsl CRD CRD' CX CX' hql
      go_wp2_with fail
      refine (ct' w9).mono ?_
      rintro e w11 ⟨rfl, b11⟩
      have B11 := Lib.hid (B9.out.trans (b11.mono B9.out.size))
      clear b11 ct'
      go_wp2_with fail
      refine (CRD2.out w11 (HE.out.below B11.out)).mono ?_
      rintro e w12 ⟨rfl, b12⟩
      have B12 := Lib.hid (B11.out.trans (b12.mono B11.out.size))
      clear b12
      go_wp2_with fail
      refine (CX2.out w12).mono ?_
      rintro e w13 ⟨rfl, b13⟩
      have B13 := Lib.hid (B12.out.trans (b13.mono B12.out.size))
      clear b13
      go_wp2
      go_ret
      exact ⟨rfl, B13.out⟩

set_option maxRecDepth 100000 in
theorem contract (H : Type) (enc : TypeId × Value → H) (W : World) (base : Nat) (args : Array Value) (ds gs : List (DataW H)) (before : List MemPlace)
    (hval : ∀ (j : Nat) t v, Tryd.f3.params[j]? = some t → args[j]? = some v → Value.okWide Tryd.prog W .any base t v)
    (hW : DataW.Whole enc Tryd.prog Tryd.f3.params.toList Rows.fnQuotesSpec.vars false W args.toList ds gs before)
    (hcond : ∀ k, (OpenSpec.ofChange Rows.fnQuotesSpec).cond = some k → k H (ds ++ gs) = true)
    (hsz : (DataW.weightsEach Tryd.prog (Tryd.f3.params.toList ++ (OpenSpec.ofChange Rows.fnQuotesSpec).bare.plain.varTypes Tryd.prog) (ds ++ gs)).all (· ≤ reachBytes) = true)
    (hL : laidMetH Tryd.prog Rows.fnQuotesRow.laid W) :
    Calls Tryd.prog 3 args W fun e W' => ∃ v, e = .returned v ∧ Rows.fnQuotesSpec.post enc Tryd.prog Tryd.f3 false true false false W args v W' := by
  have hW' := hW
  have hlt := hW'.lt
  obtain ⟨p, q, hA0, hV, rfl, hfz, hnd⟩ := hW
  have hA : DataW.TrodAll enc Tryd.prog W 0 (fun _ => true) true Tryd.f3.params.toList args.toList ds p := hA0
  rw [Tryd.params3] at hA hval hsz
  obtain ⟨v0, vs0, d0, ds0, p0, q0, hargs, rfl, rfl, h0, r0⟩ := trodAll_cons hA
  obtain ⟨rfl, rfl, rfl⟩ := trodAll_nil r0
  obtain rfl : args = #[v0] := by cases args; simp_all
  obtain ⟨rfl, rfl⟩ := trodVars_none hV
  simp only [List.append_nil] at hW' hlt
  have hlt0 : ∀ x ∈ p0, x.block < W.heap.size := fun x hx => hlt x (by simp [hx])
  have hk0 := h0
  clear hA0 hA
  have fin : ∀ W' : World, Below W.heap.size W W' → Rows.fnQuotesSpec.post enc Tryd.prog Tryd.f3 false true false false W _ (.bool true) W' := fun W' hb =>
    ⟨_, _, _, [], _, [], hW', trodAll_mk1 (shut_bool Tryd.underlying4 _), (trodAll_cons_mk (Below.trod laidOut (by kernel_rfl) (of_decide_eq_true (by kernel_rfl)) hk0 hb hlt0) trodAll_mk0), rfl, hb.frame _, fun h => by cases h⟩
  refine Calls.mono (R := fun e w' => e = .returned (.bool true) ∧ Below W.heap.size W w') ?_ (fun e W' h => ⟨_, h.1, fin W' h.2⟩)
  clear fin
  rw [MakeChecks.laidMetH_plain _ _ _ (by kernel_rfl)] at hL
  have hEnv := env_of hL
  obtain ⟨a, len, cap, rfl, hC, hm⟩ := open_code (hval 0 _ v0 rfl rfl) h0 hlt0
  by_cases hl : 1048576 < len
  · exact walk_long a len cap W hl hm
  · exact walk a len cap W hC (by omega) hEnv

theorem laid_met (os : Os) : laidMet Tryd.prog Rows.fnQuotesRow.laid (((World.laidAll Tryd.prog os Rows.fnQuotesRow.laid)).forCall (fun _ _ => 0) ⟨#[], #[.slice none 0 0], []⟩).memory :=
  laidMet_laidAll _ (by kernel_rfl) (by kernel_rfl)
theorem reads (os : Os) {H : Type} (enc : TypeId × Value → H) : ∃ places, DataW.whole enc Tryd.prog (((World.laidAll Tryd.prog os Rows.fnQuotesRow.laid)).forCall (fun _ _ => 0) ⟨#[], #[.slice none 0 0], []⟩).memory Tryd.f3.params.toList Rows.fnQuotesSpec.vars false (#[.slice none 0 0] : Array Value).toList 8 = some ([.nil], [], places) :=
  ⟨[], by kernel_rfl⟩

set_option maxRecDepth 100000 in
theorem lifted (os : Os) (started : os.Started) (H : Type) (enc : TypeId × Value → H) (F : Stop.Interp) :
    ReturnsInHanded {} Tryd.checked os 3 .any ((OpenSpec.ofChange Rows.fnQuotesSpec).preRow enc Tryd.prog Tryd.f3 Rows.fnQuotesRow.domain false Rows.fnQuotesRow.laid) (((OpenSpec.ofChange Rows.fnQuotesSpec).at F).post enc Tryd.prog Tryd.f3 false true false false) := by
  obtain ⟨places, hx⟩ := reads os enc
  refine returnsInHanded_of_row (C := Tryd.checked) (s := OpenSpec.ofChange Rows.fnQuotesSpec) own started (by kernel_rfl) Tryd.func3
    (witness_row_atRef (enc := enc) (C := Tryd.checked) false (World.laidAll Tryd.prog os Rows.fnQuotesRow.laid) #[.slice none 0 0] (World.laidAll_os _ _ _) (by kernel_rfl) (by kernel_rfl) (by kernel_rfl)
      (OpenSpec.preRow_of_cond 8 hx (by kernel_rfl) (fun k hk => by cases hk) (by kernel_rfl) (laid_met os))) ?_
  intro W base args ds gs before hval hW _ hcond hsz hL _ _
  exact contract H enc W base args ds gs before hval hW hcond hsz hL

theorem said : Rows.FnQuotesSaid :=
  OpenClaim.holds_of_cond 3 Tryd.f3 rfl rfl rfl rfl rfl rfl rfl ⟨rfl, rfl, rfl, rfl, rfl⟩ rfl rfl rfl rfl rfl (by kernel_rfl) Tryd.func3 (by kernel_rfl)
    (of_decide_eq_true (by kernel_rfl)) (by unfold Func.isWrapper; first | (rw [if_pos (by decide +kernel)]; kernel_rfl) | (rw [if_neg (by decide +kernel)]; exact ⟨rfl, rfl⟩))
    (fun os started H enc _ F => by rw [OpenClaim.pre_eq_preRow]; exact lifted os started H enc F)

theorem plain (f : FuncId) (fn : Func) (hf : Tryd.pinned.checked.prog.funcNamed Rows.fnQuotesRow.func = some f) (hfn : Tryd.pinned.checked.prog.funcs[f]? = some fn) :
    true = Tryd.pinned.checked.prog.looks [] ∧ ∀ (j : Nat) t, fn.params[j]? = some t → Tryd.pinned.checked.prog.wantsStandIn t = false := by
  obtain rfl : f = 3 := Option.some.inj ((show Tryd.prog.funcNamed Rows.fnQuotesRow.func = some 3 by kernel_rfl).symm.trans hf) |>.symm
  obtain rfl : fn = Tryd.f3 := (Option.some.inj (Tryd.func3.symm.trans hfn)).symm
  refine ⟨by kernel_rfl, fun j t ht => ?_⟩
  rw [Tryd.params3] at ht
  have hm : t ∈ [22] := by simpa using Array.mem_of_getElem? ht
  have hall : ([22].all fun u => !Tryd.prog.wantsStandIn u) = true := by kernel_rfl
  exact (show Tryd.prog.wantsStandIn t = false by simpa using List.all_eq_true.1 hall t hm)

theorem proved : Rows.FnQuotesCardSaid :=
  Claim7.holds_tied_plain_at .later [] _ _ _ _ said (fun _ h => by cases h) (by kernel_rfl) (fun _ h => by cases h) fnQuotes_row_tie rfl ⟨rfl, rfl⟩ (by kernel_rfl) rfl plain (by kernel_rfl)
#print axioms proved
end Go.Proofs.YtaelepaogkakmaaDoor.fnQuotes
