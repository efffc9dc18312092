/- For every input the law FnLetters returns true and its arguments read afterwards as they read before; beside what the row states there is no condition. -/
import Derived.Test.YtaakjnhdocbiaaaRows
import Derived.WalkKit
import Derived.ProofKit
import Derived.OpenShut
import Derived.SizedLaws
import Derived.Carry
import Derived.Deep.DeepHandedRow


import Derived.Lib.LaidTab
import Derived.Stop.LaidErr
import Derived.Test.YtaakjnhdocbiaaaDrawRune
import Derived.Test.YtaakjnhdocbiaaaSameInts

namespace Go.Proofs.Ytaakjnhdocbiaaa.fnLetters
open Go.ChangeShapes Go.WideShapes Go.ChangeAt Go.RowKit
open Go.ChangeMaps (open_string shut_string)
set_option linter.unusedVariables false

theorem own : ownKnob Try.prog.godebug = none := by kernel_rfl
theorem laidOut : laidOutB Try.prog = true := by kernel_rfl

theorem walk_long (a : Option Addr) (len cap : Nat) (w : World) (h : 1048576 < len) (hm : len ≤ maxLen) : Calls Try.prog 3 #[.slice a len cap] w fun e w' => e = .returned (.bool true) ∧ Below w.heap.size w w' := by
  have hb := big_yes a len cap w h hm
  go_enter Try.func3, Try.ntmps3
  go_wp2_with (go_at_call 10; refine hb.mono ?_; rintro e w' ⟨rfl, rfl⟩)
  go_ret
  exact ⟨rfl, Below.refl _ _⟩
theorem filter_take (l : List Int) (i : Nat) (h : i < l.length) : ((l.take (i + 1)).filter fun n => decide (okR n)).length = ((l.take i).filter fun n => decide (okR n)).length + (if okR l[i] then 1 else 0) := by
  rw [List.take_succ_eq_append_getElem h, List.filter_append, List.length_append]
  congr 1
  by_cases k : okR l[i] <;> simp [k]
theorem walk (a : Option Addr) (len cap : Nat) (w : World) (hC : CodeAt w a len) (hl : len ≤ 1048576) : Calls Try.prog 3 #[.slice a len cap] w fun e w' => e = .returned (.bool true) ∧ Below w.heap.size w w' := by
  have hb := big_no a len cap w hl
  have HC := Lib.hid hC
  clear hC
  go_enter Try.func3, Try.ntmps3
  go_wp2_with fail
  refine hb.mono ?_
  rintro e w' ⟨rfl, rfl⟩
  go_wp2_with fail
  refine (draw_str a len cap w HC.out hl).mono ?_
  rintro e w1 ⟨ls, hls, rfl, b1⟩
  go_wp2_with fail
  refine (draw_runes a len cap w1 (HC.out.below b1) hl).mono ?_
  rintro e w2 ⟨v2, l, hll, hin, rfl, r2, b2⟩
  have b02 := b1.trans (b2.mono b1.size)
  have ci := fun w => runesof_impl ls w (by omega)
  have cs := fun w => runesof_spec ls w (by omega)
  have ti := fun w => textok_impl ls w (by omega)
  have ts := fun w => textok_spec ls w (by omega)
  have hfl := flat_len l
  have ti2 := fun w => textok_impl (flat l) w (by omega)
  have ci2 := fun w => runesof_impl (flat l) w (by omega)
  have hfil : (l.filter fun n => decide (okR n)).length ≤ l.length := List.length_filter_le _ _
  rw [runes_flat] at ti2 ci2
  simp only [Option.isSome_some, Option.getD_some] at ti2 ci2
  have hbb : ((runes ls).isSome != (runes ls).isSome) = false := by simp
  have R2 := Lib.hid r2
  obtain ⟨a2, cap2, rfl, _⟩ := reads_int r2
  have hrl := runesD_len ls
  have HRL := Lib.hid (show ((runes ls).getD []).length ≤ 1099511627776 by omega)
  have HRL2 := Lib.hid (show ((runes ls).getD []).length ≤ 1073741824 by omega)
  have hss : (flat l == flat l) = true := by simp
  have hs2 : (flat l != flat l) = false := by simp
  have hfr : (runes ls).isSome = true → flat ((runes ls).getD []) = ls := by
    intro h
    cases hr : runes ls with
    | none => rw [hr] at h; cases h
    | some rs => exact flat_runes _ ls rs (Nat.le_refl _) hr
  have HF := Lib.hid hfr
  have CI := Lib.hid ci
  have CS := Lib.hid cs
  have TI := Lib.hid ti
  have TS := Lib.hid ts
  have TI2 := Lib.hid ti2
  have CI2 := Lib.hid ci2
  have FI := Lib.hid (fun w (h : Reads w (.slice a2 l.length cap2) (iv l)) => fromrunes_impl w _ l h (by omega))
  have FS := Lib.hid (fun w (h : Reads w (.slice a2 l.length cap2) (iv l)) => fromrunes_spec w _ l h (by omega))
  have HFIL := Lib.hid hfil
  clear ci cs ti ts ti2 ci2 hrl hfr b1 b2 r2 hb hfl hin hfil
  go_wp2_with fail
  refine (CI.out w2).mono ?_
  rintro e w3 ⟨v3, rfl, o3, b3⟩
  have b23 : Below w2.heap.size w2 w3 := b3
  have c3 := FI.out w3 (R2.out.below b23)
  clear b3
  go_wp2_with fail
  refine c3.mono ?_
  rintro e w4 ⟨rfl, b4⟩
  have b24 := b23.trans (b4.mono b23.size)
  have o4 := own_below o3 b4
  clear c3 b4 b23 o3
  go_wp2_with fail
  refine (CS.out w4).mono ?_
  rintro e w5 ⟨v5, rfl, o5, b5⟩
  have b25 := b24.trans (b5.mono b24.size)
  have p4 := own_below o4 b5
  have ce := sameInts_yes w5 _ _ _ (own_reads p4) (own_reads o5) HRL.out
  clear o4 b24 b5
  go_wp2_with fail
  refine ce.mono ?_
  rintro e w6 ⟨rfl, b6⟩
  have b26 := b25.trans (b6.mono b25.size)
  have o6 := own_below p4 b6
  clear ce o5 p4 b25 b6
  have c6 := FS.out w6 (R2.out.below b26)
  go_wp2_with fail
  refine c6.mono ?_
  rintro e w7 ⟨rfl, b7⟩
  have b27 := b26.trans (b7.mono b26.size)
  have o7 := own_below o6 b7
  clear c6 b26 b7 o6
  go_wp2_with fail
  refine (TI.out w7).mono ?_
  rintro e w8 ⟨rfl, b8⟩
  have b28 := b27.trans (b8.mono b27.size)
  have o8 := own_below o7 b8
  clear o7 b27 b8
  go_wp2_with fail
  refine (TS.out w8).mono ?_
  rintro e w9 ⟨rfl, b9⟩
  have b29 := b28.trans (b9.mono b28.size)
  have o9 := own_below o8 b9
  clear o8 b28 b9
  go_wp2_with fail
  refine (TI2.out w9).mono ?_
  rintro e w10 ⟨rfl, b10⟩
  have b2A := b29.trans (b10.mono b29.size)
  have o10 := own_below o9 b10
  have B10 := Lib.hid (b02.trans (b2A.mono b02.size))
  have O10 := Lib.hid o10
  have R10 := Lib.hid (R2.out.below b2A)
  clear o9 b29 b10 b2A b02 o10
  go_wp2
  go_loop [7, 8] (fun n i => ∃ i' : Nat, i = .int .i64 i' ∧ i' ≤ l.length ∧ n = .int .i64 ((l.take i').filter fun n => decide (okR n)).length) (fun _ i => l.length - (intOf i).toNat)
  case atStart => exact ⟨0, rfl, Nat.zero_le _, rfl⟩
  case round =>
    obtain ⟨i', rfl, hi', rfl⟩ := hrel
    have HI := Lib.hid hi'
    by_cases hlt : i' < l.length
    · have HT := Lib.hid hlt
      obtain ⟨a3, cap3, e3, hc⟩ := reads_int R10.out
      obtain ⟨b', o, ha, hcl⟩ := hc i' hlt
      injection e3 with e3 _ e4
      rw [← e3] at ha
      subst ha
      clear hc e3 e4
      have hft := filter_take l i' hlt
      generalize hq : l[i'] = q at *
      generalize hf : ((l.take i').filter fun n => decide (okR n)).length = f at *
      have hfl : f ≤ 5 := by
        rw [← hf]
        have := List.length_filter_le (fun n => decide (okR n)) (l.take i')
        rw [List.length_take] at this
        omega
      have hfz : (f : Int) ≤ 5 := by omega
      clear hf hfl hq
      by_cases hk : okR q
      · rw [if_pos hk] at hft
        have cr := runeok_impl_yes hk w10
        have HFT := Lib.hid hft
        clear hk hft
        go_wp2_with (go_at_call 20; refine cr.mono ?_; rintro e w' ⟨rfl, rfl⟩)
        go_round
        case rel => exact ⟨i' + 1, by go_num, HT.out, by rw [HFT.out]; go_num⟩
        case measure => have := HT.out; simp [intOf]; omega
      · rw [if_neg hk] at hft
        have cr := runeok_impl_no hk w10
        have HFT := Lib.hid hft
        clear hk hft
        go_wp2_with (go_at_call 20; refine cr.mono ?_; rintro e w' ⟨rfl, rfl⟩)
        go_round
        case rel => exact ⟨i' + 1, by go_num, HT.out, by rw [HFT.out]; go_num⟩
        case measure => have := HT.out; simp [intOf]; omega
    · obtain rfl : i' = l.length := by omega
      rw [List.take_of_length_le (Nat.le_refl _)]
      have c11 := CI2.out w10
      generalize hfq : (l.filter fun n => decide (okR n)) = fl at *
      have hfl5 : (fl.length : Int) ≤ 5 := by have := HFIL.out; omega
      have heq : ((fl.length : Int) == fl.length) = true := by simp
      clear hfq
      go_wp2_with fail
      refine c11.mono ?_
      rintro e w11 ⟨v11, rfl, o11, b11⟩
      have BB := Lib.hid (B10.out.trans (b11.mono B10.out.size))
      have O11 := Lib.hid (own_below O10.out b11)
      obtain ⟨a11, cap11, rfl, _⟩ := reads_int (own_reads o11)
      clear c11 b11 o11
      by_cases hsb : (runes ls).isSome = true
      · have ti := TI.out w11
        rw [hsb] at ti
        have hfe := HF.out hsb
        have cf := fun w h => fromrunes_impl w v3 ((runes ls).getD []) h HRL2.out
        rw [hfe] at cf
        have CF := Lib.hid cf
        have hll2 : (ls == ls) = true := by simp
        clear hsb hfe cf
        go_wp2_with fail
        refine ti.mono ?_
        rintro e w12 ⟨rfl, b12⟩
        have BC := Lib.hid (BB.out.trans (b12.mono BB.out.size))
        have c13 := CF.out w12 (own_reads (own_below O11.out b12))
        clear b12 ti
        go_wp2_with fail
        refine c13.mono ?_
        rintro e w13 ⟨rfl, b13⟩
        have BD := Lib.hid (BC.out.trans (b13.mono BC.out.size))
        clear b13 c13
        go_wp2
        go_ret
        exact ⟨rfl, BD.out⟩
      · have hsb' : (runes ls).isSome = false := by simpa using hsb
        have ti := TI.out w11
        rw [hsb'] at ti
        clear hsb hsb'
        go_wp2_with fail
        refine ti.mono ?_
        rintro e w12 ⟨rfl, b12⟩
        have BC := Lib.hid (BB.out.trans (b12.mono BB.out.size))
        clear b12 ti
        go_wp2
        go_ret
        exact ⟨rfl, BC.out⟩

theorem contract (H : Type) (enc : TypeId × Value → H) (W : World) (base : Nat) (args : Array Value) (ds gs : List (DataW H)) (before : List MemPlace)
    (hval : ∀ (j : Nat) t v, Try.f3.params[j]? = some t → args[j]? = some v → Value.okWide Try.prog W .any base t v)
    (hW : DataW.Whole enc Try.prog Try.f3.params.toList Rows.fnLettersSpec.vars false W args.toList ds gs before)
    (hcond : ∀ k, (OpenSpec.ofChange Rows.fnLettersSpec).cond = some k → k H (ds ++ gs) = true)
    (hsz : (DataW.weightsEach Try.prog (Try.f3.params.toList ++ (OpenSpec.ofChange Rows.fnLettersSpec).bare.plain.varTypes Try.prog) (ds ++ gs)).all (· ≤ reachBytes) = true)
    (hL : laidMetH Try.prog Rows.fnLettersRow.laid W) :
    Calls Try.prog 3 args W fun e W' => ∃ v, e = .returned v ∧ Rows.fnLettersSpec.post enc Try.prog Try.f3 false true false false W args v W' := by
  have hW' := hW
  have hlt := hW'.lt
  obtain ⟨p, q, hA0, hV, rfl, hfz, hnd⟩ := hW
  have hA : DataW.TrodAll enc Try.prog W 0 (fun _ => true) true Try.f3.params.toList args.toList ds p := hA0
  rw [Try.params3] at hA hval hsz
  obtain ⟨v0, vs0, d0, ds0, p0, q0, hargs, rfl, rfl, h0, r0⟩ := trodAll_cons hA
  obtain ⟨rfl, rfl, rfl⟩ := trodAll_nil r0
  obtain rfl : args = #[v0] := by cases args; simp_all
  obtain ⟨rfl, rfl⟩ := trodVars_none hV
  simp only [List.append_nil] at hW' hlt
  have hlt0 : ∀ x ∈ p0, x.block < W.heap.size := fun x hx => hlt x (by simp [hx])
  have hk0 := h0
  clear hA0 hA
  have fin : ∀ W' : World, Below W.heap.size W W' → Rows.fnLettersSpec.post enc Try.prog Try.f3 false true false false W _ (.bool true) W' := fun W' hb =>
    ⟨_, _, _, [], _, [], hW', trodAll_mk1 (shut_bool Try.underlying4 _), (trodAll_cons_mk (Below.trod laidOut (by kernel_rfl) (of_decide_eq_true (by kernel_rfl)) hk0 hb hlt0) trodAll_mk0), rfl, hb.frame _, fun h => by cases h⟩
  refine Calls.mono (R := fun e w' => e = .returned (.bool true) ∧ Below W.heap.size W w') ?_ (fun e W' h => ⟨_, h.1, fin W' h.2⟩)
  clear fin
  obtain ⟨a, len, cap, rfl, hC, hm⟩ := open_code (hval 0 _ v0 rfl rfl) h0 hlt0
  by_cases hl : 1048576 < len
  · exact walk_long a len cap W hl hm
  · exact walk a len cap W hC (by omega)

theorem laid_met (os : Os) : laidMet Try.prog Rows.fnLettersRow.laid (((World.holding Try.prog os ⟨#[], #[], []⟩)).forCall (fun _ _ => 0) ⟨#[], #[.slice none 0 0], []⟩).memory :=
  ⟨[], rfl, List.nodup_nil, fun _ _ h => by cases h⟩
theorem reads (os : Os) {H : Type} (enc : TypeId × Value → H) : ∃ places, DataW.whole enc Try.prog (((World.holding Try.prog os ⟨#[], #[], []⟩)).forCall (fun _ _ => 0) ⟨#[], #[.slice none 0 0], []⟩).memory Try.f3.params.toList Rows.fnLettersSpec.vars false (#[.slice none 0 0] : Array Value).toList 8 = some ([.nil], [], places) :=
  ⟨[], by kernel_rfl⟩

set_option maxRecDepth 100000 in
theorem lifted (os : Os) (started : os.Started) (H : Type) (enc : TypeId × Value → H) (F : Stop.Interp) :
    ReturnsInHanded {} Try.checked os 3 .any ((OpenSpec.ofChange Rows.fnLettersSpec).preRow enc Try.prog Try.f3 Rows.fnLettersRow.domain false Rows.fnLettersRow.laid) (((OpenSpec.ofChange Rows.fnLettersSpec).at F).post enc Try.prog Try.f3 false true false false) := by
  obtain ⟨places, hx⟩ := reads os enc
  refine returnsInHanded_of_row (C := Try.checked) (s := OpenSpec.ofChange Rows.fnLettersSpec) own started (by kernel_rfl) Try.func3
    (witness_row_at (enc := enc) (C := Try.checked) false (World.holding Try.prog os ⟨#[], #[], []⟩) #[.slice none 0 0] rfl (by kernel_rfl) (by kernel_rfl) (by kernel_rfl)
      (OpenSpec.preRow_of_cond 8 hx (by kernel_rfl) (fun k hk => by cases hk) (by kernel_rfl) (laid_met os))) ?_
  intro W base args ds gs before hval hW _ hcond hsz hL _ _
  exact contract H enc W base args ds gs before hval hW hcond hsz hL

theorem said : Rows.FnLettersSaid :=
  OpenClaim.holds_of_cond 3 Try.f3 rfl rfl rfl rfl rfl rfl rfl ⟨rfl, rfl, rfl, rfl, rfl⟩ rfl rfl rfl rfl rfl (by kernel_rfl) Try.func3 (by kernel_rfl)
    (of_decide_eq_true (by kernel_rfl)) (by unfold Func.isWrapper; first | (rw [if_pos (by decide +kernel)]; kernel_rfl) | (rw [if_neg (by decide +kernel)]; exact ⟨rfl, rfl⟩))
    (fun os started H enc _ F => by rw [OpenClaim.pre_eq_preRow]; exact lifted os started H enc F)

theorem proved : Rows.FnLettersSaid := said
#print axioms proved
end Go.Proofs.Ytaakjnhdocbiaaa.fnLetters
