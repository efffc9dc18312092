/- For every input the law FnExactTokens returns true and its arguments read afterwards as they read before; beside what the row states there is no condition. -/
import Derived.Test.YtelehfefhlgbkaaDoorCards
import Derived.Test.YtelehfefhlgbkaaDoorTie
import Derived.WalkKit
import Derived.ProofKit
import Derived.OpenShut
import Derived.SizedLaws
import Derived.Carry
import Derived.Deep.DeepHandedRow
import Derived.Deep.DeepWitnessRowRef
import Derived.LaidMore
import Derived.Lay
import Derived.Lib.LaidTab
import Derived.Stop.LaidErr
import Derived.Test.YtelehfefhlgbkaaDoorG15
import Derived.Test.YtelehfefhlgbkaaDoorG16

namespace Go.Proofs.YtelehfefhlgbkaaDoor.fnExactTokens
open Go.ChangeShapes Go.WideShapes Go.ChangeAt Go.RowKit
open Go.ChangeMaps (open_string shut_string)
set_option linter.unusedVariables false

theorem own : ownKnob Tryd.prog.godebug = none := by kernel_rfl
theorem laidOut : laidOutB Tryd.prog = true := by kernel_rfl

theorem walk_long (s : ByteArray) (w : World) (h : 1048576 < s.size) (hm : s.size ≤ 9223372036854775807) :
    Calls Tryd.prog 4 #[.string s] w fun e w' => e = .returned (.bool true) ∧ Below w.heap.size w w' := by
  go_enter Tryd.func4, Tryd.ntmps4
  go_wp2
  go_ret
  exact ⟨rfl, Below.refl _ _⟩
theorem toks_len (l : List UInt8) : (toks l 0).1.length ≤ l.length := by
  have key : ∀ (n i : Nat) (ts : List Tok), l.length - i ≤ n → FarT l i ts → (toks l 0).1.length ≤ l.length := by
    intro n
    induction n with
    | zero =>
      intro i ts hn h
      by_cases hc : (readTok l i).code = 0
      · by_cases hk : (readTok l i).t.k = 0
        · rw [farT_end h hc hk]; have := h.2.1; have := h.1; show ts.length ≤ _; omega
        · have := farT_step h hc hk; have h1 := this.1.1; omega
      · rw [farT_bad h hc]; exact Nat.zero_le _
    | succ n ih =>
      intro i ts hn h
      by_cases hc : (readTok l i).code = 0
      · by_cases hk : (readTok l i).t.k = 0
        · rw [farT_end h hc hk]; have := h.2.1; have := h.1; show ts.length ≤ _; omega
        · have h1 := farT_step h hc hk; exact ih _ _ (by omega) h1.1
      · rw [farT_bad h hc]; exact Nat.zero_le _
  exact key _ 0 [] (Nat.le_refl _) (farT_start l)
set_option maxHeartbeats 1000000 in
theorem walk (l : List UInt8) (w : World) (hl : l.length ≤ 1048576) (hE : Env w) :
    Calls Tryd.prog 4 #[.string ⟨l.toArray⟩] w fun e w' => e = .returned (.bool true) ∧ Below w.heap.size w w' := by
  have cs := tokens_spec l w hl
  have CI := Lib.hid (fun w1 hb => tokens_impl l w1 hl (hE.below (w' := w1) hb))
  have hsz := size_l l
  have hrl := toks_len l
  have CI' := CI.out
  unfold TokensPost at cs CI'
  generalize (toks l 0).1 = ts at *
  generalize (toks l 0).2 = cd at *
  have CI := Lib.hid CI'
  have hrl2 : ts.length ≤ 1048576 := by omega
  have hh : (((cd : Nat) : Int) != cd) = false := by simp
  generalize (ByteArray.mk l.toArray) = s at *
  have hl' : ¬ (1048576 : Int) < l.length := by omega
  clear hE CI' hrl
  go_enter Tryd.func4, Tryd.ntmps4
  go_wp2_with fail
  refine cs.mono ?_
  rintro e w1 ⟨a1, p1, rfl, o1, b1⟩
  have B1 := Lib.hid b1
  have O1 := Lib.hid o1
  clear cs b1 o1
  go_wp2_with fail
  refine (CI.out w1 B1.out).mono ?_
  rintro e w2 ⟨a2, p2, rfl, o2, b2⟩
  have B2 := Lib.hid (B1.out.trans (b2.mono B1.out.size))
  have Q1 := Lib.hid (O1.out.blw b2)
  have O2 := Lib.hid o2
  have HNE : Hid (∀ k, a1.map (·.block) = some k → a2.map (·.block) ≠ some k) := Lib.hid (fun k h1 h2 => by have := (OwnT.lt O1.out k h1).2; have := (OwnT.lt o2 k h2).1; omega)
  have HBA : Hid (∀ k, a2.map (·.block) = some k → w.heap.size ≤ k) := Lib.hid (fun k h2 => by have := (OwnT.lt o2 k h2).1; have := B1.out.size; omega)
  clear b2 o2 O1
  have ce := eqTokS_yes ts w2 w2.heap.size a2 a1 p2 p1 O2.out.tkat Q1.out.tkat (Nat.le_refl _) (by omega)
  go_wp2_with fail
  refine ce.mono ?_
  rintro e w3 ⟨rfl, b3⟩
  have B3 := Lib.hid (B2.out.trans (b3.mono B2.out.size))
  have Q3 := Lib.hid (Q1.out.blw b3)
  have O3 := Lib.hid (O2.out.blw b3)
  clear ce b3 Q1 O2
  have cm := mark_toks a2 p2 ts w3 w1.heap.size 1 O3.out hrl2 (by omega) (by omega)
  go_wp2_with fail
  refine cm.mono ?_
  rintro e w4 ⟨rfl, o4, b4⟩
  have B4 := Lib.hid (b4.below B3.out HBA.out B3.out.size)
  have Q4 := Lib.hid (Q3.out.onlyO b4 HNE.out)
  have O4 := Lib.hid o4
  clear cm b4 o4 Q3 O3
  have hk2 : ¬ (((1 + 4 * ts.length : Nat) : Int) < 0) := by omega
  have hk3 : ((((1 + 4 * ts.length : Nat) : Int)) != ((1 + 4 * ts.length : Nat) : Int)) = false := by simp
  have CH := Lib.hid (fun (W : World) (h : OwnT W w1.heap.size a2 p2 (mkT 1 ts.length)) => held_toks a2 p2 ts.length 1 W W.heap.size h.tkat (Nat.le_refl _) hrl2 (by omega))
  generalize hM : 1 + 4 * ts.length = M at *
  clear hM
  go_wp2_with fail
  refine (CH.out w4 O4.out).mono ?_
  rintro e w5 ⟨rfl, b5⟩
  have B5 := Lib.hid (B4.out.trans (b5.mono B4.out.size))
  have Q5 := Lib.hid (Q4.out.blw b5)
  have O5 := Lib.hid (O4.out.blw b5)
  clear b5 Q4 O4
  go_wp2_with fail
  refine (CI.out w5 B5.out).mono ?_
  rintro e w6 ⟨a6, p6, rfl, o6, b6⟩
  have B6 := Lib.hid (B5.out.trans (b6.mono B5.out.size))
  have Q6 := Lib.hid (Q5.out.blw b6)
  have O6 := Lib.hid (O5.out.blw b6)
  have ce := eqTokS_yes ts w6 w6.heap.size a6 a1 p6 p1 o6.tkat Q6.out.tkat (Nat.le_refl _) (by omega)
  clear b6 o6 Q5 O5
  go_wp2_with fail
  refine ce.mono ?_
  rintro e w7 ⟨rfl, b7⟩
  have B7 := Lib.hid (B6.out.trans (b7.mono B6.out.size))
  have O7 := Lib.hid (O6.out.blw b7)
  clear b7 ce Q6 O6
  go_wp2_with fail
  refine (CH.out w7 O7.out).mono ?_
  rintro e w8 ⟨rfl, b8⟩
  have B8 := Lib.hid (B7.out.trans (b8.mono B7.out.size))
  clear b8 CH O7
  go_wp2
  go_ret
  exact ⟨rfl, B8.out⟩

set_option maxRecDepth 100000 in
theorem contract (H : Type) (enc : TypeId × Value → H) (W : World) (base : Nat) (args : Array Value) (ds gs : List (DataW H)) (before : List MemPlace)
    (hval : ∀ (j : Nat) t v, Tryd.f4.params[j]? = some t → args[j]? = some v → Value.okWide Tryd.prog W .any base t v)
    (hW : DataW.Whole enc Tryd.prog Tryd.f4.params.toList Rows.fnExactTokensSpec.vars false W args.toList ds gs before)
    (hcond : ∀ k, (OpenSpec.ofChange Rows.fnExactTokensSpec).cond = some k → k H (ds ++ gs) = true)
    (hsz : (DataW.weightsEach Tryd.prog (Tryd.f4.params.toList ++ (OpenSpec.ofChange Rows.fnExactTokensSpec).bare.plain.varTypes Tryd.prog) (ds ++ gs)).all (· ≤ reachBytes) = true)
    (hL : laidMetH Tryd.prog Rows.fnExactTokensRow.laid W) :
    Calls Tryd.prog 4 args W fun e W' => ∃ v, e = .returned v ∧ Rows.fnExactTokensSpec.post enc Tryd.prog Tryd.f4 false true false false W args v W' := by
  have hW' := hW
  have hlt := hW'.lt
  obtain ⟨p, q, hA0, hV, rfl, hfz, hnd⟩ := hW
  have hA : DataW.TrodAll enc Tryd.prog W 0 (fun _ => true) true Tryd.f4.params.toList args.toList ds p := hA0
  rw [Tryd.params4] at hA hval hsz
  obtain ⟨v0, vs0, d0, ds0, p0, q0, hargs, rfl, rfl, h0, r0⟩ := trodAll_cons hA
  obtain ⟨rfl, rfl, rfl⟩ := trodAll_nil r0
  obtain rfl : args = #[v0] := by cases args; simp_all
  obtain ⟨rfl, rfl⟩ := trodVars_none hV
  simp only [List.append_nil] at hW' hlt
  have hlt0 : ∀ x ∈ p0, x.block < W.heap.size := fun x hx => hlt x (by simp [hx])
  have hk0 := h0
  obtain ⟨a0, rfl, rfl, rfl, w0⟩ := open_string Tryd.underlying9 (hval 0 9 v0 rfl rfl) h0
  clear hA0 hA
  have fin : ∀ W' : World, Below W.heap.size W W' → Rows.fnExactTokensSpec.post enc Tryd.prog Tryd.f4 false true false false W _ (.bool true) W' := fun W' hb =>
    ⟨_, _, _, [], _, [], hW', trodAll_mk1 (shut_bool Tryd.underlying4 _), (trodAll_cons_mk (Below.trod laidOut (by kernel_rfl) (of_decide_eq_true (by kernel_rfl)) hk0 hb hlt0) trodAll_mk0), rfl, hb.frame _, fun h => by cases h⟩
  refine Calls.mono (R := fun e w' => e = .returned (.bool true) ∧ Below W.heap.size W w') ?_ (fun e W' h => ⟨_, h.1, fin W' h.2⟩)
  clear fin
  rw [MakeChecks.laidMetH_plain _ _ _ (by kernel_rfl)] at hL
  obtain ⟨l, rfl⟩ : ∃ l : List UInt8, a0 = ⟨l.toArray⟩ := ⟨a0.data.toList, by simp⟩
  have hm := w0
  by_cases hl : 1048576 < l.length
  · exact walk_long _ W (by rw [size_k]; exact hl) (by unfold maxLen at hm; exact hm)
  · exact walk l W (by omega) (env_of hL)

theorem laid_met (os : Os) : laidMet Tryd.prog Rows.fnExactTokensRow.laid (((World.laidAll Tryd.prog os Rows.fnExactTokensRow.laid)).forCall (fun _ _ => 0) ⟨#[], #[.string ⟨#[]⟩], []⟩).memory :=
  laidMet_laidAll _ (by kernel_rfl) (by kernel_rfl)
theorem reads (os : Os) {H : Type} (enc : TypeId × Value → H) : ∃ places, DataW.whole enc Tryd.prog (((World.laidAll Tryd.prog os Rows.fnExactTokensRow.laid)).forCall (fun _ _ => 0) ⟨#[], #[.string ⟨#[]⟩], []⟩).memory Tryd.f4.params.toList Rows.fnExactTokensSpec.vars false (#[.string ⟨#[]⟩] : Array Value).toList 8 = some ([.lit (.string [])], [], places) :=
  ⟨[], by kernel_rfl⟩

set_option maxRecDepth 100000 in
theorem lifted (os : Os) (started : os.Started) (H : Type) (enc : TypeId × Value → H) (F : Stop.Interp) :
    ReturnsInHanded {} Tryd.checked os 4 .any ((OpenSpec.ofChange Rows.fnExactTokensSpec).preRow enc Tryd.prog Tryd.f4 Rows.fnExactTokensRow.domain false Rows.fnExactTokensRow.laid) (((OpenSpec.ofChange Rows.fnExactTokensSpec).at F).post enc Tryd.prog Tryd.f4 false true false false) := by
  obtain ⟨places, hx⟩ := reads os enc
  refine returnsInHanded_of_row (C := Tryd.checked) (s := OpenSpec.ofChange Rows.fnExactTokensSpec) own started (by kernel_rfl) Tryd.func4
    (witness_row_atRef (enc := enc) (C := Tryd.checked) false (World.laidAll Tryd.prog os Rows.fnExactTokensRow.laid) #[.string ⟨#[]⟩] (World.laidAll_os _ _ _) (by kernel_rfl) (by kernel_rfl) (by kernel_rfl)
      (OpenSpec.preRow_of_cond 8 hx (by kernel_rfl) (fun k hk => by cases hk) (by kernel_rfl) (laid_met os))) ?_
  intro W base args ds gs before hval hW _ hcond hsz hL _ _
  exact contract H enc W base args ds gs before hval hW hcond hsz hL

theorem said : Rows.FnExactTokensSaid :=
  OpenClaim.holds_of_cond 4 Tryd.f4 rfl rfl rfl rfl rfl rfl rfl ⟨rfl, rfl, rfl, rfl, rfl⟩ rfl rfl rfl rfl rfl (by kernel_rfl) Tryd.func4 (by kernel_rfl)
    (of_decide_eq_true (by kernel_rfl)) (by unfold Func.isWrapper; first | (rw [if_pos (by decide +kernel)]; kernel_rfl) | (rw [if_neg (by decide +kernel)]; exact ⟨rfl, rfl⟩))
    (fun os started H enc _ F => by rw [OpenClaim.pre_eq_preRow]; exact lifted os started H enc F)

theorem plain (f : FuncId) (fn : Func) (hf : Tryd.pinned.checked.prog.funcNamed Rows.fnExactTokensRow.func = some f) (hfn : Tryd.pinned.checked.prog.funcs[f]? = some fn) :
    true = Tryd.pinned.checked.prog.looks [] ∧ ∀ (j : Nat) t, fn.params[j]? = some t → Tryd.pinned.checked.prog.wantsStandIn t = false := by
  obtain rfl : f = 4 := Option.some.inj ((show Tryd.prog.funcNamed Rows.fnExactTokensRow.func = some 4 by kernel_rfl).symm.trans hf) |>.symm
  obtain rfl : fn = Tryd.f4 := (Option.some.inj (Tryd.func4.symm.trans hfn)).symm
  refine ⟨by kernel_rfl, fun j t ht => ?_⟩
  rw [Tryd.params4] at ht
  have hm : t ∈ [9] := by simpa using Array.mem_of_getElem? ht
  have hall : ([9].all fun u => !Tryd.prog.wantsStandIn u) = true := by kernel_rfl
  exact (show Tryd.prog.wantsStandIn t = false by simpa using List.all_eq_true.1 hall t hm)

theorem proved : Rows.FnExactTokensCardSaid :=
  Claim7.holds_tied_plain_at .later [] _ _ _ _ said (fun _ h => by cases h) (by kernel_rfl) (fun _ h => by cases h) fnExactTokens_row_tie rfl ⟨rfl, rfl⟩ (by kernel_rfl) rfl plain (by kernel_rfl)
#print axioms proved
end Go.Proofs.YtelehfefhlgbkaaDoor.fnExactTokens
