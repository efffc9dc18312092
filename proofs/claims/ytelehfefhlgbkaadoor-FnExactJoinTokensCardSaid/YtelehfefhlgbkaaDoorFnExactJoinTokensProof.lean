/- For every input the law FnExactJoinTokens returns true and its arguments read afterwards as they read before; beside what the row states there is no condition. -/
import Derived.Test.YtelehfefhlgbkaaDoorCards
import Derived.Test.YtelehfefhlgbkaaDoorTie
import Derived.WalkKit
import Derived.ProofKit
import Derived.OpenShut
import Derived.SizedLaws
import Derived.Carry
import Derived.Deep.DeepHandedRow
import Derived.Deep.DeepWitnessRowRef
import Derived.LaidMore
import Derived.Lib.LaidTab
import Derived.Stop.LaidErr
import Derived.Test.YtelehfefhlgbkaaDoorG16
import Derived.Test.YtelehfefhlgbkaaDoorG17
import Derived.Test.YtelehfefhlgbkaaDoorG6

namespace Go.Proofs.YtelehfefhlgbkaaDoor.fnExactJoinTokens
open Go.ChangeShapes Go.WideShapes Go.ChangeAt Go.RowKit
open Go.ChangeMaps (open_string shut_string)
set_option linter.unusedVariables false

theorem own : ownKnob Tryd.prog.godebug = none := by kernel_rfl
theorem laidOut : laidOutB Tryd.prog = true := by kernel_rfl

theorem wtS_szT (l : List Tok) : wtS l = szT l := by
  unfold wtS szT
  induction l with
  | nil => rfl
  | cons t l ih => simp only [List.map_cons, List.sum_cons, List.length_cons] at *; omega
theorem big (l : List Tok) (a : Option Addr) (cap : Nat) (w : World) (h : TkAt w w.heap.size a cap l) (hll : l.length ≤ 9223372036854775807) (hs : ∀ t ∈ l, TokIn t) (hb : ¬ szT l ≤ 1048576) : Calls Tryd.prog 6 #[.slice a l.length cap] w fun e w' => e = .returned (.bool true) ∧ Below w.heap.size w w' := by
  have cz := sztoks_any l a cap w w.heap.size h (Nat.le_refl _) hll (fun t ht => (hs t ht).s)
  rw [show lft (szT l) 1048576 = -1 by unfold lft; rw [if_neg hb]] at cz
  have CZ := Lib.hid cz
  clear cz h hll hs hb
  go_enter Tryd.func6, Tryd.ntmps6
  go_wp2_with fail
  refine CZ.out.mono ?_
  rintro e w1 ⟨rfl, b1⟩
  go_wp2
  go_ret
  exact ⟨rfl, b1⟩
set_option maxHeartbeats 1000000 in
theorem walk (l : List Tok) (a : Option Addr) (cap : Nat) (w : World) (h : TkAt w w.heap.size a cap l) (hll : l.length ≤ 9223372036854775807) (hs : ∀ t ∈ l, TokIn t) (hb : szT l ≤ 1048576) (htab : Lib.TabIs Tryd.prog w "internal/strconv.uint64pow10" .u64 Lib.pow10Tab) : Calls Tryd.prog 6 #[.slice a l.length cap] w fun e w' => e = .returned (.bool true) ∧ Below w.heap.size w w' := by
  have cz := sztoks_any l a cap w w.heap.size h (Nat.le_refl _) hll (fun t ht => (hs t ht).s)
  rw [show lft (szT l) 1048576 = ((1048576 - szT l : Nat) : Int) by unfold lft; rw [if_pos hb]] at cz
  have hneg : ¬ (((1048576 - szT l : Nat) : Int) < 0) := by omega
  generalize 1048576 - szT l = lf at *
  have hw : wtS l ≤ 2097152 := by rw [wtS_szT]; omega
  have hl1 : l.length ≤ 1048576 := by unfold szT at hb; omega
  have hn : ∀ t ∈ l, NumIn t := fun t ht => ⟨(hs t ht).n0, (hs t ht).n1, (hs t ht).x0, (hs t ht).x1⟩
  have CT := Lib.hid (fun (W : World) (hb : Below w.heap.size w W) => totoks_any W w.heap.size a cap l (h.below hb (Nat.le_refl _)) hb.size hl1)
  have CS := Lib.hid (fun (W : World) (a' : Option Addr) (cap' : Nat) (h' : TkAt W W.heap.size a' cap' l) => jointok_spec l a' cap' W W.heap.size h' (Nat.le_refl _) hw hn)
  have CI := Lib.hid (fun (W : World) (hb : Below w.heap.size w W) (a' : Option Addr) (cap' : Nat) (h' : TkAt W W.heap.size a' cap' l) => jointok_impl l a' cap' W W.heap.size h' (Nat.le_refl _) hw hn (tab_blw hb htab))
  have CE := Lib.hid (fun (W : World) (a1 a2 : Option Addr) (p1 p2 : Nat) (h1 : TkAt W W.heap.size a1 p1 l) (h2 : TkAt W W.heap.size a2 p2 l) => eqTokS_yes l W W.heap.size a1 a2 p1 p2 h1 h2 (Nat.le_refl _) (by omega))
  have CS' := CS.out
  have CI' := CI.out
  generalize joinT l = J at *
  have CS := Lib.hid CS'
  have CI := Lib.hid CI'
  have hj : ((J : List UInt8) != J) = false := by simp
  have CZ := Lib.hid cz
  clear cz CS' CI' h hll hs hb htab hw hn
  go_enter Tryd.func6, Tryd.ntmps6
  go_wp2_with fail
  refine CZ.out.mono ?_
  rintro e w1 ⟨rfl, b1⟩
  have B1 := Lib.hid b1
  clear b1
  go_wp2_with fail
  refine (CT.out _ B1.out).mono ?_
  rintro e w2 ⟨a2, p2, rfl, o2, b2⟩
  have B2 := Lib.hid (B1.out.trans (b2.mono B1.out.size))
  have O2 := Lib.hid o2
  clear b2 o2
  go_wp2_with fail
  refine (CS.out _ _ _ O2.out.tkat).mono ?_
  rintro e w3 ⟨rfl, b3⟩
  have B3 := Lib.hid (B2.out.trans (b3.mono B2.out.size))
  clear b3 O2
  go_wp2_with fail
  refine (CT.out _ B3.out).mono ?_
  rintro e w4 ⟨a4, p4, rfl, o4, b4⟩
  have B4 := Lib.hid (B3.out.trans (b4.mono B3.out.size))
  have O4 := Lib.hid o4
  clear b4 o4
  go_wp2_with fail
  refine (CI.out _ B4.out _ _ O4.out.tkat).mono ?_
  rintro e w5 ⟨rfl, b5⟩
  have B5 := Lib.hid (B4.out.trans (b5.mono B4.out.size))
  have O5 := Lib.hid (O4.out.blw b5)
  clear b5 O4
  go_wp2_with fail
  refine (CT.out _ B5.out).mono ?_
  rintro e w6 ⟨a6, p6, rfl, o6, b6⟩
  have B6 := Lib.hid (B5.out.trans (b6.mono B5.out.size))
  have O6 := Lib.hid (O5.out.blw b6)
  have Q6 := Lib.hid o6
  clear b6 o6 O5
  go_wp2_with fail
  refine (CE.out _ _ _ _ _ O6.out.tkat Q6.out.tkat).mono ?_
  rintro e w7 ⟨rfl, b7⟩
  have B7 := Lib.hid (B6.out.trans (b7.mono B6.out.size))
  clear b7
  go_wp2
  go_ret
  exact ⟨rfl, B7.out⟩

set_option maxRecDepth 100000 in
theorem contract (H : Type) (enc : TypeId × Value → H) (W : World) (base : Nat) (args : Array Value) (ds gs : List (DataW H)) (before : List MemPlace)
    (hval : ∀ (j : Nat) t v, Tryd.f6.params[j]? = some t → args[j]? = some v → Value.okWide Tryd.prog W .any base t v)
    (hW : DataW.Whole enc Tryd.prog Tryd.f6.params.toList Rows.fnExactJoinTokensSpec.vars false W args.toList ds gs before)
    (hcond : ∀ k, (OpenSpec.ofChange Rows.fnExactJoinTokensSpec).cond = some k → k H (ds ++ gs) = true)
    (hsz : (DataW.weightsEach Tryd.prog (Tryd.f6.params.toList ++ (OpenSpec.ofChange Rows.fnExactJoinTokensSpec).bare.plain.varTypes Tryd.prog) (ds ++ gs)).all (· ≤ reachBytes) = true)
    (hL : laidMetH Tryd.prog Rows.fnExactJoinTokensRow.laid W) :
    Calls Tryd.prog 6 args W fun e W' => ∃ v, e = .returned v ∧ Rows.fnExactJoinTokensSpec.post enc Tryd.prog Tryd.f6 false true false false W args v W' := by
  have hW' := hW
  have hlt := hW'.lt
  obtain ⟨p, q, hA0, hV, rfl, hfz, hnd⟩ := hW
  have hA : DataW.TrodAll enc Tryd.prog W 0 (fun _ => true) true Tryd.f6.params.toList args.toList ds p := hA0
  rw [Tryd.params6] at hA hval hsz
  obtain ⟨v0, vs0, d0, ds0, p0, q0, hargs, rfl, rfl, h0, r0⟩ := trodAll_cons hA
  obtain ⟨rfl, rfl, rfl⟩ := trodAll_nil r0
  obtain rfl : args = #[v0] := by cases args; simp_all
  obtain ⟨rfl, rfl⟩ := trodVars_none hV
  simp only [List.append_nil] at hW' hlt
  have hlt0 : ∀ x ∈ p0, x.block < W.heap.size := fun x hx => hlt x (by simp [hx])
  have hk0 := h0
  obtain ⟨a0, cap0, l0, rfl, htk0, hlen0, hti0⟩ := open_toks (hval 0 39 v0 rfl rfl) h0
  clear hA0 hA
  have fin : ∀ W' : World, Below W.heap.size W W' → Rows.fnExactJoinTokensSpec.post enc Tryd.prog Tryd.f6 false true false false W _ (.bool true) W' := fun W' hb =>
    ⟨_, _, _, [], _, [], hW', trodAll_mk1 (shut_bool Tryd.underlying4 _), (trodAll_cons_mk (Below.trod laidOut (by kernel_rfl) (of_decide_eq_true (by kernel_rfl)) hk0 hb hlt0) trodAll_mk0), rfl, hb.frame _, fun h => by cases h⟩
  refine Calls.mono (R := fun e w' => e = .returned (.bool true) ∧ Below W.heap.size W w') ?_ (fun e W' h => ⟨_, h.1, fin W' h.2⟩)
  clear fin
  rw [MakeChecks.laidMetH_plain _ _ _ (by kernel_rfl)] at hL
  by_cases hb : szT l0 ≤ 1048576
  · exact walk l0 a0 cap0 W htk0 hlen0 hti0 hb (tabs_pow10 hL)
  · exact big l0 a0 cap0 W htk0 hlen0 hti0 hb

theorem laid_met (os : Os) : laidMet Tryd.prog Rows.fnExactJoinTokensRow.laid (((World.doorLaid Tryd.prog 4000 os)).forCall (fun _ _ => 0) ⟨#[], #[.slice none 0 0], []⟩).memory :=
  (laidMet_of_run' 8 (by kernel_rfl) (by kernel_rfl))
theorem reads (os : Os) {H : Type} (enc : TypeId × Value → H) : ∃ places, DataW.whole enc Tryd.prog (((World.doorLaid Tryd.prog 4000 os)).forCall (fun _ _ => 0) ⟨#[], #[.slice none 0 0], []⟩).memory Tryd.f6.params.toList Rows.fnExactJoinTokensSpec.vars false (#[.slice none 0 0] : Array Value).toList 8 = some ([.nil], [], places) :=
  ⟨[], by kernel_rfl⟩

set_option maxRecDepth 100000 in
theorem lifted (os : Os) (started : os.Started) (H : Type) (enc : TypeId × Value → H) (F : Stop.Interp) :
    ReturnsInHanded {} Tryd.checked os 6 .any ((OpenSpec.ofChange Rows.fnExactJoinTokensSpec).preRow enc Tryd.prog Tryd.f6 Rows.fnExactJoinTokensRow.domain false Rows.fnExactJoinTokensRow.laid) (((OpenSpec.ofChange Rows.fnExactJoinTokensSpec).at F).post enc Tryd.prog Tryd.f6 false true false false) := by
  obtain ⟨places, hx⟩ := reads os enc
  refine returnsInHanded_of_row (C := Tryd.checked) (s := OpenSpec.ofChange Rows.fnExactJoinTokensSpec) own started (by kernel_rfl) Tryd.func6
    (witness_row_atRef (enc := enc) (C := Tryd.checked) false (World.doorLaid Tryd.prog 4000 os) #[.slice none 0 0] rfl (by kernel_rfl) (by kernel_rfl) (by kernel_rfl)
      (OpenSpec.preRow_of_cond 8 hx (by kernel_rfl) (fun k hk => by cases hk) (by kernel_rfl) (laid_met os))) ?_
  intro W base args ds gs before hval hW _ hcond hsz hL _ _
  exact contract H enc W base args ds gs before hval hW hcond hsz hL

theorem said : Rows.FnExactJoinTokensSaid :=
  OpenClaim.holds_of_cond 6 Tryd.f6 rfl rfl rfl rfl rfl rfl rfl ⟨rfl, rfl, rfl, rfl, rfl⟩ rfl rfl rfl rfl rfl (by kernel_rfl) Tryd.func6 (by kernel_rfl)
    (of_decide_eq_true (by kernel_rfl)) (by unfold Func.isWrapper; first | (rw [if_pos (by decide +kernel)]; kernel_rfl) | (rw [if_neg (by decide +kernel)]; exact ⟨rfl, rfl⟩))
    (fun os started H enc _ F => by rw [OpenClaim.pre_eq_preRow]; exact lifted os started H enc F)

theorem plain (f : FuncId) (fn : Func) (hf : Tryd.pinned.checked.prog.funcNamed Rows.fnExactJoinTokensRow.func = some f) (hfn : Tryd.pinned.checked.prog.funcs[f]? = some fn) :
    true = Tryd.pinned.checked.prog.looks [] ∧ ∀ (j : Nat) t, fn.params[j]? = some t → Tryd.pinned.checked.prog.wantsStandIn t = false := by
  obtain rfl : f = 6 := Option.some.inj ((show Tryd.prog.funcNamed Rows.fnExactJoinTokensRow.func = some 6 by kernel_rfl).symm.trans hf) |>.symm
  obtain rfl : fn = Tryd.f6 := (Option.some.inj (Tryd.func6.symm.trans hfn)).symm
  refine ⟨by kernel_rfl, fun j t ht => ?_⟩
  rw [Tryd.params6] at ht
  have hm : t ∈ [39] := by simpa using Array.mem_of_getElem? ht
  have hall : ([39].all fun u => !Tryd.prog.wantsStandIn u) = true := by kernel_rfl
  exact (show Tryd.prog.wantsStandIn t = false by simpa using List.all_eq_true.1 hall t hm)

theorem proved : Rows.FnExactJoinTokensCardSaid :=
  Claim7.holds_tied_plain_at .later [] _ _ _ _ said (fun _ h => by cases h) (by kernel_rfl) (fun _ h => by cases h) fnExactJoinTokens_row_tie rfl ⟨rfl, rfl⟩ (by kernel_rfl) rfl plain (by kernel_rfl)
#print axioms proved
end Go.Proofs.YtelehfefhlgbkaaDoor.fnExactJoinTokens
