/- For every input the law FnTokens returns true and its arguments read afterwards as they read before; beside what the row states there is no condition. -/
import Derived.Test.YtelehfefhlgbkaaGreatDoorCards
import Derived.Test.YtelehfefhlgbkaaGreatDoorTie
import Derived.WalkKit
import Derived.ProofKit
import Derived.OpenShut
import Derived.SizedLaws
import Derived.Carry
import Derived.Deep.DeepHandedRow
import Derived.Deep.DeepWitnessRowRef
import Derived.LaidMore
import Derived.Lay
import Derived.Lib.LaidTab
import Derived.Stop.LaidErr
import Derived.Test.YtelehfefhlgbkaaGreatDoorG18
import Derived.Test.YtelehfefhlgbkaaGreatDoorG10
import Derived.Test.YtelehfefhlgbkaaGreatDoorG11

namespace Go.Proofs.YtelehfefhlgbkaaGreatDoor.fnTokens
open Go.ChangeShapes Go.WideShapes Go.ChangeAt Go.RowKit
open Go.ChangeMaps (open_string shut_string)
set_option linter.unusedVariables false

theorem own : ownKnob Tryz.prog.godebug = none := by kernel_rfl
theorem laidOut : laidOutB Tryz.prog = true := by kernel_rfl

theorem walk_long (a : Option Addr) (len cap : Nat) (w : World) (h : 1048576 < len) (hm : len ≤ maxLen) : Calls Tryz.prog 3 #[.slice a len cap] w fun e w' => e = .returned (.bool true) ∧ Below w.heap.size w w' := by
  have hb := big_yes a len cap w h hm
  go_enter Tryz.func3, Tryz.ntmps3
  go_wp2_with (go_at_call 5; refine hb.mono ?_; rintro e w' ⟨rfl, rfl⟩)
  go_ret
  exact ⟨rfl, Below.refl _ _⟩
theorem ba_tab (J : List UInt8) : (ByteArray.mk #[9]) ++ (ByteArray.mk J.toArray) ++ (ByteArray.mk #[32, 10]) = ByteArray.mk (9 :: (J ++ [32, 10])).toArray := by
  apply ByteArray.ext; simp
set_option maxHeartbeats 4000000 in
theorem walk (a : Option Addr) (len cap : Nat) (w : World) (hC : CodeAt w a len) (hl : len ≤ 1048576) (hE : Env w) (htab : Lib.TabIs Tryz.prog w "internal/strconv.uint64pow10" .u64 Lib.pow10Tab) : Calls Tryz.prog 3 #[.slice a len cap] w fun e w' => e = .returned (.bool true) ∧ Below w.heap.size w w' := by
  have hb := big_no a len cap w hl
  have HC := Lib.hid hC
  have HE := Lib.hid hE
  have HT := Lib.hid htab
  clear hC hE htab
  go_enter Tryz.func3, Tryz.ntmps3
  go_wp2_with fail
  refine hb.mono ?_
  rintro e w' ⟨rfl, rfl⟩
  clear hb
  go_wp2_with fail
  refine (draw_jointokens a len cap w HC.out hl).mono ?_
  rintro e w1 ⟨l, b1, p1, h5, hd, rfl, o1, bb1⟩
  have B1 := Lib.hid bb1
  have O1 := Lib.hid o1
  have hjl := joinT_len2 l hd
  have hwt := wtS_drawn l hd
  have hnum : ∀ t ∈ l, NumIn t := fun t ht => drawn_num (hd t ht)
  have HJL := Lib.hid (show (joinT l).length ≤ 30255 by omega)
  have HBK := Lib.hid (joinT_back l (fun t ht => ⟨(hd t ht).good, fun _ => (hd t ht).x⟩))
  have HBS := Lib.hid (joinT_back_sp l (fun t ht => ⟨(hd t ht).good, fun _ => (hd t ht).x⟩))
  have HLL := Lib.hid (show l.length ≤ 9223372036854775807 by omega)
  have CJI := Lib.hid (fun (W : World) (hb : Below w.heap.size w W) (a' : Option Addr) (cap' : Nat) (h' : TkAt W W.heap.size a' cap' l) => jointok_impl l a' cap' W W.heap.size h' (Nat.le_refl _) (by omega) hnum (tab_blw hb HT.out))
  have CJS := Lib.hid (fun (W : World) (a' : Option Addr) (cap' : Nat) (h' : TkAt W W.heap.size a' cap' l) => jointok_spec l a' cap' W W.heap.size h' (Nat.le_refl _) (by omega) hnum)
  have CT1 := Lib.hid (fun (W : World) (hb : Below w.heap.size w W) => tokens_impl (joinT l) W (by have := HJL.out; omega) (HE.out.below hb))
  have CT2 := Lib.hid (fun (W : World) (hb : Below w.heap.size w W) => tokens_impl (9 :: (joinT l ++ [32, 10])) W (by have := HJL.out; simp; omega) (HE.out.below hb))
  have CT1' := CT1.out
  have CT2' := CT2.out
  have CJI' := CJI.out
  have CJS' := CJS.out
  unfold TokensPost at CT1' CT2'
  rw [HBK.out] at CT1'
  rw [HBS.out] at CT2'
  rw [← ba_tab] at CT2'
  generalize joinT l = J at *
  have hs1 : ¬ (9223372036854775807 < 1 + J.length) := by have := HJL.out; omega
  have hs2 : ¬ (9223372036854775807 < 1 + J.length + 2) := by have := HJL.out; omega
  have hjj : ((J : List UInt8) != J) = false := by simp
  have hje : ((J : List UInt8) == J) = true := by simp
  have CT1 := Lib.hid CT1'
  have CT2 := Lib.hid CT2'
  have CJI := Lib.hid CJI'
  have CJS := Lib.hid CJS'
  clear CT1' CT2' CJI' CJS' hjl hwt hnum hd bb1 o1 HJL HBK HBS h5
  go_wp2_with fail
  refine (CJI.out w1 B1.out b1 p1 O1.out.tkat).mono ?_
  rintro e w2 ⟨rfl, bb⟩
  have B2 := Lib.hid (B1.out.trans (bb.mono B1.out.size))
  have O2 := Lib.hid (O1.out.blw bb)
  clear bb O1
  go_wp2_with fail
  refine (CT1.out w2 B2.out).mono ?_
  rintro e w3 ⟨b3, p3, rfl, o3, bb⟩
  have B3 := Lib.hid (B2.out.trans (bb.mono B2.out.size))
  have O3 := Lib.hid (O2.out.blw bb)
  have Q3 := Lib.hid o3
  clear bb O2 o3
  go_wp2_with fail
  refine (CT2.out w3 B3.out).mono ?_
  rintro e w4 ⟨b4, p4, rfl, o4, bb⟩
  have B4 := Lib.hid (B3.out.trans (bb.mono B3.out.size))
  have O4 := Lib.hid (O3.out.blw bb)
  have Q4 := Lib.hid (Q3.out.blw bb)
  have R4 := Lib.hid o4
  clear bb O3 Q3 o4 CT1 CT2
  go_wp2_with fail
  refine (draw_tokentext a len cap w4 (HC.out.below B4.out) hl).mono ?_
  rintro e w5 ⟨⟨k, st, n, x⟩, hst, hnn, rfl, bb⟩
  have B5 := Lib.hid (B4.out.trans (bb.mono B4.out.size))
  have O5 := Lib.hid ((O4.out.blw bb).blw (vbox w5 (.cells #[.int .i64 k, .string ⟨st.toArray⟩, .int .i64 n, .int .i64 x] 30)))
  have Q5 := Lib.hid ((Q4.out.blw bb).blw (vbox w5 (.cells #[.int .i64 k, .string ⟨st.toArray⟩, .int .i64 n, .int .i64 x] 30)))
  have R5 := Lib.hid ((R4.out.blw bb).blw (vbox w5 (.cells #[.int .i64 k, .string ⟨st.toArray⟩, .int .i64 n, .int .i64 x] 30)))
  have B6 := Lib.hid (B5.out.trans ((vbox w5 (.cells #[.int .i64 k, .string ⟨st.toArray⟩, .int .i64 n, .int .i64 x] 30)).mono B5.out.size))
  have CTI := Lib.hid (fun (W : World) (hb : Below w.heap.size w W) => toktext_impl ⟨k, st, n, x⟩ W (by have h9 : st.length ≤ 1000 := hst; show st.length ≤ _; omega) hnn.n0 hnn.n1 hnn.x0 hnn.x1 (tab_blw hb HT.out))
  have CTS := Lib.hid (fun (W : World) => toktext_spec ⟨k, st, n, x⟩ W (by have h9 : st.length ≤ 1000 := hst; show st.length ≤ _; omega) hnn.n0 hnn.n1 hnn.x0 hnn.x1)
  have CTI' := CTI.out
  have CTS' := CTS.out
  simp only [Tok.val] at CTI' CTS'
  generalize tokText ⟨k, st, n, x⟩ = T at *
  have htt : ((T : List UInt8) != T) = false := by simp
  obtain ⟨c0, c1, c2, c3⟩ := tc_new w5 ⟨k, st, n, x⟩ 30
  simp only at c0 c1 c2 c3
  clear bb O4 Q4 R4 hst hnn CTI CTS
  (go_upto_region 8 with fail)
  generalize w5.alloc (.cells #[.int .i64 k, .string ⟨st.toArray⟩, .int .i64 n, .int .i64 x] 30) = w6 at *
  have HJ := Lib.hid (fun (W : World) (hb : Below w6.heap.size w6 W) => CJS.out W b1 p1 (O5.out.blw hb).tkat)
  have CTI := Lib.hid (fun (W : World) (hb : Below w6.heap.size w6 W) => CTI' W (B6.out.trans (hb.mono B6.out.size)))
  have CTS := Lib.hid CTS'
  have hB6 := Below.refl w6.heap.size w6
  clear CTI' CTS'
  go_region_held3 (fun W' => W'.cell? ⟨w5.heap.size, 0, none⟩ = some (.int .i64 k) ∧ W'.cell? ⟨w5.heap.size, 1, none⟩ = some (.string ⟨st.toArray⟩) ∧ W'.cell? ⟨w5.heap.size, 2, none⟩ = some (.int .i64 n) ∧ W'.cell? ⟨w5.heap.size, 3, none⟩ = some (.int .i64 x) ∧ Below w6.heap.size w6 W') ((refine ⟨?_, ?_, ?_, ?_, ?_⟩ <;> first | with_reducible assumption | (with_reducible refine Below.drew ?_; with_reducible assumption) | with_reducible exact keep_below (by with_reducible assumption) (by with_reducible assumption) | with_reducible exact below_tr (by with_reducible assumption) (by with_reducible assumption) | assumption)) ((first | (go_at_call 10; go_split_ands; with_reducible refine (HJ.out _ (by with_reducible assumption)).mono ?_; rintro e u1 ⟨rfl, hb1⟩) | (go_at_call 11; go_split_ands; with_reducible refine (CTI.out _ (by with_reducible assumption)).mono ?_; rintro e u2 ⟨rfl, hb2⟩) | (go_at_call 12; go_split_ands; with_reducible refine (CTS.out _).mono ?_; rintro e u3 ⟨rfl, hb3⟩)))
  go_split_ands
  have B7 : Hid (Below w6.heap.size w6 u3) := Lib.hid (by with_reducible assumption)
  have B8 := Lib.hid (B6.out.trans (B7.out.mono B6.out.size))
  have Q8 := Lib.hid (Q5.out.blw B7.out)
  have R8 := Lib.hid (R5.out.blw B7.out)
  clear B7 hB6 c0 c1 c2 c3 HJ CTI CTS Q5 R5 O5 hb1 hb2 hb3 CJS
  go_wp2_with fail
  refine (sametoks_yes l u3 u3.heap.size b3 b4 p3 p4 Q8.out.tkat R8.out.tkat (Nat.le_refl _) HLL.out).mono ?_
  rintro e w9 ⟨rfl, bb⟩
  have B9 := Lib.hid (B8.out.trans (bb.mono B8.out.size))
  have Q9 := Lib.hid (Q8.out.blw bb)
  clear bb Q8 R8
  go_wp2_with fail
  refine (CJI.out w9 B9.out b3 p3 Q9.out.tkat).mono ?_
  rintro e w10 ⟨rfl, bb⟩
  have B10 := Lib.hid (B9.out.trans (bb.mono B9.out.size))
  clear bb Q9 CJI
  go_wp2
  go_ret
  exact ⟨rfl, B10.out⟩

set_option maxRecDepth 100000 in
theorem contract (H : Type) (enc : TypeId × Value → H) (W : World) (base : Nat) (args : Array Value) (ds gs : List (DataW H)) (before : List MemPlace)
    (hval : ∀ (j : Nat) t v, Tryz.f3.params[j]? = some t → args[j]? = some v → Value.okWide Tryz.prog W .any base t v)
    (hW : DataW.Whole enc Tryz.prog Tryz.f3.params.toList Rows.fnTokensSpec.vars false W args.toList ds gs before)
    (hcond : ∀ k, (OpenSpec.ofChange Rows.fnTokensSpec).cond = some k → k H (ds ++ gs) = true)
    (hsz : (DataW.weightsEach Tryz.prog (Tryz.f3.params.toList ++ (OpenSpec.ofChange Rows.fnTokensSpec).bare.plain.varTypes Tryz.prog) (ds ++ gs)).all (· ≤ reachBytes) = true)
    (hL : laidMetH Tryz.prog Rows.fnTokensRow.laid W) :
    Calls Tryz.prog 3 args W fun e W' => ∃ v, e = .returned v ∧ Rows.fnTokensSpec.post enc Tryz.prog Tryz.f3 false true false false W args v W' := by
  have hW' := hW
  have hlt := hW'.lt
  obtain ⟨p, q, hA0, hV, rfl, hfz, hnd⟩ := hW
  have hA : DataW.TrodAll enc Tryz.prog W 0 (fun _ => true) true Tryz.f3.params.toList args.toList ds p := hA0
  rw [Tryz.params3] at hA hval hsz
  obtain ⟨v0, vs0, d0, ds0, p0, q0, hargs, rfl, rfl, h0, r0⟩ := trodAll_cons hA
  obtain ⟨rfl, rfl, rfl⟩ := trodAll_nil r0
  obtain rfl : args = #[v0] := by cases args; simp_all
  obtain ⟨rfl, rfl⟩ := trodVars_none hV
  simp only [List.append_nil] at hW' hlt
  have hlt0 : ∀ x ∈ p0, x.block < W.heap.size := fun x hx => hlt x (by simp [hx])
  have hk0 := h0
  clear hA0 hA
  have fin : ∀ W' : World, Below W.heap.size W W' → Rows.fnTokensSpec.post enc Tryz.prog Tryz.f3 false true false false W _ (.bool true) W' := fun W' hb =>
    ⟨_, _, _, [], _, [], hW', trodAll_mk1 (shut_bool Tryz.underlying4 _), (trodAll_cons_mk (Below.trod laidOut (by kernel_rfl) (of_decide_eq_true (by kernel_rfl)) hk0 hb hlt0) trodAll_mk0), rfl, hb.frame _, fun h => by cases h⟩
  refine Calls.mono (R := fun e w' => e = .returned (.bool true) ∧ Below W.heap.size W w') ?_ (fun e W' h => ⟨_, h.1, fin W' h.2⟩)
  clear fin
  rw [MakeChecks.laidMetH_plain _ _ _ (by kernel_rfl)] at hL
  have hEnv := env_of hL
  have htab := tabs_pow10 hL
  obtain ⟨a, len, cap, rfl, hC, hm⟩ := open_code (hval 0 _ v0 rfl rfl) h0 hlt0
  by_cases hl : 1048576 < len
  · exact walk_long a len cap W hl hm
  · exact walk a len cap W hC (by omega) hEnv htab

theorem laid_met (os : Os) : laidMet Tryz.prog Rows.fnTokensRow.laid (((World.laidAll Tryz.prog os Rows.fnTokensRow.laid)).forCall (fun _ _ => 0) ⟨#[], #[.slice none 0 0], []⟩).memory :=
  laidMet_laidAll _ (by kernel_rfl) (by kernel_rfl)
theorem reads (os : Os) {H : Type} (enc : TypeId × Value → H) : ∃ places, DataW.whole enc Tryz.prog (((World.laidAll Tryz.prog os Rows.fnTokensRow.laid)).forCall (fun _ _ => 0) ⟨#[], #[.slice none 0 0], []⟩).memory Tryz.f3.params.toList Rows.fnTokensSpec.vars false (#[.slice none 0 0] : Array Value).toList 8 = some ([.nil], [], places) :=
  ⟨[], by kernel_rfl⟩

set_option maxRecDepth 100000 in
theorem lifted (os : Os) (started : os.Started) (H : Type) (enc : TypeId × Value → H) (F : Stop.Interp) :
    ReturnsInHanded {} Tryz.checked os 3 .any ((OpenSpec.ofChange Rows.fnTokensSpec).preRow enc Tryz.prog Tryz.f3 Rows.fnTokensRow.domain false Rows.fnTokensRow.laid) (((OpenSpec.ofChange Rows.fnTokensSpec).at F).post enc Tryz.prog Tryz.f3 false true false false) := by
  obtain ⟨places, hx⟩ := reads os enc
  refine returnsInHanded_of_row (C := Tryz.checked) (s := OpenSpec.ofChange Rows.fnTokensSpec) own started (by kernel_rfl) Tryz.func3
    (witness_row_atRef (enc := enc) (C := Tryz.checked) false (World.laidAll Tryz.prog os Rows.fnTokensRow.laid) #[.slice none 0 0] (World.laidAll_os _ _ _) (by kernel_rfl) (by kernel_rfl) (by kernel_rfl)
      (OpenSpec.preRow_of_cond 8 hx (by kernel_rfl) (fun k hk => by cases hk) (by kernel_rfl) (laid_met os))) ?_
  intro W base args ds gs before hval hW _ hcond hsz hL _ _
  exact contract H enc W base args ds gs before hval hW hcond hsz hL

theorem said : Rows.FnTokensSaid :=
  OpenClaim.holds_of_cond 3 Tryz.f3 rfl rfl rfl rfl rfl rfl rfl ⟨rfl, rfl, rfl, rfl, rfl⟩ rfl rfl rfl rfl rfl (by kernel_rfl) Tryz.func3 (by kernel_rfl)
    (of_decide_eq_true (by kernel_rfl)) (by unfold Func.isWrapper; first | (rw [if_pos (by decide +kernel)]; kernel_rfl) | (rw [if_neg (by decide +kernel)]; exact ⟨rfl, rfl⟩))
    (fun os started H enc _ F => by rw [OpenClaim.pre_eq_preRow]; exact lifted os started H enc F)

theorem plain (f : FuncId) (fn : Func) (hf : Tryz.pinned.checked.prog.funcNamed Rows.fnTokensRow.func = some f) (hfn : Tryz.pinned.checked.prog.funcs[f]? = some fn) :
    true = Tryz.pinned.checked.prog.looks [] ∧ ∀ (j : Nat) t, fn.params[j]? = some t → Tryz.pinned.checked.prog.wantsStandIn t = false := by
  obtain rfl : f = 3 := Option.some.inj ((show Tryz.prog.funcNamed Rows.fnTokensRow.func = some 3 by kernel_rfl).symm.trans hf) |>.symm
  obtain rfl : fn = Tryz.f3 := (Option.some.inj (Tryz.func3.symm.trans hfn)).symm
  refine ⟨by kernel_rfl, fun j t ht => ?_⟩
  rw [Tryz.params3] at ht
  have hm : t ∈ [22] := by simpa using Array.mem_of_getElem? ht
  have hall : ([22].all fun u => !Tryz.prog.wantsStandIn u) = true := by kernel_rfl
  exact (show Tryz.prog.wantsStandIn t = false by simpa using List.all_eq_true.1 hall t hm)

theorem proved : Rows.FnTokensCardSaid :=
  Claim7.holds_tied_plain_at .later [] _ _ _ _ said (fun _ h => by cases h) (by kernel_rfl) (fun _ h => by cases h) fnTokens_row_tie rfl ⟨rfl, rfl⟩ (by kernel_rfl) rfl plain (by kernel_rfl)
#print axioms proved
end Go.Proofs.YtelehfefhlgbkaaGreatDoor.fnTokens
