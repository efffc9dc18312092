/- For every input the law FnTokensBent returns true and its arguments read afterwards as they read before; beside what the row states there is no condition. -/
import Derived.Test.YtelehfefhlgbkaaGreatDoorCards
import Derived.Test.YtelehfefhlgbkaaGreatDoorTie
import Derived.WalkKit
import Derived.ProofKit
import Derived.OpenShut
import Derived.SizedLaws
import Derived.Carry
import Derived.Deep.DeepHandedRow
import Derived.Deep.DeepWitnessRowRef
import Derived.LaidMore
import Derived.Lay
import Derived.Lib.LaidTab
import Derived.Stop.LaidErr
import Derived.Test.YtelehfefhlgbkaaGreatDoorG18
import Derived.Test.YtelehfefhlgbkaaGreatDoorG10
import Derived.Test.YtelehfefhlgbkaaGreatDoorG11

namespace Go.Proofs.YtelehfefhlgbkaaGreatDoor.fnTokensBent
open Go.ChangeShapes Go.WideShapes Go.ChangeAt Go.RowKit
open Go.ChangeMaps (open_string shut_string)
set_option linter.unusedVariables false

theorem own : ownKnob Tryz.prog.godebug = none := by kernel_rfl
theorem laidOut : laidOutB Tryz.prog = true := by kernel_rfl

theorem walk_long (a : Option Addr) (len cap : Nat) (w : World) (h : 1048576 < len) (hm : len ≤ maxLen) : Calls Tryz.prog 4 #[.slice a len cap] w fun e w' => e = .returned (.bool true) ∧ Below w.heap.size w w' := by
  have hb := big_yes a len cap w h hm
  go_enter Tryz.func4, Tryz.ntmps4
  go_wp2_with (go_at_call 5; refine hb.mono ?_; rintro e w' ⟨rfl, rfl⟩)
  go_ret
  exact ⟨rfl, Below.refl _ _⟩
theorem readTokV_eta (l : List UInt8) (a : Int) : ∃ (k n x : Int) (st : List UInt8) (nx cd : Int), readTokV l a = .tuple #[.agg #[.int .i64 k, .string ⟨st.toArray⟩, .int .i64 n, .int .i64 x], .int .i64 nx, .int .i64 cd] := by
  unfold readTokV
  split
  · exact ⟨_, _, _, _, _, _, rfl⟩
  · exact ⟨_, _, _, _, _, _, rfl⟩
theorem toks_none {l : List UInt8} {i : Nat} (h : (toks l i).2 ≠ 0) : (toks l i).1 = [] := by
  by_cases hc : (readTok l i).code = 0
  · by_cases hk : (readTok l i).t.k = 0
    · rw [toks_end hc hk]
    · rw [toks, if_neg (by simpa using hc), if_neg hk] at h ⊢
      split
      · split
        · rename_i g1 g2; rw [dif_pos g1, if_pos g2] at h; exact absurd rfl h
        · rfl
      · rfl
  · rw [toks_bad hc]
set_option maxHeartbeats 4000000 in
theorem walk (a : Option Addr) (len cap : Nat) (w : World) (hC : CodeAt w a len) (hl : len ≤ 1048576) (hE : Env w) (htab : Lib.TabIs Tryz.prog w "internal/strconv.uint64pow10" .u64 Lib.pow10Tab) : Calls Tryz.prog 4 #[.slice a len cap] w fun e w' => e = .returned (.bool true) ∧ Below w.heap.size w w' := by
  have hb := big_no a len cap w hl
  have HC := Lib.hid hC
  have HE := Lib.hid hE
  have HT := Lib.hid htab
  clear hC hE htab
  go_enter Tryz.func4, Tryz.ntmps4
  go_wp2_with fail
  refine hb.mono ?_
  rintro e w' ⟨rfl, rfl⟩
  clear hb
  go_wp2_with fail
  refine (draw_tokens a len cap w HC.out hl).mono ?_
  rintro e w1 ⟨s, hs, rfl, bb⟩
  have B1 := Lib.hid bb
  obtain ⟨hz1, hz2, hz3⟩ := toks_size _ s 0 (Nat.le_refl _) (by omega) (Nat.zero_le _)
  have HNO := Lib.hid (fun h => toks_none (l := s) (i := 0) h)
  have CTI := Lib.hid (fun (W : World) (hb : Below w.heap.size w W) => tokens_impl s W (by omega) (HE.out.below hb))
  have CTS := Lib.hid (fun (W : World) => tokens_spec s W (by omega))
  have CTI' := CTI.out
  have CTS' := CTS.out
  unfold TokensPost at CTI' CTS'
  have HNO' := HNO.out
  generalize (toks s 0).1 = ts at *
  generalize (toks s 0).2 = cd at *
  have HN := Lib.hid hz3
  have HJL := Lib.hid (show (joinT ts).length ≤ 1048576 by omega)
  have HWT := Lib.hid (show wtS ts ≤ 2097152 by omega)
  have HLL := Lib.hid (show ts.length ≤ 1048576 by have := wtS_len ts; omega)
  have HNO := Lib.hid HNO'
  have CTI := Lib.hid CTI'
  have CTS := Lib.hid CTS'
  have hcd : (((cd : Nat) : Int) != cd) = false := by simp
  clear CTI' CTS' HNO' hz1 hz2 hz3 bb hs
  go_wp2_with fail
  refine (CTI.out w1 B1.out).mono ?_
  rintro e w2 ⟨b2, p2, rfl, o2, bb⟩
  have B2 := Lib.hid (B1.out.trans (bb.mono B1.out.size))
  have O2 := Lib.hid o2
  clear bb o2 CTI
  go_wp2_with fail
  refine (CTS.out w2).mono ?_
  rintro e w3 ⟨b3, p3, rfl, o3, bb⟩
  have B3 := Lib.hid (B2.out.trans (bb.mono B2.out.size))
  have O3 := Lib.hid (O2.out.blw bb)
  have Q3 := Lib.hid o3
  clear bb O2 o3 CTS
  go_wp2_with fail
  refine (draw_readtoken a len cap w3 (HC.out.below B3.out) hl).mono ?_
  rintro e w4 ⟨r, i, hr, hi, rfl, bb⟩
  have B4 := Lib.hid (B3.out.trans (bb.mono B3.out.size))
  have O4 := Lib.hid (O3.out.blw bb)
  have Q4 := Lib.hid (Q3.out.blw bb)
  have CRI := Lib.hid (fun (W : World) (hb : Below w.heap.size w W) => readtok_impl r i W (by omega) hi.2 (HE.out.below hb))
  have CRS := Lib.hid (fun (W : World) => readtok_spec r i W (by omega) hi.2)
  have CRI' := CRI.out
  have CRS' := CRS.out
  obtain ⟨k, n, x, st, nx, c2, hv⟩ := readTokV_eta r i
  rw [hv] at CRI' CRS'
  have CRI := Lib.hid CRI'
  have CRS := Lib.hid CRS'
  have hq := fun W => tok_neq k n x st W
  have hnx : ((nx : Int) != nx) = false := by simp
  have hc2 : ((c2 : Int) != c2) = false := by simp
  clear CRI' CRS' hv bb O3 Q3 hr hi
  generalize (ByteArray.mk r.toArray) = rs at *
  go_wp2_with fail
  refine (CRI.out w4 B4.out).mono ?_
  rintro e w5 ⟨rfl, bb⟩
  have B5' := Lib.hid (B4.out.trans (bb.mono B4.out.size))
  have O5' := Lib.hid (O4.out.blw bb)
  have Q5' := Lib.hid (Q4.out.blw bb)
  have hv5 := vbox w5 (.cells #[.int .i64 k, .string ⟨st.toArray⟩, .int .i64 n, .int .i64 x] 30)
  have B5 := Lib.hid (B5'.out.trans (hv5.mono B5'.out.size))
  have O5 := Lib.hid (O5'.out.blw hv5)
  have Q5 := Lib.hid (Q5'.out.blw hv5)
  have T5 := Lib.hid (tc_new w5 ⟨k, st, n, x⟩ 30)
  clear bb B5' O5' Q5' hv5 O4 Q4 CRI
  (go_upto_region 8 with fail)
  generalize w5.alloc (.cells #[.int .i64 k, .string ⟨st.toArray⟩, .int .i64 n, .int .i64 x] 30) = w6 at *
  go_wp2_with fail
  refine (CRS.out w6).mono ?_
  rintro e w7 ⟨rfl, bb⟩
  have hv7 := vbox w7 (.cells #[.int .i64 k, .string ⟨st.toArray⟩, .int .i64 n, .int .i64 x] 30)
  have B7' := Lib.hid (B5.out.trans (bb.mono B5.out.size))
  have B7 := Lib.hid (B7'.out.trans (hv7.mono B7'.out.size))
  have O7 := Lib.hid ((O5.out.blw bb).blw hv7)
  have Q7 := Lib.hid ((Q5.out.blw bb).blw hv7)
  have T7 := Lib.hid ((T5.out.blw bb).blw hv7)
  have S7 := Lib.hid (tc_new w7 ⟨k, st, n, x⟩ 30)
  clear bb B7' hv7 O5 Q5 T5 CRS
  (go_upto_region 9 with fail)
  generalize w7.alloc (.cells #[.int .i64 k, .string ⟨st.toArray⟩, .int .i64 n, .int .i64 x] 30) = w8 at *
  go_wp2_with fail
  refine (draw_skip a len cap w8 (HC.out.below B7.out) hl).mono ?_
  rintro e w9 ⟨sk, j, hsk, hj, rfl, bb⟩
  have B9 := Lib.hid (B7.out.trans (bb.mono B7.out.size))
  have O9 := Lib.hid (O7.out.blw bb)
  have Q9 := Lib.hid (Q7.out.blw bb)
  have T9 := Lib.hid (T7.out.blw bb)
  have S9 := Lib.hid (S7.out.blw bb)
  have CKI := Lib.hid (fun (W : World) => skip_impl sk j W (by omega) hj.2)
  have CKS := Lib.hid (fun (W : World) => skip_spec sk j W (by omega) hj.2)
  have CKI' := CKI.out
  have CKS' := CKS.out
  generalize skT sk j = sj at *
  have CKI := Lib.hid CKI'
  have CKS := Lib.hid CKS'
  have hsj : ((sj : Int) != sj) = false := by simp
  clear bb O7 Q7 T7 S7 CKI' CKS' hsk hj
  generalize (ByteArray.mk sk.toArray) = ss at *
  go_wp2_with fail
  refine (draw_signok a len cap w9 (HC.out.below B9.out) hl).mono ?_
  rintro e w10 ⟨g, hg, rfl, bb⟩
  have B10 := Lib.hid (B9.out.trans (bb.mono B9.out.size))
  have O10 := Lib.hid (O9.out.blw bb)
  have Q10 := Lib.hid (Q9.out.blw bb)
  have T10 := T9.out.blw bb
  have S10 := S9.out.blw bb
  have CGI := Lib.hid (fun (W : World) => signok_impl g W (by omega))
  have CGS := Lib.hid (fun (W : World) => signok_spec g W)
  have CGI' := CGI.out
  have CGS' := CGS.out
  generalize sgB g = gb at *
  have CGI := Lib.hid CGI'
  have CGS := Lib.hid CGS'
  have hgb : (gb != gb) = false := by simp
  clear bb O9 Q9 T9 S9 CGI' CGS' hg
  generalize (ByteArray.mk g.toArray) = gs at *
  have cs := sametoks_yes ts w10 w10.heap.size b2 b3 p2 p3 O10.out.tkat Q10.out.tkat (Nat.le_refl _) (by have := HLL.out; omega)
  go_wp2_with fail
  refine cs.mono ?_
  rintro e w11 ⟨rfl, bb⟩
  have B11 := Lib.hid (B10.out.trans (bb.mono B10.out.size))
  have O11 := Lib.hid (O10.out.blw bb)
  obtain ⟨c0, c1, c2', c3⟩ := T10.blw bb
  obtain ⟨d0, d1, d2, d3⟩ := S10.blw bb
  simp only at c0 c1 c2' c3 d0 d1 d2 d3
  clear bb O10 Q10 T10 S10 cs
  go_wp2_with fail
  refine (CKI.out w11).mono ?_
  rintro e w' ⟨rfl, rfl⟩
  go_wp2_with fail
  refine (CKS.out w11).mono ?_
  rintro e w' ⟨rfl, rfl⟩
  go_wp2_with fail
  refine (CGI.out w11).mono ?_
  rintro e w' ⟨rfl, rfl⟩
  go_wp2_with fail
  refine (CGS.out w11).mono ?_
  rintro e w' ⟨rfl, rfl⟩
  clear CKI CKS CGI CGS c0 c1 c2' c3 d0 d1 d2 d3 hq
  by_cases hcz : cd = 0
  rotate_left
  · have h1 : (((cd : Nat) : Int) != 0) = true := by simp; omega
    have hnil := HNO.out hcz
    subst hnil
    clear hcz
    go_wp2
    go_ret
    exact ⟨by first | rfl | simp, B11.out⟩
  subst hcz
  have H11 := Lib.hid O11.out.tkat
  go_wp2
  go_loopw [19] (fun i wr => ∃ i' : Nat, i = .int .i64 i' ∧ i' ≤ ts.length ∧ Hid (∀ j (h : j < ts.length), j < i' → (ts[j]).x.natAbs < 10 ^ 3) ∧ w11 = wr) (fun i _ => ts.length - (intOf i).toNat)
  case atStart => exact ⟨0, rfl, Nat.zero_le _, Lib.hid (fun j h h0 => absurd h0 (by omega)), rfl⟩
  case round =>
    obtain ⟨i', rfl, hi', HX, rfl⟩ := hrel
    have hlen : (ts.length : Int) ≤ 1048576 := by have := HLL.out; omega
    by_cases hlt : i' < ts.length
    · obtain ⟨b, o, rfl, hbN, c0, c1, c2', c3⟩ := H11.out.cell i' hlt
      have HXN := Lib.hid (fun (hx : (ts[i']).x.natAbs < 10 ^ 3) => show ∀ j (h : j < ts.length), j < i' + 1 → (ts[j]).x.natAbs < 10 ^ 3 from fun j h hj => by
        by_cases e : j = i'
        · subst e; exact hx
        · exact HX.out j h (by omega))
      obtain ⟨y, hy⟩ : ∃ y, y = (ts[i']).x := ⟨_, rfl⟩
      rw [← hy] at c3
      have HY := Lib.hid hy
      clear c0 c1 c2' hy
      by_cases hlo : y < -999
      · go_wp2
        go_ret
        exact ⟨rfl, B11.out⟩
      · by_cases hhi : 999 < y
        · go_wp2
          go_ret
          exact ⟨rfl, B11.out⟩
        · have HX2 := Lib.hid (HXN.out (by rw [← HY.out]; omega))
          go_wp2
          go_roundw
          case rel => exact ⟨i' + 1, by go_num, by omega, HX2, by first | rfl | trivial⟩
          case measure => simp [intOf]; omega
    · have heq : i' = ts.length := by omega
      have HGD := Lib.hid (joinT_back ts (fun t ht => ⟨(HN.out t ht).1, fun _ => by
        obtain ⟨j, hj, rfl⟩ := List.getElem_of_mem ht
        exact HX.out j hj (by omega)⟩))
      have CJ := Lib.hid (jointok_impl ts b2 p2 w11 w11.heap.size O11.out.tkat (Nat.le_refl _) HWT.out (fun t ht => (HN.out t ht).2) (tab_blw B11.out HT.out))
      have CT := Lib.hid (fun (W : World) (hb : Below w.heap.size w W) => tokens_impl (joinT ts) W HJL.out (HE.out.below hb))
      have CT' := CT.out
      have CJ' := CJ.out
      unfold TokensPost at CT'
      rw [HGD.out] at CT'
      obtain ⟨J, hJ⟩ : ∃ J, J = joinT ts := ⟨_, rfl⟩
      rw [← hJ] at CT' CJ'
      have CT := Lib.hid CT'
      have CJ := Lib.hid CJ'
      clear CT' CJ' hJ heq HX
      go_wp2_with fail
      refine CJ.out.mono ?_
      rintro e w12 ⟨rfl, bb⟩
      have B12 := Lib.hid (B11.out.trans (bb.mono B11.out.size))
      have O12 := Lib.hid (O11.out.blw bb)
      clear bb CJ O11
      go_wp2_with fail
      refine (CT.out w12 B12.out).mono ?_
      rintro e w13 ⟨b13, p13, rfl, o13, bb⟩
      have B13 := Lib.hid (B12.out.trans (bb.mono B12.out.size))
      have O13 := Lib.hid (O12.out.blw bb)
      have cs := sametoks_yes ts w13 w13.heap.size b13 b2 p13 p2 o13.tkat O13.out.tkat (Nat.le_refl _) (by have := HLL.out; omega)
      clear bb CT O12 o13
      go_wp2_with fail
      refine cs.mono ?_
      rintro e w14 ⟨rfl, bb⟩
      have B14 := Lib.hid (B13.out.trans (bb.mono B13.out.size))
      clear bb cs
      go_wp2
      go_ret
      exact ⟨rfl, B14.out⟩

set_option maxRecDepth 100000 in
theorem contract (H : Type) (enc : TypeId × Value → H) (W : World) (base : Nat) (args : Array Value) (ds gs : List (DataW H)) (before : List MemPlace)
    (hval : ∀ (j : Nat) t v, Tryz.f4.params[j]? = some t → args[j]? = some v → Value.okWide Tryz.prog W .any base t v)
    (hW : DataW.Whole enc Tryz.prog Tryz.f4.params.toList Rows.fnTokensBentSpec.vars false W args.toList ds gs before)
    (hcond : ∀ k, (OpenSpec.ofChange Rows.fnTokensBentSpec).cond = some k → k H (ds ++ gs) = true)
    (hsz : (DataW.weightsEach Tryz.prog (Tryz.f4.params.toList ++ (OpenSpec.ofChange Rows.fnTokensBentSpec).bare.plain.varTypes Tryz.prog) (ds ++ gs)).all (· ≤ reachBytes) = true)
    (hL : laidMetH Tryz.prog Rows.fnTokensBentRow.laid W) :
    Calls Tryz.prog 4 args W fun e W' => ∃ v, e = .returned v ∧ Rows.fnTokensBentSpec.post enc Tryz.prog Tryz.f4 false true false false W args v W' := by
  have hW' := hW
  have hlt := hW'.lt
  obtain ⟨p, q, hA0, hV, rfl, hfz, hnd⟩ := hW
  have hA : DataW.TrodAll enc Tryz.prog W 0 (fun _ => true) true Tryz.f4.params.toList args.toList ds p := hA0
  rw [Tryz.params4] at hA hval hsz
  obtain ⟨v0, vs0, d0, ds0, p0, q0, hargs, rfl, rfl, h0, r0⟩ := trodAll_cons hA
  obtain ⟨rfl, rfl, rfl⟩ := trodAll_nil r0
  obtain rfl : args = #[v0] := by cases args; simp_all
  obtain ⟨rfl, rfl⟩ := trodVars_none hV
  simp only [List.append_nil] at hW' hlt
  have hlt0 : ∀ x ∈ p0, x.block < W.heap.size := fun x hx => hlt x (by simp [hx])
  have hk0 := h0
  clear hA0 hA
  have fin : ∀ W' : World, Below W.heap.size W W' → Rows.fnTokensBentSpec.post enc Tryz.prog Tryz.f4 false true false false W _ (.bool true) W' := fun W' hb =>
    ⟨_, _, _, [], _, [], hW', trodAll_mk1 (shut_bool Tryz.underlying4 _), (trodAll_cons_mk (Below.trod laidOut (by kernel_rfl) (of_decide_eq_true (by kernel_rfl)) hk0 hb hlt0) trodAll_mk0), rfl, hb.frame _, fun h => by cases h⟩
  refine Calls.mono (R := fun e w' => e = .returned (.bool true) ∧ Below W.heap.size W w') ?_ (fun e W' h => ⟨_, h.1, fin W' h.2⟩)
  clear fin
  rw [MakeChecks.laidMetH_plain _ _ _ (by kernel_rfl)] at hL
  have hEnv := env_of hL
  have htab := tabs_pow10 hL
  obtain ⟨a, len, cap, rfl, hC, hm⟩ := open_code (hval 0 _ v0 rfl rfl) h0 hlt0
  by_cases hl : 1048576 < len
  · exact walk_long a len cap W hl hm
  · exact walk a len cap W hC (by omega) hEnv htab

theorem laid_met (os : Os) : laidMet Tryz.prog Rows.fnTokensBentRow.laid (((World.laidAll Tryz.prog os Rows.fnTokensBentRow.laid)).forCall (fun _ _ => 0) ⟨#[], #[.slice none 0 0], []⟩).memory :=
  laidMet_laidAll _ (by kernel_rfl) (by kernel_rfl)
theorem reads (os : Os) {H : Type} (enc : TypeId × Value → H) : ∃ places, DataW.whole enc Tryz.prog (((World.laidAll Tryz.prog os Rows.fnTokensBentRow.laid)).forCall (fun _ _ => 0) ⟨#[], #[.slice none 0 0], []⟩).memory Tryz.f4.params.toList Rows.fnTokensBentSpec.vars false (#[.slice none 0 0] : Array Value).toList 8 = some ([.nil], [], places) :=
  ⟨[], by kernel_rfl⟩

set_option maxRecDepth 100000 in
theorem lifted (os : Os) (started : os.Started) (H : Type) (enc : TypeId × Value → H) (F : Stop.Interp) :
    ReturnsInHanded {} Tryz.checked os 4 .any ((OpenSpec.ofChange Rows.fnTokensBentSpec).preRow enc Tryz.prog Tryz.f4 Rows.fnTokensBentRow.domain false Rows.fnTokensBentRow.laid) (((OpenSpec.ofChange Rows.fnTokensBentSpec).at F).post enc Tryz.prog Tryz.f4 false true false false) := by
  obtain ⟨places, hx⟩ := reads os enc
  refine returnsInHanded_of_row (C := Tryz.checked) (s := OpenSpec.ofChange Rows.fnTokensBentSpec) own started (by kernel_rfl) Tryz.func4
    (witness_row_atRef (enc := enc) (C := Tryz.checked) false (World.laidAll Tryz.prog os Rows.fnTokensBentRow.laid) #[.slice none 0 0] (World.laidAll_os _ _ _) (by kernel_rfl) (by kernel_rfl) (by kernel_rfl)
      (OpenSpec.preRow_of_cond 8 hx (by kernel_rfl) (fun k hk => by cases hk) (by kernel_rfl) (laid_met os))) ?_
  intro W base args ds gs before hval hW _ hcond hsz hL _ _
  exact contract H enc W base args ds gs before hval hW hcond hsz hL

theorem said : Rows.FnTokensBentSaid :=
  OpenClaim.holds_of_cond 4 Tryz.f4 rfl rfl rfl rfl rfl rfl rfl ⟨rfl, rfl, rfl, rfl, rfl⟩ rfl rfl rfl rfl rfl (by kernel_rfl) Tryz.func4 (by kernel_rfl)
    (of_decide_eq_true (by kernel_rfl)) (by unfold Func.isWrapper; first | (rw [if_pos (by decide +kernel)]; kernel_rfl) | (rw [if_neg (by decide +kernel)]; exact ⟨rfl, rfl⟩))
    (fun os started H enc _ F => by rw [OpenClaim.pre_eq_preRow]; exact lifted os started H enc F)

theorem plain (f : FuncId) (fn : Func) (hf : Tryz.pinned.checked.prog.funcNamed Rows.fnTokensBentRow.func = some f) (hfn : Tryz.pinned.checked.prog.funcs[f]? = some fn) :
    true = Tryz.pinned.checked.prog.looks [] ∧ ∀ (j : Nat) t, fn.params[j]? = some t → Tryz.pinned.checked.prog.wantsStandIn t = false := by
  obtain rfl : f = 4 := Option.some.inj ((show Tryz.prog.funcNamed Rows.fnTokensBentRow.func = some 4 by kernel_rfl).symm.trans hf) |>.symm
  obtain rfl : fn = Tryz.f4 := (Option.some.inj (Tryz.func4.symm.trans hfn)).symm
  refine ⟨by kernel_rfl, fun j t ht => ?_⟩
  rw [Tryz.params4] at ht
  have hm : t ∈ [22] := by simpa using Array.mem_of_getElem? ht
  have hall : ([22].all fun u => !Tryz.prog.wantsStandIn u) = true := by kernel_rfl
  exact (show Tryz.prog.wantsStandIn t = false by simpa using List.all_eq_true.1 hall t hm)

theorem proved : Rows.FnTokensBentCardSaid :=
  Claim7.holds_tied_plain_at .later [] _ _ _ _ said (fun _ h => by cases h) (by kernel_rfl) (fun _ h => by cases h) fnTokensBent_row_tie rfl ⟨rfl, rfl⟩ (by kernel_rfl) rfl plain (by kernel_rfl)
#print axioms proved
end Go.Proofs.YtelehfefhlgbkaaGreatDoor.fnTokensBent
