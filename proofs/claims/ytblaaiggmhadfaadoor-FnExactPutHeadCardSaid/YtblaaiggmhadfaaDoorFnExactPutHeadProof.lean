/- For every input the law FnExactPutHead returns true and its arguments read afterwards as they read before; beside what the row states there is no condition. -/
import Derived.Test.YtblaaiggmhadfaaDoorCards
import Derived.Test.YtblaaiggmhadfaaDoorTie
import Derived.WalkKit
import Derived.ProofKit
import Derived.OpenShut
import Derived.SizedLaws
import Derived.Carry
import Derived.Deep.DeepHandedRow
import Derived.Deep.DeepWitnessRowRef
import Derived.LaidMore
import Derived.Lib.LaidTab
import Derived.Stop.LaidErr
import Derived.Test.YtblaaiggmhadfaaDoorPutHead
import Derived.Test.YtblaaiggmhadfaaDoorHeadLaw
import Derived.Test.YtblaaiggmhadfaaDoorByteS
import Derived.Test.YtblaaiggmhadfaaDoorArgs
import Derived.Lib.SmallJoins
import Derived.Deep.RegionHeld3
import Derived.Deep.CutRange

namespace Go.Proofs.YtblaaiggmhadfaaDoor.fnExactPutHead
open Go.ChangeShapes Go.WideShapes Go.ChangeAt Go.RowKit
open Go.ChangeMaps (open_string shut_string)
set_option linter.unusedVariables false

theorem own : ownKnob Tryd.prog.godebug = none := by kernel_rfl
theorem laidOut : laidOutB Tryd.prog = true := by kernel_rfl

theorem walk_long (v : Value) (hd : Hd) (l : List UInt8) (w : World) (h : Reads w v (bv l)) (hl : 1048576 < l.length) (hm : l.length ≤ maxLen) : Calls Tryd.prog 4 #[v, hd.val] w fun e w' => e = .returned (.bool true) ∧ Below w.heap.size w w' := by
  unfold maxLen at hm
  obtain ⟨a, cap, rfl, hc⟩ := reads_byte h
  clear hc h
  have hl' : (1048576 : Int) < l.length := by omega
  obtain ⟨k, n, x⟩ := hd
  go_enter Tryd.func4, Tryd.ntmps4
  go_wp2
  go_ret
  exact ⟨rfl, below_box _ _⟩
/-- .. stays a slice -/
theorem sl_next {W W' : World} {v : Value} {l : List UInt8} (h : Sl W v (bv l)) (hb : Below W.heap.size W W') : Sl W' v (bv l) := h.below hb
set_option maxRecDepth 100000 in
set_option maxHeartbeats 4000000 in
theorem walk (v : Value) (hd : Hd) (l : List UInt8) (w : World) (h : Reads w v (bv l)) (hl : l.length ≤ 1048576) (h0 : -9223372036854775808 ≤ hd.n) (hT : Tz w) : Calls Tryd.prog 4 #[v, hd.val] w fun e w' => e = .returned (.bool true) ∧ Below w.heap.size w w' := by
  have H := Lib.hid h
  obtain ⟨a, cap, rfl, hc⟩ := reads_byte h
  clear hc h
  have hl' : ¬ (1048576 : Int) < l.length := by omega
  have hel : (l ++ hdB hd).length ≤ 1099511627776 := by
    rw [List.length_append]
    have := hdB_le hd
    omega
  have hll : l.length ≤ 1099511627776 := by omega
  obtain ⟨E, hE⟩ : ∃ E, E = l ++ hdB hd := ⟨_, rfl⟩
  rw [← hE] at hel
  have HE := Lib.hid hE
  obtain ⟨k, n, x⟩ := hd
  have hb0 := below_box w (.cells #[.int .i64 k, .int .i64 n, .int .i64 x] 38)
  have hh0 := hb_new w ⟨k, n, x⟩ 38
  have HB0 := Lib.hid hb0
  have HH0 := Lib.hid hh0
  simp only at HH0 h0
  clear hb0 hh0 hE
  go_enter Tryd.func4, Tryd.ntmps4
  (go_upto_region 3 with fail)
  generalize (w.alloc (.cells #[.int .i64 k, .int .i64 n, .int .i64 x] 38)) = W0 at *
  have HR := Lib.hid (fun (W : World) (hb : Below W0.heap.size W0 W) => (H.out.below HB0.out).below hb)
  have HS := Lib.hid (fun (W : World) (hb : Below W0.heap.size W0 W) => (⟨hb, (HH0.out.below hb).c0, (HH0.out.below hb).c1, (HH0.out.below hb).c2⟩ : Below W0.heap.size W0 W ∧ W.cell? ⟨w.heap.size, 0, none⟩ = some (.int .i64 k) ∧ W.cell? ⟨w.heap.size, 1, none⟩ = some (.int .i64 n) ∧ W.cell? ⟨w.heap.size, 2, none⟩ = some (.int .i64 x)))
  go_cut [5] from 12 (fun v5 W => W.ownsRow W0.heap.size 5 1 v5 E.length (bv E) ∧ Below W0.heap.size W0 W)
  case first =>
    go_region_held3 (fun W => Below W0.heap.size W0 W ∧ W.cell? ⟨w.heap.size, 0, none⟩ = some (.int .i64 k) ∧ W.cell? ⟨w.heap.size, 1, none⟩ = some (.int .i64 n) ∧ W.cell? ⟨w.heap.size, 2, none⟩ = some (.int .i64 x)) ((refine HS.out _ ?_; first | with_reducible assumption | with_reducible exact (Below.refl _ _).drew)) ((first | (go_at_call 18; go_split_ands; refine (toByteS_any _ _ l (HR.out _ (by with_reducible assumption)) hll).mono ?_; rintro e wa ⟨va, rfl, rfl, oa, ba⟩; have bba := below_grow (by with_reducible assumption : Below W0.heap.size W0 _) ba; have sa : Sl wa (.slice (some ⟨W0.heap.size, 0, none⟩) l.length l.length) (bv l) := own_sl oa (by intro e; cases e)) | (go_at_call 19; go_split_ands; refine (tohead_any ⟨k, n, x⟩ _).mono ?_; rintro e wb ⟨rfl, bb⟩; have bbb := below_grow (by with_reducible assumption : Below W0.heap.size W0 _) bb; have sb := sl_next (by with_reducible assumption) bb) | (go_at_call 14; go_split_ands; refine (puthead_spec _ _ l ⟨k, n, x⟩ (by with_reducible assumption) (by omega)).mono ?_; rintro e wc ⟨vc, rfl, nc, oc, bc⟩; have bbc := below_grow (by with_reducible assumption : Below W0.heap.size W0 _) bc; have sc := own_base oc (by have q := (by with_reducible assumption : Below W0.heap.size W0 wb); exact q.size))))
    all_goals
      have bcz := Lib.hid bbc
      go_wp2_with fail
      go_meet
      rw [HE.out]
      exact ⟨sc, bcz.out⟩
  case rest =>
    obtain ⟨o2, b02⟩ := hcut
    have hN2 := b02.size
    have hv2 : ∀ k, u5.ownBlock = some k → k < wc.heap.size := fun k hk => (o2.lt k hk).2
    have HT := Lib.hid hT
    clear hT
    go_wp2_with fail
    refine (toByteS_any wc _ l (HR.out _ b02) hll).mono ?_
    rintro e w3a ⟨v3, rfl, rfl, o3a, b3a⟩
    have b03a := b02.trans (b3a.mono b02.size)
    have p2a := own_below o2 b3a
    obtain ⟨_, c0, c1, c2⟩ := HS.out _ b03a
    clear o2 b02 b3a
    go_wp2_with fail
    refine (tohead_any ⟨k, n, x⟩ _).mono ?_
    rintro e w3 ⟨rfl, b3⟩
    have b03 := b03a.trans (b3.mono b03a.size)
    have p2 := own_below p2a b3
    have o3 := own_below o3a b3
    clear p2a o3a b03a b3 c0 c1 c2
    go_wp2_with fail
    refine (puthead_impl w3 _ l ⟨k, n, x⟩ (own_sl o3 (by intro e; cases e)) hll h0 (HT.out.below (HB0.out.trans (b03.mono HB0.out.size)))).mono ?_
    rintro e w4 ⟨v4, rfl, _, o4, b4⟩
    rw [← HE.out] at o4
    have b04 := b03.trans (b4.mono b03.size)
    have q2 := own_below p2 b4
    have q3 := own_below o3 b4
    have ce := eqByteS_yes w4 _ _ _ (own_reads o4) (own_reads q2) hel
    have S34 := Lib.hid (o3.lt _ rfl).2
    clear o3 p2 b03 b4
    go_wp2_with fail
    refine ce.mono ?_
    rintro e w5 ⟨rfl, b5⟩
    have b05 := b04.trans (b5.mono b04.size)
    have r2 := own_below q2 b5
    have r3 := own_below q3 b5
    have r4 := own_below o4 b5
    clear ce q2 q3 o4 b04 b5
    go_wp2_with fail
    refine (toByteS_any w5 _ l (HR.out _ b05) hll).mono ?_
    rintro e w6 ⟨v6, rfl, rfl, o6, b6⟩
    have b06 := b05.trans (b6.mono b05.size)
    have p2 := own_below r2 b6
    have p3 := own_below r3 b6
    have p4 := own_below r4 b6
    have ce := eqByteS_yes w6 _ _ _ (own_reads p3) (own_reads o6) hll
    clear r2 r3 r4 b05 b6 o6
    go_wp2_with fail
    refine ce.mono ?_
    rintro e w7 ⟨rfl, b7⟩
    have b07 := b06.trans (b7.mono b06.size)
    have q2 := own_below p2 b7
    have q3 := own_below p3 b7
    have q4 := own_below p4 b7
    clear ce p2 p3 p4 b06 b7
    go_wp2_with fail
    refine (markByteS_any w7 _ _ l q3 hll).mono ?_
    rintro e w8 ⟨rfl, o8, g, hg, hgg, b8⟩
    have hz : W0.heap.size ≤ wc.heap.size := hN2
    have b08 := only_below b07 b8 (by omega) b07.size
    have r2 := own_old q2 b8 (fun k hk => by have := hv2 k hk; omega)
    have r4 := own_new q4 b8 hgg (fun k hk => by have := S34.out; injection hk with hk; first | omega | (simp only at hk this; omega))
    clear q2 q3 q4 b07 b8 o8 hg hgg hz
    have hk : ¬ (1 + (l.length : Int) < 0) := by omega
    have ce := eqByteS_yes w8 _ _ _ (own_reads r4) (own_reads r2) hel
    go_wp2_with fail
    refine ce.mono ?_
    rintro e w9 ⟨rfl, b9⟩
    have b09 := b08.trans (b9.mono b08.size)
    have p2 := own_below r2 b9
    have p4 := own_below r4 b9
    clear ce r2 r4 b08 b9
    go_wp2_with fail
    refine (markByteS_any w9 _ _ _ p4 hel).mono ?_
    rintro e w10 ⟨rfl, o10, g, hg, hgg, b10⟩
    have s34 := S34.out
    have b010 := only_below b09 b10 (by omega) b09.size
    have q2 := own_old p2 b10 (fun k hk => by have := hv2 k hk; omega)
    clear p2 p4 b09 b10 hg hgg s34
    generalize hm : E.length = m at *
    have HM := Lib.hid hm
    clear hm
    have hk2 : ¬ (1 + (m : Int) < 0) := by omega
    have hk3 : ((1 + (m : Int)) != (1 + (m : Int))) = false := by simp
    have ch := heldByteS_any w10 _ m (own_reads o10) (by omega)
    go_wp2_with fail
    refine ch.mono ?_
    rintro e w11 ⟨rfl, b11⟩
    have b011 := b010.trans (b11.mono b010.size)
    have r2 := own_below q2 b11
    have r10 := own_below o10 b11
    clear ch q2 o10 b010 b11
    have HR2 := Lib.hid (fun (W : World) (hb : Below w11.heap.size w11 W) => HR.out W (b011.trans (hb.mono b011.size)))
    have HT2 := Lib.hid (fun (W : World) (hb : Below w11.heap.size w11 W) => HT.out.below (HB0.out.trans ((b011.trans (hb.mono b011.size)).mono HB0.out.size)))
    have HS2 := Lib.hid (fun (W : World) (hb : Below w11.heap.size w11 W) => (⟨hb, (HS.out W (b011.trans (hb.mono b011.size))).2⟩ : Below w11.heap.size w11 W ∧ W.cell? ⟨w.heap.size, 0, none⟩ = some (.int .i64 k) ∧ W.cell? ⟨w.heap.size, 1, none⟩ = some (.int .i64 n) ∧ W.cell? ⟨w.heap.size, 2, none⟩ = some (.int .i64 x)))
    have HB11 := Lib.hid b011
    have H2 := Lib.hid r2
    have H10 := Lib.hid r10
    clear b011 r2 r10
    (go_upto_region 22 with fail)
    go_cut [11] from 57 (fun v11 W => W.ownsRow w11.heap.size 5 1 v11 m (bv E) ∧ Below w11.heap.size w11 W)
    case first =>
      go_region_held3 (fun W => Below w11.heap.size w11 W ∧ W.cell? ⟨w.heap.size, 0, none⟩ = some (.int .i64 k) ∧ W.cell? ⟨w.heap.size, 1, none⟩ = some (.int .i64 n) ∧ W.cell? ⟨w.heap.size, 2, none⟩ = some (.int .i64 x)) ((refine HS2.out _ ?_; first | with_reducible assumption | with_reducible exact (Below.refl _ _).drew)) ((first | (go_at_call 18; go_split_ands; refine (toByteS_any _ _ l (HR2.out _ (by with_reducible assumption)) hll).mono ?_; rintro e wa ⟨va, rfl, rfl, oa, ba⟩; have bba := below_grow (by with_reducible assumption : Below w11.heap.size w11 _) ba; have sa : Sl wa (.slice (some ⟨w11.heap.size, 0, none⟩) l.length l.length) (bv l) := own_sl oa (by intro e; cases e)) | (go_at_call 19; go_split_ands; refine (tohead_any ⟨k, n, x⟩ _).mono ?_; rintro e wb ⟨rfl, bb⟩; have bbb := below_grow (by with_reducible assumption : Below w11.heap.size w11 _) bb; have sb := sl_next (by with_reducible assumption) bb) | (go_at_call 7; go_split_ands; refine (puthead_impl _ _ l ⟨k, n, x⟩ (by with_reducible assumption) hll h0 (HT2.out _ (by with_reducible assumption : Below w11.heap.size w11 _))).mono ?_; rintro e wc ⟨vc, rfl, nc, oc, bc⟩; have bbc := below_grow (by with_reducible assumption : Below w11.heap.size w11 _) bc; have sc := own_base oc (by have q := (by with_reducible assumption : Below w11.heap.size w11 wb); exact q.size))))
      all_goals
        have bcz := Lib.hid bbc
        go_wp2_with fail
        go_meet
        rw [← HE.out, HM.out] at sc
        exact ⟨sc, bcz.out⟩
    case rest =>
      obtain ⟨o13, b13⟩ := hcut
      have b013 := HB11.out.trans (b13.mono HB11.out.size)
      have q2 := own_below H2.out b13
      have q10 := own_below H10.out b13
      clear b13
      have ce := eqByteS_yes _ _ _ _ (own_reads o13) (own_reads q2) (by have := HM.out; omega)
      go_wp2_with fail
      refine ce.mono ?_
      rintro e w14 ⟨rfl, b14⟩
      have b014 := b013.trans (b14.mono b013.size)
      have r10 := own_below q10 b14
      clear ce q2 q10 b013 b14 o13
      have ch := heldByteS_any w14 _ m (own_reads r10) (by omega)
      go_wp2_with fail
      refine ch.mono ?_
      rintro e w15 ⟨rfl, b15⟩
      have b015 := b014.trans (b15.mono b014.size)
      clear ch r10 b014 b15
      go_wp2
      go_ret
      exact ⟨rfl, HB0.out.trans (b015.mono HB0.out.size)⟩

set_option maxRecDepth 100000 in
theorem contract (H : Type) (enc : TypeId × Value → H) (W : World) (base : Nat) (args : Array Value) (ds gs : List (DataW H)) (before : List MemPlace)
    (hval : ∀ (j : Nat) t v, Tryd.f4.params[j]? = some t → args[j]? = some v → Value.okWide Tryd.prog W .any base t v)
    (hW : DataW.Whole enc Tryd.prog Tryd.f4.params.toList Rows.fnExactPutHeadSpec.vars false W args.toList ds gs before)
    (hcond : ∀ k, (OpenSpec.ofChange Rows.fnExactPutHeadSpec).cond = some k → k H (ds ++ gs) = true)
    (hsz : (DataW.weightsEach Tryd.prog (Tryd.f4.params.toList ++ (OpenSpec.ofChange Rows.fnExactPutHeadSpec).bare.plain.varTypes Tryd.prog) (ds ++ gs)).all (· ≤ reachBytes) = true)
    (hL : laidMetH Tryd.prog Rows.fnExactPutHeadRow.laid W) :
    Calls Tryd.prog 4 args W fun e W' => ∃ v, e = .returned v ∧ Rows.fnExactPutHeadSpec.post enc Tryd.prog Tryd.f4 false true false false W args v W' := by
  have hW' := hW
  have hlt := hW'.lt
  obtain ⟨p, q, hA0, hV, rfl, hfz, hnd⟩ := hW
  have hA : DataW.TrodAll enc Tryd.prog W 0 (fun _ => true) true Tryd.f4.params.toList args.toList ds p := hA0
  rw [Tryd.params4] at hA hval hsz
  obtain ⟨v0, vs0, d0, ds0, p0, q0, hargs, rfl, rfl, h0, r0⟩ := trodAll_cons hA
  obtain ⟨v1, vs1, d1, ds1, p1, q1, rfl, rfl, rfl, h1, r1⟩ := trodAll_cons r0
  obtain ⟨rfl, rfl, rfl⟩ := trodAll_nil r1
  obtain rfl : args = #[v0, v1] := by cases args; simp_all
  obtain ⟨rfl, rfl⟩ := trodVars_none hV
  simp only [List.append_nil] at hW' hlt
  have hlt0 : ∀ x ∈ p0, x.block < W.heap.size := fun x hx => hlt x (by simp [hx])
  have hlt1 : ∀ x ∈ p1, x.block < W.heap.size := fun x hx => hlt x (by simp [hx])
  have hk0 := h0
  have hk1 := h1
  obtain ⟨c1, e1, u1, y1, z1, m1, n1, rfl, rfl, rfl, hy1, hz1, hm1⟩ := Joins.open_agg3 Tryd.underlying38 (by kernel_rfl) (by kernel_rfl) (hval 1 38 v1 rfl rfl) h1
  obtain ⟨a1, i1, rfl, w1⟩ := DataW.trod_int Tryd.underlying3 hy1
  obtain ⟨b1, k1, rfl, x1⟩ := DataW.trod_int Tryd.underlying3 hz1
  obtain ⟨g1, o1, rfl, t1⟩ := DataW.trod_int Tryd.underlying3 hm1
  simp at i1 k1 o1
  subst i1 k1 o1
  clear hA0 hA
  have fin : ∀ W' : World, Below W.heap.size W W' → Rows.fnExactPutHeadSpec.post enc Tryd.prog Tryd.f4 false true false false W _ (.bool true) W' := fun W' hb =>
    ⟨_, _, _, [], _, [], hW', trodAll_mk1 (shut_bool Tryd.underlying4 _), (trodAll_cons_mk (Below.trod laidOut (by kernel_rfl) (of_decide_eq_true (by kernel_rfl)) hk0 hb hlt0) (trodAll_cons_mk (Below.trod laidOut (by kernel_rfl) (of_decide_eq_true (by kernel_rfl)) hk1 hb hlt1) trodAll_mk0)), rfl, hb.frame _, fun h => by cases h⟩
  refine Calls.mono (R := fun e w' => e = .returned (.bool true) ∧ Below W.heap.size W w') ?_ (fun e W' h => ⟨_, h.1, fin W' h.2⟩)
  clear fin
  obtain ⟨l, hR, hm⟩ := open_bytes (hval 0 _ v0 rfl rfl) h0
  by_cases hl : 1048576 < l.length
  · exact walk_long v0 ⟨a1, b1, g1⟩ l W hR hl hm
  · exact walk v0 ⟨a1, b1, g1⟩ l W hR (by omega) (wf_le x1).1 (tabs_tz hL)

theorem laid_met (os : Os) : laidMet Tryd.prog Rows.fnExactPutHeadRow.laid (((World.doorLaid Tryd.prog 4000 os)).forCall (fun _ _ => 0) ⟨#[], #[.slice none 0 0, .agg #[.int .i64 0, .int .i64 0, .int .i64 0]], []⟩).memory :=
  (laidMet_of_run' 8 (by kernel_rfl) (by kernel_rfl))
theorem reads (os : Os) {H : Type} (enc : TypeId × Value → H) : ∃ places, DataW.whole enc Tryd.prog (((World.doorLaid Tryd.prog 4000 os)).forCall (fun _ _ => 0) ⟨#[], #[.slice none 0 0, .agg #[.int .i64 0, .int .i64 0, .int .i64 0]], []⟩).memory Tryd.f4.params.toList Rows.fnExactPutHeadSpec.vars false (#[.slice none 0 0, .agg #[.int .i64 0, .int .i64 0, .int .i64 0]] : Array Value).toList 8 = some ([.nil, .agg [.lit (.int .i64 0), .lit (.int .i64 0), .lit (.int .i64 0)]], [], places) :=
  ⟨[], by kernel_rfl⟩

set_option maxRecDepth 100000 in
theorem lifted (os : Os) (started : os.Started) (H : Type) (enc : TypeId × Value → H) (F : Stop.Interp) :
    ReturnsInHanded {} Tryd.checked os 4 .any ((OpenSpec.ofChange Rows.fnExactPutHeadSpec).preRow enc Tryd.prog Tryd.f4 Rows.fnExactPutHeadRow.domain false Rows.fnExactPutHeadRow.laid) (((OpenSpec.ofChange Rows.fnExactPutHeadSpec).at F).post enc Tryd.prog Tryd.f4 false true false false) := by
  obtain ⟨places, hx⟩ := reads os enc
  refine returnsInHanded_of_row (C := Tryd.checked) (s := OpenSpec.ofChange Rows.fnExactPutHeadSpec) own started (by kernel_rfl) Tryd.func4
    (witness_row_atRef (enc := enc) (C := Tryd.checked) false (World.doorLaid Tryd.prog 4000 os) #[.slice none 0 0, .agg #[.int .i64 0, .int .i64 0, .int .i64 0]] rfl (by kernel_rfl) (by kernel_rfl) (by kernel_rfl)
      (OpenSpec.preRow_of_cond 8 hx (by kernel_rfl) (fun k hk => by cases hk) (by kernel_rfl) (laid_met os))) ?_
  intro W base args ds gs before hval hW _ hcond hsz hL _ _
  exact contract H enc W base args ds gs before hval hW hcond hsz hL

theorem said : Rows.FnExactPutHeadSaid :=
  OpenClaim.holds_of_cond 4 Tryd.f4 rfl rfl rfl rfl rfl rfl rfl ⟨rfl, rfl, rfl, rfl, rfl⟩ rfl rfl rfl rfl rfl (by kernel_rfl) Tryd.func4 (by kernel_rfl)
    (of_decide_eq_true (by kernel_rfl)) (by unfold Func.isWrapper; first | (rw [if_pos (by decide +kernel)]; kernel_rfl) | (rw [if_neg (by decide +kernel)]; exact ⟨rfl, rfl⟩))
    (fun os started H enc _ F => by rw [OpenClaim.pre_eq_preRow]; exact lifted os started H enc F)

theorem plain (f : FuncId) (fn : Func) (hf : Tryd.pinned.checked.prog.funcNamed Rows.fnExactPutHeadRow.func = some f) (hfn : Tryd.pinned.checked.prog.funcs[f]? = some fn) :
    false = Tryd.pinned.checked.prog.looks [] ∧ ∀ (j : Nat) t, fn.params[j]? = some t → Tryd.pinned.checked.prog.wantsStandIn t = false := by
  obtain rfl : f = 4 := Option.some.inj ((show Tryd.prog.funcNamed Rows.fnExactPutHeadRow.func = some 4 by kernel_rfl).symm.trans hf) |>.symm
  obtain rfl : fn = Tryd.f4 := (Option.some.inj (Tryd.func4.symm.trans hfn)).symm
  refine ⟨by kernel_rfl, fun j t ht => ?_⟩
  rw [Tryd.params4] at ht
  have hm : t ∈ [22, 38] := by simpa using Array.mem_of_getElem? ht
  have hall : ([22, 38].all fun u => !Tryd.prog.wantsStandIn u) = true := by kernel_rfl
  exact (show Tryd.prog.wantsStandIn t = false by simpa using List.all_eq_true.1 hall t hm)

theorem proved : Rows.FnExactPutHeadCardSaid :=
  Claim7.holds_tied_plain_at .later [] _ _ _ _ said (fun _ h => by cases h) (by kernel_rfl) (fun _ h => by cases h) fnExactPutHead_row_tie rfl ⟨rfl, rfl⟩ (by kernel_rfl) rfl plain (by kernel_rfl)
#print axioms proved
end Go.Proofs.YtblaaiggmhadfaaDoor.fnExactPutHead
