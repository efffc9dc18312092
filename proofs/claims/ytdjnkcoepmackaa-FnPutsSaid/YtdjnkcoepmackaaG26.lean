import Derived.Test.YtdjnkcoepmackaaG25
import Derived.StillTailTactics
import Derived.Test.YtdjnkcoepmackaaG23
/- PutAt of the model. -/
namespace Go.Proofs.Ytdjnkcoepmackaa
open Go.RowKit
set_option maxRecDepth 100000
/-- the boxes of a call of PutAt: the tree, what is put, the result -/
structure PB (w W : World) (T X : AT) : Prop where
  t : VC W w.heap.size T.k T.n T.x ⟨T.s.toArray⟩ T.a T.l.length T.cap
  x : VC W (w.heap.size + 1) X.k X.n X.x ⟨X.s.toArray⟩ X.a X.l.length X.cap
  z : VC W (w.heap.size + 2) 0 0 0 ⟨#[]⟩ none 0 0
  zf : ∀ o, W.frozen? ⟨w.heap.size + 2, o, none⟩ = false
  b : Below w.heap.size w W
  sz : w.heap.size + 3 ≤ W.heap.size
theorem PB.keep {w W W' : World} {T X : AT} (h : PB w W T X) (hb : Below W.heap.size W W') : PB w W' T X where
  t := h.t.blw hb
  x := h.x.blw hb
  z := h.z.blw hb
  zf o := by have := h.sz; rw [frozen_blk' (hb.block _ (by omega))]; exact h.zf o
  b := h.b.trans (hb.mono (by have := h.sz; omega))
  sz := Nat.le_trans h.sz hb.size
theorem PB.start (w : World) (T X : AT) (t : TypeId) : PB w (((w.alloc (.cells #[.int .i64 T.k, .int .i64 T.n, .int .i64 T.x, .string ⟨T.s.toArray⟩, .slice T.a T.l.length T.cap] t)).alloc (.cells #[.int .i64 X.k, .int .i64 X.n, .int .i64 X.x, .string ⟨X.s.toArray⟩, .slice X.a X.l.length X.cap] t)).alloc (.cells #[.int .i64 0, .int .i64 0, .int .i64 0, .string ⟨#[]⟩, .slice none 0 0] t)) T X := by
  refine ⟨⟨?_, ?_, ?_, ?_, ?_⟩, ⟨?_, ?_, ?_, ?_, ?_⟩, ⟨?_, ?_, ?_, ?_, ?_⟩, fun o => ?_, boxes3 w _ _ _, by simp⟩ <;> simp [go_sem]
/-- .. and the copy in its box -/
structure PO (w W : World) (T X : AT) (bo : Nat) (O : AT) : Prop where
  pb : PB w W T X
  o : VC W bo O.k O.n O.x ⟨O.s.toArray⟩ O.a O.l.length O.cap
  own : O.Own W (w.heap.size + 3)
  nd : O.blks.Nodup
  out : bo ∉ O.blks
  lo : w.heap.size + 3 ≤ bo
theorem PO.keep {w W W' : World} {T X : AT} {bo : Nat} {O : AT} (h : PO w W T X bo O) (hb : Below W.heap.size W W') : PO w W' T X bo O :=
  ⟨h.pb.keep hb, h.o.blw hb, h.own.blw hb, h.nd, h.out, h.lo⟩
theorem PO.start {w W1 w1 : World} {T X O : AT} {t : TypeId} (h : PB w W1 T X) (hO : O.Own w1 W1.heap.size) (hN : O.blks.Nodup) (hb : Below W1.heap.size W1 w1) :
    PO w (w1.alloc (.cells #[.int .i64 O.k, .int .i64 O.n, .int .i64 O.x, .string ⟨O.s.toArray⟩, .slice O.a O.l.length O.cap] t)) T X w1.heap.size O where
  pb := (h.keep hb).keep (vbox _ _)
  o := by obtain ⟨v0, v1, v2, v3, v4⟩ := vcells5 w1 O t; exact ⟨v0, v1, v2, v3, v4⟩
  own := (hO.blw (vbox _ _)).base h.sz
  nd := hN
  out := fun hk => by have := (hO.lt _ hk).2; omega
  lo := Nat.le_trans h.sz hb.size
set_option maxHeartbeats 4000000 in
theorem putat_nil (T X : AT) (a : Option Addr) (cap : Nat) (w : World) (N : Nat) (hinX : X.In w N) (hxs : X.pt.sz ≤ 1048576) (hN : N ≤ w.heap.size) :
    Calls Try.prog 44 #[T.val, .slice a 0 cap, X.val] w (LookPost w (X.pt, true)) := by
  have HCP := Lib.hid (fun (w1 : World) (hb : Below w.heap.size w w1) => l6Copy_any X hxs w1 N (hinX.blw hb hN) (Nat.le_trans hN hb.size))
  have hpb := PB.start w T X 28
  show Calls Try.prog 44 #[.agg #[.int .i64 T.k, .int .i64 T.n, .int .i64 T.x, .string ⟨T.s.toArray⟩, .slice T.a T.l.length T.cap], .slice a 0 cap, .agg #[.int .i64 X.k, .int .i64 X.n, .int .i64 X.x, .string ⟨X.s.toArray⟩, .slice X.a X.l.length X.cap]] w _
  go_enter Try.func44, Try.ntmps44
  go_wp2_with fail
  generalize (((w.alloc (.cells #[.int .i64 T.k, .int .i64 T.n, .int .i64 T.x, .string ⟨T.s.toArray⟩, .slice T.a T.l.length T.cap] 28)).alloc (.cells #[.int .i64 X.k, .int .i64 X.n, .int .i64 X.x, .string ⟨X.s.toArray⟩, .slice X.a X.l.length X.cap] 28)).alloc (.cells #[.int .i64 0, .int .i64 0, .int .i64 0, .string ⟨#[]⟩, .slice none 0 0] 28)) = W0 at *
  have HPB := Lib.hid hpb
  clear hpb
  refine (HCP.out _ HPB.out.b).mono ?_
  rintro e w1 ⟨Y, hY, rfl, hO, hNd, hb1⟩
  have HPB1 := Lib.hid (HPB.out.keep hb1)
  obtain ⟨z0, z1, z2, z3, z4⟩ := HPB1.out.z
  have zf := HPB1.out.zf
  have HFD := Lib.hid (look_put (w := w) (B := w.heap.size + 2) (bv := true) hY (hO.base HPB.out.b.size) hNd HPB1.out.b (by omega) (fun hk => by have := (hO.lt _ hk).1; have := HPB.out.sz; omega))
  clear hY hO hNd hb1
  go_wp2
  refine bodyPost_ret (v := .tuple #[.agg #[.int .i64 Y.k, .int .i64 Y.n, .int .i64 Y.x, .string ⟨Y.s.toArray⟩, .slice Y.a Y.l.length Y.cap], .bool true]) (by simp [results, Try.results44, go_sem, z0, z1, z2, z3, z4]) rfl ?_
  exact HFD.out
theorem look_as {w W : World} {B : Nat} {X O : AT} {p : PT} {bv : Bool} {oa : Option Addr} (ha : O.a = oa) (hv : X.k = O.k ∧ X.n = O.n ∧ X.x = O.x ∧ X.s = O.s ∧ X.a = O.a ∧ X.l.length = O.l.length ∧ X.cap = O.cap) (hX : X.pt = p) (hO : X.Own W w.heap.size) (hN : X.blks.Nodup) (hB : Below w.heap.size w W) (hz : w.heap.size ≤ B) (hk : B ∉ X.blks) :
    LookPost w (p, bv) (.returned (.tuple #[.agg #[.int .i64 O.k, .int .i64 O.n, .int .i64 O.x, .string ⟨O.s.toArray⟩, .slice oa O.l.length O.cap], .bool bv])) (((((W.setCell ⟨B, 0, none⟩ (.int .i64 O.k)).setCell ⟨B, 1, none⟩ (.int .i64 O.n)).setCell ⟨B, 2, none⟩ (.int .i64 O.x)).setCell ⟨B, 3, none⟩ (.string ⟨O.s.toArray⟩)).setCell ⟨B, 4, none⟩ (.slice oa O.l.length O.cap)) := by
  subst ha
  have := look_put (bv := bv) hX hO hN hB hz hk
  obtain ⟨h1, h2, h3, h4, h5, h6, h7⟩ := hv
  unfold AT.val at this
  rw [h1, h2, h3, h4, h5, h6, h7] at this
  exact this
theorem setL_as (O G : AT) (j : Nat) : let X := O.setL j G; X.k = O.k ∧ X.n = O.n ∧ X.x = O.x ∧ X.s = O.s ∧ X.a = O.a ∧ X.l.length = O.l.length ∧ X.cap = O.cap := by
  obtain ⟨k, n, x, s, a, cap, l⟩ := O
  simp [AT.setL, AT.k, AT.n, AT.x, AT.s, AT.a, AT.cap, AT.l]
theorem put_one {O : AT} {j : Nat} (hj : j < O.l.length) (G : AT) : AT.put [j] O G = O.setL j G := by simp [AT.put, List.getElem?_eq_getElem hj]
theorem len_pt {T O : AT} (h : O.pt = T.pt) : O.l.length = T.l.length := by
  have := congrArg (fun t => (PT.l t).length) h
  simpa [ptl] using this
theorem put5_below {w W : World} {b o : Nat} {G : AT} (h : Below w.heap.size w W) (hb : w.heap.size ≤ b) : Below w.heap.size w (put5 W b o G) := bset (bset (bset (bset (bset h hb) hb) hb) hb) hb
theorem VC.put5 {W : World} {b g o : Nat} {k n x : Int} {s : ByteArray} {a : Option Addr} {len cap : Nat} {G : AT} (h : VC W b k n x s a len cap) (hb : b ≠ g) : VC (put5 W g o G) b k n x s a len cap := ((((h.other hb).other hb).other hb).other hb).other hb
theorem frozen_put5 {W : World} {b g o : Nat} {G : AT} (h : ∀ q, W.frozen? ⟨b, q, none⟩ = false) (q : Nat) : (put5 W g o G).frozen? ⟨b, q, none⟩ = false := by
  simp [put5, go_sem, h q]
set_option maxHeartbeats 4000000 in
theorem putat_cons (s : St) (l : List St) (T X : AT) (b o cap : Nat) (w : World) (N : Nat) (hin : T.In w N) (hs : SAt w N (some ⟨b, o, none⟩) cap (s :: l)) (hsz : T.pt.sz ≤ 1048576) (hl : l.length ≤ 1048576) (hN : N ≤ w.heap.size)
    (ih : ∀ (a2 : Option Addr) (U : AT) (w1 : World), SAt w N a2 (cap - 1) l → U.pt.sz ≤ 1048576 → U.In w1 N → Below w.heap.size w w1 → Calls Try.prog 44 #[U.val, .slice a2 l.length (cap - 1), X.val] w1 (LookPost w1 (putR U.pt (PT.putO l U.pt X.pt)))) :
    Calls Try.prog 44 #[T.val, .slice (some ⟨b, o, none⟩) (s :: l).length cap, X.val] w (LookPost w (putR T.pt (PT.putO (s :: l) T.pt X.pt))) := by
  have hll : T.l.length ≤ 1048576 := by have := len_le_sz T; omega
  have HPL0 := Lib.hid (fun (w1 : World) => place_spec T s w1 hll)
  have HCP := Lib.hid (fun (w1 : World) (hb : Below w.heap.size w w1) => l6Copy_any T hsz w1 N (hin.blw hb hN) (Nat.le_trans hN hb.size))
  obtain ⟨b', o', he, hbN, p0, p1⟩ := hs.cell 0 (by simp)
  injection he with he
  injection he with e1 e2
  subst e1 e2
  rw [Nat.zero_mul, Nat.add_zero] at p0 p1
  have hcap := hs.hc
  simp only [List.length_cons, List.getElem_cons_zero] at hcap p0 p1
  have HP0 := Lib.hid (fun (W : World) (hb : Below w.heap.size w W) => (show W.cell? ⟨b, o, none⟩ = some (.int .i64 s.1) ∧ W.cell? ⟨b, o + 1, none⟩ = some (.bool s.2) from ⟨(hb.cell (p := ⟨b, o, none⟩) (by show b < w.heap.size; omega)).trans p0, (hb.cell (p := ⟨b, o + 1, none⟩) (by show b < w.heap.size; omega)).trans p1⟩))
  have HLV := Lib.hid hin.lv'
  have hs2 : SAt w N (if cap = 1 then some ⟨b, o, none⟩ else some ⟨b, o + 2, none⟩) (cap - 1) l := by
    by_cases hc : cap = 1
    · have h0 : l = [] := List.eq_nil_of_length_eq_zero (by have := hs.hc; simp at this; omega)
      rw [if_pos hc, h0]; exact SAt.nil _ _ _ _
    · rw [if_neg hc]; exact hs.tail
  obtain ⟨a2, hif⟩ : ∃ a2, (if cap = 1 then some (⟨b, o, none⟩ : Addr) else some ⟨b, o + 2, none⟩) = a2 := ⟨_, rfl⟩
  rw [hif] at hs2
  have IH := Lib.hid (fun U w1 h1 h2 h3 => ih a2 U w1 hs2 h1 h2 h3)
  have hpb := PB.start w T X 28
  have hlz : ((l.length : Int) + 1 == 0) = false := by simp; omega
  clear ih p0 p1 hs hs2
  show Calls Try.prog 44 #[.agg #[.int .i64 T.k, .int .i64 T.n, .int .i64 T.x, .string ⟨T.s.toArray⟩, .slice T.a T.l.length T.cap], .slice (some ⟨b, o, none⟩) (l.length + 1) cap, .agg #[.int .i64 X.k, .int .i64 X.n, .int .i64 X.x, .string ⟨X.s.toArray⟩, .slice X.a X.l.length X.cap]] w _
  cases hp : plc T.k T.l.length s with
  | none =>
    have HPL : Hid (∀ W : World, Calls Try.prog 109 #[.agg #[.int .i64 T.k, .int .i64 T.n, .int .i64 T.x, .string ⟨T.s.toArray⟩, .slice T.a T.l.length T.cap], .agg #[.int .i64 s.1, .bool s.2]] W fun e w' => e = .returned (.int .i64 (-1)) ∧ Below W.heap.size W w') := Lib.hid (fun W => by have := HPL0.out W; rw [plI_no hp] at this; exact this)
    rw [putO_none hp]
    clear hp HPL0 hin
    go_enter Try.func44, Try.ntmps44
    go_wp2_with fail
    generalize (((w.alloc (.cells #[.int .i64 T.k, .int .i64 T.n, .int .i64 T.x, .string ⟨T.s.toArray⟩, .slice T.a T.l.length T.cap] 28)).alloc (.cells #[.int .i64 X.k, .int .i64 X.n, .int .i64 X.x, .string ⟨X.s.toArray⟩, .slice X.a X.l.length X.cap] 28)).alloc (.cells #[.int .i64 0, .int .i64 0, .int .i64 0, .string ⟨#[]⟩, .slice none 0 0] 28)) = W0 at *
    have HPB := Lib.hid hpb
    clear hpb
    refine (HCP.out _ HPB.out.b).mono ?_
    rintro e w1 ⟨O, hO, rfl, hOw, hOn, hb1⟩
    have hpo := PO.start (t := 28) HPB.out hOw hOn hb1
    have HO := Lib.hid hO
    clear hO hOw hOn hb1
    go_wp2_with fail
    generalize (w1.alloc (.cells #[.int .i64 O.k, .int .i64 O.n, .int .i64 O.x, .string ⟨O.s.toArray⟩, .slice O.a O.l.length O.cap] 28)) = W1 at *
    generalize w1.heap.size = bo at *
    have HPO := Lib.hid hpo
    clear hpo
    obtain ⟨c0, c1, c2, c3, c4⟩ := HPO.out.pb.t
    obtain ⟨p0, p1⟩ := HP0.out _ HPO.out.pb.b
    go_still_tail 4, (by kernel_rfl)
    go_wp2_with fail
    refine (HPL.out _).mono ?_
    rintro e w2 ⟨rfl, hb2⟩
    have HPO2 := Lib.hid (HPO.out.keep (((Below.refl W1.heap.size W1).drew).trans hb2))
    clear c0 c1 c2 c3 c4 p0 p1 hb2
    obtain ⟨c0, c1, c2, c3, c4⟩ := HPO2.out.o
    obtain ⟨z0, z1, z2, z3, z4⟩ := HPO2.out.pb.z
    have zf := HPO2.out.pb.zf
    have HFD := Lib.hid (look_put (w := w) (B := w.heap.size + 2) (bv := false) HO.out (HPO2.out.own.base (by omega)) HPO2.out.nd HPO2.out.pb.b (by omega) (fun hk => by have := (HPO2.out.own.lt _ hk).1; omega))
    go_wp2
    refine bodyPost_ret (v := .tuple #[.agg #[.int .i64 O.k, .int .i64 O.n, .int .i64 O.x, .string ⟨O.s.toArray⟩, .slice O.a O.l.length O.cap], .bool false]) (by simp [results, Try.results44, go_sem, z0, z1, z2, z3, z4]) rfl ?_
    exact HFD.out
  | some j =>
    have hj := plc_lt hp
    have HPL : Hid (∀ W : World, Calls Try.prog 109 #[.agg #[.int .i64 T.k, .int .i64 T.n, .int .i64 T.x, .string ⟨T.s.toArray⟩, .slice T.a T.l.length T.cap], .agg #[.int .i64 s.1, .bool s.2]] W fun e w' => e = .returned (.int .i64 (j : Int)) ∧ Below W.heap.size W w') := Lib.hid (fun W => by
      have := HPL0.out W
      have e : plI T.k T.l.length s = (j : Int) := by unfold plI; rw [hp]
      rw [e] at this; exact this)
    rw [putO_some hp hj]
    obtain ⟨b2, o2, ha, hbN2, hC⟩ := HLV.out.cell j hj
    have HC := Lib.hid hC
    have hsv : (T.l[j]).pt.sz ≤ 1048576 := Nat.le_trans (sz_sub (by rw [ptl]; exact List.mem_map_of_mem (List.getElem_mem hj))) hsz
    have HIH0 := Lib.hid (fun (w1 : World) (hb : Below w.heap.size w w1) => IH.out T.l[j] w1 hsv ((HLV.out.sub _ (List.getElem_mem hj)).blw hb hN) hb)
    obtain ⟨U, hU⟩ : ∃ U, U = T.l[j] := ⟨_, rfl⟩
    rw [← hU] at HC HIH0 ⊢
    obtain ⟨p2, bv2, hst⟩ : ∃ p2 bv2, (p2, bv2) = putR U.pt (PT.putO l U.pt X.pt) := ⟨_, _, rfl⟩
    have HIH : Hid (∀ (w1 : World), Below w.heap.size w w1 → Calls Try.prog 44 #[.agg #[.int .i64 U.k, .int .i64 U.n, .int .i64 U.x, .string ⟨U.s.toArray⟩, .slice U.a U.l.length U.cap], .slice a2 l.length (cap - 1), .agg #[.int .i64 X.k, .int .i64 X.n, .int .i64 X.x, .string ⟨X.s.toArray⟩, .slice X.a X.l.length X.cap]] w1 (LookPost w1 (p2, bv2))) := Lib.hid (by rw [hst]; exact HIH0.out)
    have HST := Lib.hid hst
    have HA := Lib.hid ha
    have hj0 : ¬ ((j : Int) < 0) := by omega
    clear hp HPL0 hin hC HIH0 hst ha hU hsv
    go_enter Try.func44, Try.ntmps44
    go_wp2_with fail
    generalize (((w.alloc (.cells #[.int .i64 T.k, .int .i64 T.n, .int .i64 T.x, .string ⟨T.s.toArray⟩, .slice T.a T.l.length T.cap] 28)).alloc (.cells #[.int .i64 X.k, .int .i64 X.n, .int .i64 X.x, .string ⟨X.s.toArray⟩, .slice X.a X.l.length X.cap] 28)).alloc (.cells #[.int .i64 0, .int .i64 0, .int .i64 0, .string ⟨#[]⟩, .slice none 0 0] 28)) = W0 at *
    have HPB := Lib.hid hpb
    clear hpb
    refine (HCP.out _ HPB.out.b).mono ?_
    rintro e w1 ⟨O, hO, rfl, hOw, hOn, hb1⟩
    have hpo := PO.start (t := 28) HPB.out hOw hOn hb1
    have HO := Lib.hid hO
    clear hO hOw hOn hb1
    go_wp2_with fail
    generalize (w1.alloc (.cells #[.int .i64 O.k, .int .i64 O.n, .int .i64 O.x, .string ⟨O.s.toArray⟩, .slice O.a O.l.length O.cap] 28)) = W1 at *
    generalize w1.heap.size = bo at *
    have HPO := Lib.hid hpo
    clear hpo
    obtain ⟨c0, c1, c2, c3, c4⟩ := HPO.out.pb.t
    obtain ⟨p0, p1⟩ := HP0.out _ HPO.out.pb.b
    go_still_tail 4, (by kernel_rfl)
    go_wp2_with fail
    refine (HPL.out _).mono ?_
    rintro e w2 ⟨rfl, hb2⟩
    have HPO2 := Lib.hid (HPO.out.keep (((Below.refl W1.heap.size W1).drew).trans hb2))
    clear c0 c1 c2 c3 c4 p0 p1 hb2
    obtain ⟨c0, c1, c2, c3, c4⟩ := HPO2.out.pb.t
    obtain ⟨x0, x1, x2, x3, x4⟩ := HPO2.out.pb.x
    obtain ⟨f0, f1, f2, f3, f4⟩ := HC.out.keep (HPO2.out.pb.b.block b2 (by omega))
    rw [HA.out] at c4
    have hlc : (1 : Int) ≤ (l.length : Int) + 1 := by omega
    have hlc2 : (l.length : Int) + 1 ≤ (cap : Int) := by omega
    go_upto_region 7 with fail
    go_cut [10, 11] from 27 (fun v0 v1 W' => v1 = .bool bv2 ∧ ∃ (G : AT) (BG : Nat), v0 = .pointer (some ⟨BG, 0, none⟩) ∧ G.pt = p2 ∧ G.Own W' w2.heap.size ∧ G.blks.Nodup ∧ BG ∉ G.blks ∧ w2.heap.size ≤ BG ∧ Rl w2 W' ∧ W'.cell? ⟨BG, 0, none⟩ = some (.int .i64 G.k) ∧ W'.cell? ⟨BG, 1, none⟩ = some (.int .i64 G.n) ∧ W'.cell? ⟨BG, 2, none⟩ = some (.int .i64 G.x) ∧ W'.cell? ⟨BG, 3, none⟩ = some (.string ⟨G.s.toArray⟩) ∧ W'.cell? ⟨BG, 4, none⟩ = some (.slice G.a G.l.length G.cap))
    case first =>
      have hR0 := Rl.refl w2
      have HBW := Lib.hid (fun (W' : World) (h : Rl w2 W') => HPO2.out.pb.b.trans (h.b.mono HPO2.out.pb.b.size))
      have HK := Lib.hid (fun (W' : World) (h : Rl w2 W') => (show Rl w2 W' ∧ W'.cell? ⟨w.heap.size, 0, none⟩ = some (.int .i64 T.k) ∧ W'.cell? ⟨w.heap.size, 1, none⟩ = some (.int .i64 T.n) ∧ W'.cell? ⟨w.heap.size, 2, none⟩ = some (.int .i64 T.x) ∧ W'.cell? ⟨w.heap.size, 3, none⟩ = some (.string ⟨T.s.toArray⟩) ∧ W'.cell? ⟨w.heap.size, 4, none⟩ = some (.slice (some ⟨b2, o2, none⟩) T.l.length T.cap) ∧ W'.cell? ⟨w.heap.size + 1, 0, none⟩ = some (.int .i64 X.k) ∧ W'.cell? ⟨w.heap.size + 1, 1, none⟩ = some (.int .i64 X.n) ∧ W'.cell? ⟨w.heap.size + 1, 2, none⟩ = some (.int .i64 X.x) ∧ W'.cell? ⟨w.heap.size + 1, 3, none⟩ = some (.string ⟨X.s.toArray⟩) ∧ W'.cell? ⟨w.heap.size + 1, 4, none⟩ = some (.slice X.a X.l.length X.cap) ∧ W'.cell? ⟨b2, o2 + j * 5, none⟩ = some (.int .i64 U.k) ∧ W'.cell? ⟨b2, o2 + j * 5 + 1, none⟩ = some (.int .i64 U.n) ∧ W'.cell? ⟨b2, o2 + j * 5 + 2, none⟩ = some (.int .i64 U.x) ∧ W'.cell? ⟨b2, o2 + j * 5 + 3, none⟩ = some (.string ⟨U.s.toArray⟩) ∧ W'.cell? ⟨b2, o2 + j * 5 + 4, none⟩ = some (.slice U.a U.l.length U.cap) from ⟨h, keep_below h.b c0, keep_below h.b c1, keep_below h.b c2, keep_below h.b c3, keep_below h.b c4, keep_below h.b x0, keep_below h.b x1, keep_below h.b x2, keep_below h.b x3, keep_below h.b x4, keep_below h.b f0, keep_below h.b f1, keep_below h.b f2, keep_below h.b f3, keep_below h.b f4⟩))
      go_region_held3 (fun W' => Rl w2 W' ∧ W'.cell? ⟨w.heap.size, 0, none⟩ = some (.int .i64 T.k) ∧ W'.cell? ⟨w.heap.size, 1, none⟩ = some (.int .i64 T.n) ∧ W'.cell? ⟨w.heap.size, 2, none⟩ = some (.int .i64 T.x) ∧ W'.cell? ⟨w.heap.size, 3, none⟩ = some (.string ⟨T.s.toArray⟩) ∧ W'.cell? ⟨w.heap.size, 4, none⟩ = some (.slice (some ⟨b2, o2, none⟩) T.l.length T.cap) ∧ W'.cell? ⟨w.heap.size + 1, 0, none⟩ = some (.int .i64 X.k) ∧ W'.cell? ⟨w.heap.size + 1, 1, none⟩ = some (.int .i64 X.n) ∧ W'.cell? ⟨w.heap.size + 1, 2, none⟩ = some (.int .i64 X.x) ∧ W'.cell? ⟨w.heap.size + 1, 3, none⟩ = some (.string ⟨X.s.toArray⟩) ∧ W'.cell? ⟨w.heap.size + 1, 4, none⟩ = some (.slice X.a X.l.length X.cap) ∧ W'.cell? ⟨b2, o2 + j * 5, none⟩ = some (.int .i64 U.k) ∧ W'.cell? ⟨b2, o2 + j * 5 + 1, none⟩ = some (.int .i64 U.n) ∧ W'.cell? ⟨b2, o2 + j * 5 + 2, none⟩ = some (.int .i64 U.x) ∧ W'.cell? ⟨b2, o2 + j * 5 + 3, none⟩ = some (.string ⟨U.s.toArray⟩) ∧ W'.cell? ⟨b2, o2 + j * 5 + 4, none⟩ = some (.slice U.a U.l.length U.cap)) ((go_split_ands; refine HK.out _ ?_; first | with_reducible assumption | with_reducible exact (Rl.refl _).drew | with_reducible exact HRa.out | with_reducible exact Rl.alloc (by assumption) _ | with_reducible exact Rl.alloc HRa.out _ | with_reducible exact (Rl.alloc (Rl.refl _) _).drew | with_reducible exact Rl.drew (by assumption) | with_reducible exact Rl.five (by assumption) HRa.out.z | with_reducible exact Rl.five (by assumption) (Nat.le_refl _))) ((first | (go_at_call 44; go_split_ands; refine (HIH.out _ (HBW.out _ (by assumption))).mono ?_; rintro e wa ⟨G, hpa, rfl, hoa, hna, hba⟩; have HPG := Lib.hid hpa; have HOG := Lib.hid hoa; have HNG := Lib.hid hna; clear hpa hoa hna; have HRa := Lib.hid (Rl.below (W0 := w2) (by assumption) hba); (first | (have hz := mboxD hba; obtain ⟨z0, z1, z2, z3, z4, zf⟩ := hz) | (have hz := mbox hba; obtain ⟨z0, z1, z2, z3, z4, zf⟩ := hz) | skip))))
      all_goals (go_wp2_with fail; go_meet; (first | with_reducible exact ⟨rfl, G, _, rfl, HPG.out, leaf_last HRa.out (by first | exact Nat.le_refl _ | (simp; done)) HOG.out HNG.out⟩ | with_reducible exact ⟨rfl, G, _, rfl, HPG.out, leaf_early HRa.out (Nat.le_refl _) (by simp) (by simp) HOG.out HNG.out z0 z1 z2 z3 z4⟩))
    obtain ⟨hv, G, BG, rfl, hpG, hoG, hnG, hxG, hBg, hRg, d0, d1, d2, d3, d4⟩ := hcut
    subst hv
    have HG := Lib.hid hpG
    have HOG := Lib.hid hoG
    have HNG := Lib.hid hnG
    have HPO3 := Lib.hid (HPO2.out.keep hRg.b)
    have HDJ : Hid (∀ k ∈ G.blks, k ∉ O.blks) := Lib.hid (fun k hk hk2 => by have := (hoG.lt k hk).1; have := (HPO2.out.own.lt k hk2).2; omega)
    have HBO : Hid (bo ∉ G.blks) := Lib.hid (fun hk => by have := (hoG.lt _ hk).1; have := HPO2.out.o.lt; omega)
    have HWZ : Hid (w.heap.size + 3 ≤ w2.heap.size) := Lib.hid HPO2.out.pb.sz
    clear c0 c1 c2 c3 c4 x0 x1 x2 x3 x4 f0 f1 f2 f3 f4 hpG hoG hnG hxG hBg hRg
    obtain ⟨c0, c1, c2, c3, c4⟩ := HPO3.out.o
    obtain ⟨z0, z1, z2, z3, z4⟩ := HPO3.out.pb.z
    have zf := HPO3.out.pb.zf
    cases hcs : PT.putO l U.pt X.pt with
    | none =>
      rw [hcs] at HST
      obtain ⟨rfl, rfl⟩ := Prod.mk.inj HST.out
      have HFD := Lib.hid (look_put (w := w) (B := w.heap.size + 2) (bv := false) HO.out (HPO3.out.own.base (by omega)) HPO3.out.nd HPO3.out.pb.b (by omega) (fun hk => by have := (HPO3.out.own.lt _ hk).1; omega))
      have HCS := Lib.hid hcs
      clear hcs
      go_wp2
      refine bodyPost_ret (v := .tuple #[.agg #[.int .i64 O.k, .int .i64 O.n, .int .i64 O.x, .string ⟨O.s.toArray⟩, .slice O.a O.l.length O.cap], .bool false]) (by simp [results, Try.results44, go_sem, z0, z1, z2, z3, z4]) rfl ?_
      rw [HCS.out]
      exact HFD.out
    | some zt =>
      rw [hcs] at HST
      obtain ⟨rfl, rfl⟩ := Prod.mk.inj HST.out
      have hjO : j < O.l.length := by rw [len_pt HO.out]; exact hj
      obtain ⟨g, hga, hBg, hgl, hCg⟩ := own_cellL HPO3.out.own.l'.row j hjO
      rw [Nat.zero_add] at hCg
      have hfr := fun q => (show w.frozen? ⟨0, q, none⟩ = w.frozen? ⟨0, q, none⟩ from rfl)
      have hrow := HPO3.out.own.l'.row
      rw [hga] at hrow
      have HFR := Lib.hid hrow.frozenAt
      have hgbo : bo ≠ g := fun e => HPO3.out.out (by rw [AT.blks_eq, hga]; simp [e])
      have HPW := Lib.hid (put_own [j] O G O.l[j] wc (w.heap.size + 3) g (j * 5) HPO3.out.own HPO3.out.nd (by simp [AT.sub, List.getElem?_eq_getElem hjO]) (by simp [AT.spot, hga]) (HOG.out.base HWZ.out) HNG.out HDJ.out)
      rw [put_one hjO] at HPW
      have HPT : Hid ((O.setL j G).pt = (T.pt.setL j G.pt)) := Lib.hid (by rw [setL_pt, HO.out])
      have HB5 := Lib.hid (put5_below (o := j * 5) (G := G) HPO3.out.pb.b (by omega : w.heap.size ≤ g))
      have HFD := Lib.hid (fun bv => look_as (w := w) (B := w.heap.size + 2) (bv := bv) hga (setL_as O G j) HPT.out (HPW.out.1.base (by omega)) HPW.out.2.1 HB5.out (by omega) (fun hk => by
        rcases HPW.out.2.2.1 _ hk with h | h
        · have := (HPO3.out.own.lt _ h).1; omega
        · have := (HOG.out.lt _ h).1; have := HWZ.out; omega))
      obtain ⟨g0, g1, g2, g3, g4⟩ := hCg
      have hfr := HFR.out
      have ho5 := HPO3.out.o.put5 (o := j * 5) (G := G) hgbo
      have hz5 := HPO3.out.pb.z.put5 (o := j * 5) (G := G) (by omega : w.heap.size + 2 ≠ g)
      have hzf5 := fun q => frozen_put5 (g := g) (o := j * 5) (G := G) HPO3.out.pb.zf q
      have HO5 := Lib.hid ho5
      have HZ5 := Lib.hid hz5
      have HZF5 := Lib.hid hzf5
      have hj1 : (j : Int) < O.l.length := by omega
      rw [hga] at c4
      have HCS := Lib.hid hcs
      clear ho5 hz5 hzf5 hcs hrow
      go_wp2
      refine bodyPost_ret (v := .tuple #[.agg #[.int .i64 O.k, .int .i64 O.n, .int .i64 O.x, .string ⟨O.s.toArray⟩, .slice (some ⟨g, 0, none⟩) O.l.length O.cap], .bool true]) (by simp [results, Try.results44, go_sem, HZ5.out.c0, HZ5.out.c1, HZ5.out.c2, HZ5.out.c3, HZ5.out.c4]) rfl ?_
      rw [HCS.out]
      have hfd := HFD.out true
      rw [HG.out] at hfd
      exact hfd
theorem putat_spec : ∀ (l : List St) (a : Option Addr) (cap : Nat) (T X : AT) (w : World) (N : Nat), T.In w N → X.In w N → SAt w N a cap l → T.pt.sz ≤ 1048576 → X.pt.sz ≤ 1048576 → l.length ≤ 1048576 → N ≤ w.heap.size →
    Calls Try.prog 44 #[T.val, .slice a l.length cap, X.val] w (LookPost w (putR T.pt (PT.putO l T.pt X.pt)))
  | [], a, cap, T, X, w, N, _, hX, _, _, hxs, _, hN => putat_nil T X a cap w N hX hxs hN
  | s :: l, a, cap, T, X, w, N, hT, hX, hs, hts, hxs, hl, hN => by
    obtain ⟨b, o, rfl, _⟩ := hs.cell 0 (by simp)
    have hl2 : l.length ≤ 1048576 := by simp at hl; omega
    exact putat_cons s l T X b o cap w N hT hs hts hl2 hN fun a2 U w1 hs2 hU hin hb =>
      putat_spec l a2 (cap - 1) U X w1 N hin (hX.blw hb hN) (hs2.below hb hN) hU hxs hl2 (Nat.le_trans hN hb.size)
end Go.Proofs.Ytdjnkcoepmackaa
/- AtPath and StepVal of the program. -/
namespace Go.Proofs.Ytdjnkcoepmackaa
open Go.RowKit
set_option maxRecDepth 100000
/-- the head of AtPath's loop: the value reached lies in the argument's box -/
structure AtI (w wr : World) (B0 : Nat) (Y : AT) : Prop where
  z : VC wr (w.heap.size + 1) 0 0 0 ⟨#[]⟩ none 0 0
  zf : ∀ o, wr.frozen? ⟨w.heap.size + 1, o, none⟩ = false
  x : VC wr w.heap.size Y.k Y.n Y.x ⟨Y.s.toArray⟩ Y.a Y.l.length Y.cap
  xf : ∀ o, wr.frozen? ⟨w.heap.size, o, none⟩ = false
  own : Y.Own w B0
  below : Below w.heap.size w wr
theorem AtI.keep {w wr w' : World} {B0 : Nat} {Y : AT} (h : AtI w wr B0 Y) (hb : Below wr.heap.size wr w') : AtI w w' B0 Y where
  z := h.z.blw hb
  zf o := by rw [frozen_blk' (hb.block _ h.z.lt)]; exact h.zf o
  x := h.x.blw hb
  xf o := by rw [frozen_blk' (hb.block _ h.x.lt)]; exact h.xf o
  own := h.own
  below := h.below.trans (hb.mono h.below.size)
theorem AtI.next {w W : World} {B0 : Nat} {Y G : AT} (h : AtI w W B0 Y) (hG : G.Own w B0) :
    AtI w (((((W.setCell ⟨w.heap.size, 0, none⟩ (.int .i64 G.k)).setCell ⟨w.heap.size, 1, none⟩ (.int .i64 G.n)).setCell ⟨w.heap.size, 2, none⟩ (.int .i64 G.x)).setCell ⟨w.heap.size, 3, none⟩ (.string ⟨G.s.toArray⟩)).setCell ⟨w.heap.size, 4, none⟩ (.slice G.a G.l.length G.cap)) B0 G where
  z := ((((h.z.other (by omega)).other (by omega)).other (by omega)).other (by omega)).other (by omega)
  zf := frozen_set5 h.zf
  x := vset5 h.x
  xf := frozen_set5 h.xf
  own := hG
  below := bset (bset (bset (bset (bset h.below (Nat.le_refl _)) (Nat.le_refl _)) (Nat.le_refl _)) (Nat.le_refl _)) (Nat.le_refl _)
theorem found_last {w w1 w2 : World} {B : Nat} {X : AT} {t : PT} (hB : Below w.heap.size w w1) (hX : X.pt = t) (hO : X.Own w2 w1.heap.size) (hN : X.blks.Nodup) (hb : Below w1.heap.size w1 w2) (h1 : w.heap.size ≤ B) (h2 : B < w1.heap.size) :
    LookPost w (found (some t)) (.returned (.tuple #[X.val, .bool true])) (((((w2.setCell ⟨B, 0, none⟩ (.int .i64 X.k)).setCell ⟨B, 1, none⟩ (.int .i64 X.n)).setCell ⟨B, 2, none⟩ (.int .i64 X.x)).setCell ⟨B, 3, none⟩ (.string ⟨X.s.toArray⟩)).setCell ⟨B, 4, none⟩ (.slice X.a X.l.length X.cap)) :=
  found_some hX (hO.base hB.size) hN (hB.trans (hb.mono hB.size)) h1 (fun hk => by have := (hO.lt _ hk).1; omega)
set_option maxHeartbeats 4000000 in
theorem atpath_impl (T : AT) (l : List St) (a : Option Addr) (cap : Nat) (w : World) (B0 N : Nat) (hown : T.Own w B0) (hs : SAt w N a cap l) (hN : N ≤ w.heap.size) (hsz : T.pt.sz ≤ 1048576) (hl : l.length ≤ 1048576) : Calls Try.prog 45 #[T.val, .slice a l.length cap] w (LookPost w (found (PT.at' l T.pt))) := by
  have HS := Lib.hid hs
  have h3 := at_boxes w T.k T.n T.x ⟨T.s.toArray⟩ T.a T.l.length T.cap 28
  have hf0 : ∀ o, ((w.alloc (.cells #[.int .i64 T.k, .int .i64 T.n, .int .i64 T.x, .string ⟨T.s.toArray⟩, .slice T.a T.l.length T.cap] 28)).alloc (.cells #[.int .i64 0, .int .i64 0, .int .i64 0, .string ⟨#[]⟩, .slice none 0 0] 28)).frozen? ⟨w.heap.size, o, none⟩ = false := fun o => by simp [go_sem]
  obtain ⟨r, hr⟩ : ∃ r, r = found (PT.at' l T.pt) := ⟨_, rfl⟩
  rw [← hr]
  have HR := Lib.hid hr
  have HSZ := Lib.hid hsz
  have HO := Lib.hid hown
  clear hown hs hsz hr
  show Calls Try.prog 45 #[.agg #[.int .i64 T.k, .int .i64 T.n, .int .i64 T.x, .string ⟨T.s.toArray⟩, .slice T.a T.l.length T.cap], .slice a l.length cap] w _
  go_enter Try.func45, Try.ntmps45
  go_wp2_with fail
  try dsimp only at h3
  generalize ((w.alloc (.cells #[.int .i64 T.k, .int .i64 T.n, .int .i64 T.x, .string ⟨T.s.toArray⟩, .slice T.a T.l.length T.cap] 28)).alloc (.cells #[.int .i64 0, .int .i64 0, .int .i64 0, .string ⟨#[]⟩, .slice none 0 0] 28)) = W0 at *
  have HI : Hid (AtI w W0 B0 T) := Lib.hid ⟨h3.2.1, h3.2.2.1, h3.1, hf0, HO.out, h3.2.2.2.1⟩
  clear h3 hf0
  go_loopw [12] (fun i wr => ∃ (i' : Nat) (Y : AT), i = .int .i64 i' ∧ i' ≤ l.length ∧ Hid (r = found (PT.at' (l.drop i') Y.pt)) ∧ Hid (Y.pt.sz ≤ 1048576) ∧ Hid (AtI w wr B0 Y)) (fun i _ => l.length - (intOf i).toNat)
  case atStart => exact ⟨0, T, rfl, Nat.zero_le _, HR, HSZ, HI⟩
  case round =>
    obtain ⟨i', Y, rfl, hi', HRi, HSi, HIi⟩ := hrel
    by_cases hlt : i' < l.length
    · obtain ⟨g, o, rfl, hgN, p0, p1⟩ := HS.out.cell i' hlt
      have hbel := HIi.out.below
      replace p0 := (hbel.cell (p := ⟨g, o + i' * 2, none⟩) (by show g < w.heap.size; omega)).trans p0
      replace p1 := (hbel.cell (p := ⟨g, o + i' * 2 + 1, none⟩) (by show g < w.heap.size; omega)).trans p1
      have HD := Lib.hid (HRi.out.trans (by rw [at_drop hlt]))
      obtain ⟨s, hs⟩ : ∃ s : St, s = l[i'] := ⟨_, rfl⟩
      rw [← hs] at p0 p1 HD
      have hyl : Y.l.length ≤ 1048576 := by have := len_le_sz Y; have := HSi.out; omega
      have HEL0 := Lib.hid (fun W => element_impl Y s W hyl)
      have HIA := Lib.hid (HIi.out.keep (vbox wr (.cells #[.int .i64 s.1, .bool s.2] 105)))
      obtain ⟨c0, c1, c2, c3, c4⟩ := HIA.out.x
      have hzs := HIi.out.x.lt
      cases hp : plc Y.k Y.l.length s with
      | none =>
        have HEL : Hid (∀ W : World, Calls Try.prog 108 #[.agg #[.int .i64 Y.k, .int .i64 Y.n, .int .i64 Y.x, .string ⟨Y.s.toArray⟩, .slice Y.a Y.l.length Y.cap], .agg #[.int .i64 s.1, .bool s.2]] W fun e w' => e = .returned (.tuple #[.int .i64 0, .bool false]) ∧ Below W.heap.size W w') := Lib.hid (fun W => by have := HEL0.out W; rw [plV_no hp] at this; exact this)
        have HF : Hid (r = found none) := Lib.hid (by rw [HD.out, step_none hp]; rfl)
        clear hs hp hbel HEL0 HD
        go_wp2_with fail
        generalize (wr.alloc (.cells #[.int .i64 s.1, .bool s.2] 105)) = W1 at *
        refine (HEL.out _).mono ?_
        rintro e w2 ⟨rfl, hb2⟩
        have HI2 := Lib.hid (HIA.out.keep hb2)
        clear c0 c1 c2 c3 c4 hb2
        obtain ⟨z0, z1, z2, z3, z4⟩ := HI2.out.z
        have zf := HI2.out.zf
        go_wp2
        refine bodyPost_ret (v := .tuple #[.agg #[.int .i64 0, .int .i64 0, .int .i64 0, .string ⟨#[]⟩, .slice none 0 0], .bool false]) (by simp [results, Try.results45, go_sem, z0, z1, z2, z3, z4]) rfl ?_
        rw [HF.out]
        exact found_none HI2.out.below (by omega)
      | some j =>
        have hj := plc_lt hp
        have HEL : Hid (∀ W : World, Calls Try.prog 108 #[.agg #[.int .i64 Y.k, .int .i64 Y.n, .int .i64 Y.x, .string ⟨Y.s.toArray⟩, .slice Y.a Y.l.length Y.cap], .agg #[.int .i64 s.1, .bool s.2]] W fun e w' => e = .returned (.tuple #[.int .i64 (j : Int), .bool true]) ∧ Below W.heap.size W w') := Lib.hid (fun W => by
          have := HEL0.out W
          have e : plV Y.k Y.l.length s = .tuple #[.int .i64 (j : Int), .bool true] := by unfold plV; rw [hp]
          rw [e] at this; exact this)
        obtain ⟨b, o2, ha, hbN, hC⟩ := HIi.out.own.in.lv'.cell j hj
        have HC := Lib.hid hC
        have HGO := Lib.hid (HIi.out.own.l'.sub _ (List.getElem_mem hj))
        have HF : Hid (r = found (PT.at' (l.drop (i' + 1)) (Y.l[j]).pt)) := Lib.hid (by rw [HD.out, step_some hp hj]; rfl)
        have HS2 : Hid ((Y.l[j]).pt.sz ≤ 1048576) := Lib.hid (Nat.le_trans (sz_sub (by rw [ptl]; exact List.mem_map_of_mem (List.getElem_mem hj))) HSi.out)
        obtain ⟨G, hG⟩ : ∃ G, G = Y.l[j] := ⟨_, rfl⟩
        rw [← hG] at HC HF HS2 HGO
        have HA := Lib.hid ha
        clear hs hp hbel HEL0 HD ha hC hG
        go_wp2_with fail
        generalize (wr.alloc (.cells #[.int .i64 s.1, .bool s.2] 105)) = W1 at *
        refine (HEL.out _).mono ?_
        rintro e w2 ⟨rfl, hb2⟩
        have HI2 := Lib.hid (HIA.out.keep hb2)
        clear c0 c1 c2 c3 c4 hb2
        obtain ⟨c0, c1, c2, c3, c4⟩ := HI2.out.x
        have xf := HI2.out.xf
        obtain ⟨f0, f1, f2, f3, f4⟩ := HC.out.keep (HI2.out.below.block b hbN)
        have HNX := Lib.hid (HI2.out.next HGO.out)
        rw [HA.out] at c4
        go_wp2
        go_roundw
        case rel => exact ⟨i' + 1, G, by go_num, by omega, HF, HS2, HNX⟩
        case measure => simp [intOf]; omega
    · obtain ⟨c0, c1, c2, c3, c4⟩ := HIi.out.x
      have HF : Hid (r = (Y.pt, true)) := Lib.hid (by rw [HRi.out, List.drop_eq_nil_of_le (by omega)]; rfl)
      have hzs := HIi.out.z.lt
      have HCA := Lib.hid (copied_any Y wr B0 (HIi.out.own.kept fun k hk => HIi.out.below.block k (HIi.out.own.lt k hk).2) HSi.out)
      go_wp2_with fail
      refine HCA.out.mono ?_
      rintro e w2 ⟨X, hX, rfl, hO, hNd, hb2⟩
      have HI2 := Lib.hid (HIi.out.keep hb2)
      have HFD := Lib.hid (found_last (B := w.heap.size + 1) HIi.out.below hX hO hNd hb2 (by omega) hzs)
      obtain ⟨z0, z1, z2, z3, z4⟩ := HI2.out.z
      have zf := HI2.out.zf
      clear hX hO hNd hb2 c0 c1 c2 c3 c4
      go_wp2
      refine bodyPost_ret (v := .tuple #[.agg #[.int .i64 X.k, .int .i64 X.n, .int .i64 X.x, .string ⟨X.s.toArray⟩, .slice X.a X.l.length X.cap], .bool true]) (by simp [results, Try.results45, go_sem, z0, z1, z2, z3, z4]) rfl ?_
      rw [HF.out]
      exact HFD.out
theorem stepval_boxes (w : World) (k n x : Int) (s : ByteArray) (a : Option Addr) (len cap : Nat) (i : Int) (b : Bool) (t u : TypeId) :
    let W := (((w.alloc (.cells #[.int .i64 k, .int .i64 n, .int .i64 x, .string s, .slice a len cap] t)).alloc (.cells #[.int .i64 i, .bool b] u)).alloc (.cells #[.int .i64 0, .int .i64 0, .int .i64 0, .string ⟨#[]⟩, .slice none 0 0] t)).alloc (.cells #[.int .i64 i, .bool b] u)
    VC W (w.heap.size + 2) 0 0 0 ⟨#[]⟩ none 0 0 ∧ (∀ o, W.frozen? ⟨w.heap.size + 2, o, none⟩ = false) ∧ Below w.heap.size w W ∧ W.heap.size = w.heap.size + 4 ∧ SAt W W.heap.size (some ⟨w.heap.size + 3, 0, none⟩) 1 [(i, b)] := by
  refine ⟨⟨?_, ?_, ?_, ?_, ?_⟩, fun o => ?_, (boxes3 w _ _ _).alloc (by simp; omega) _, by simp, ⟨Nat.le_refl _, fun j hj => ?_⟩⟩
  case refine_7 =>
    obtain rfl : j = 0 := by simpa using hj
    refine ⟨_, _, rfl, by simp, ?_, ?_⟩ <;> simp [go_sem]
  all_goals simp [go_sem]
end Go.Proofs.Ytdjnkcoepmackaa
