/- PathText of the model. -/
import Derived.Test.YtgfebmnlcihpnaaDoorPathText
import Derived.Deep.CutRange
import Derived.Deep.RegionHeld3
namespace Go.Proofs.YtgfebmnlcihpnaaDoor
open Go.RowKit
set_option maxRecDepth 100000
/-- the head of PathText's loop: the value reached lies in the box B -/
structure AtT (w wr : World) (B : Nat) (X : AT) : Prop where
  x : VC wr B X.k X.n X.x ⟨X.s.toArray⟩ X.a X.l.length X.cap
  xf : ∀ o, wr.frozen? ⟨B, o, none⟩ = false
  hB : w.heap.size + 1 ≤ B
  own : X.Own wr (w.heap.size + 1)
  nd : X.blks.Nodup
  below : Below w.heap.size w wr
theorem AtT.keep {w wr w' : World} {B : Nat} {X : AT} (h : AtT w wr B X) (hb : Below wr.heap.size wr w') : AtT w w' B X where
  x := h.x.blw hb
  xf o := by rw [frozen_blk' (hb.block _ h.x.lt)]; exact h.xf o
  hB := h.hB
  own := h.own.blw hb
  nd := h.nd
  below := h.below.trans (hb.mono h.below.size)
theorem AtT.next {w W : World} {B N : Nat} {Y G : AT} (h : AtT w W B Y) (hO : G.Own W N) (hN : G.blks.Nodup) (hBN : B < N) (hz : w.heap.size + 1 ≤ N) :
    AtT w (((((W.setCell ⟨B, 0, none⟩ (.int .i64 G.k)).setCell ⟨B, 1, none⟩ (.int .i64 G.n)).setCell ⟨B, 2, none⟩ (.int .i64 G.x)).setCell ⟨B, 3, none⟩ (.string ⟨G.s.toArray⟩)).setCell ⟨B, 4, none⟩ (.slice G.a G.l.length G.cap)) B G := by
  have hout : B ∉ G.blks := fun hk => by have := (hO.lt _ hk).1; omega
  have hB := h.hB
  exact {
    x := vset5 h.x
    xf := frozen_set5 h.xf
    hB := hB
    own := AT.Own.base (B := N) (((((hO.setg' hout).setg' hout).setg' hout).setg' hout).setg' hout) (by omega)
    nd := hN
    below := bset (bset (bset (bset (bset h.below (by omega)) (by omega)) (by omega)) (by omega)) (by omega) }
theorem AtT.sub {w wr : World} {B : Nat} {X : AT} (h : AtT w wr B X) : w.heap.size ≤ wr.heap.size := h.below.size
set_option maxHeartbeats 4000000 in
theorem pathtext_spec (T : AT) (l : List St) (a : Option Addr) (cap : Nat) (w : World) (N : Nat) (hin : T.In w N) (hs : SAt w N a cap l) (hsz : T.pt.sz ≤ 1048576) (hl : l.length ≤ 1048576) (hN : N ≤ w.heap.size) (hi : ∀ s ∈ l, -9223372036854775808 ≤ s.1 ∧ s.1 ≤ 9223372036854775807) :
    Calls Tryd.prog 22 #[T.val, .slice a l.length cap] w fun e w' => e = .returned (.string ⟨(36 :: tailTx l T.pt).toArray⟩) ∧ Below w.heap.size w w' := by
  have HCP := Lib.hid (fun (w1 : World) (hb : Below w.heap.size w w1) => l6Copy_any T hsz w1 N (hin.blw hb hN) (Nat.le_trans hN hb.size))
  have HS := Lib.hid hs
  have HI := Lib.hid hi
  have hB := vbox w (.cells #[.int .i64 T.k, .int .i64 T.n, .int .i64 T.x, .string ⟨T.s.toArray⟩, .slice T.a T.l.length T.cap] 26)
  obtain ⟨r, hr⟩ : ∃ r, r = 36 :: tailTx l T.pt := ⟨_, rfl⟩
  rw [← hr]
  have HR := Lib.hid hr
  have HSZ := Lib.hid hsz
  clear hin hs hsz hr hi
  show Calls Tryd.prog 22 #[.agg #[.int .i64 T.k, .int .i64 T.n, .int .i64 T.x, .string ⟨T.s.toArray⟩, .slice T.a T.l.length T.cap], .slice a l.length cap] w _
  go_enter Tryd.func22, Tryd.ntmps22
  go_wp2_with fail
  refine (HCP.out _ hB).mono ?_
  rintro e w1 ⟨X, hX, rfl, hO, hNd, hb1⟩
  have hL : AtT w (w1.alloc (.cells #[.int .i64 X.k, .int .i64 X.n, .int .i64 X.x, .string ⟨X.s.toArray⟩, .slice X.a X.l.length X.cap] 26)) w1.heap.size X := {
    x := by obtain ⟨v0, v1, v2, v3, v4⟩ := vcells5 w1 X 26; exact ⟨v0, v1, v2, v3, v4⟩
    xf := fun o => by simp [go_sem]
    hB := by have := hb1.size; simp at this; omega
    own := (hO.blw (vbox _ _)).base (by simp)
    nd := hNd
    below := hB.trans ((hb1.trans ((vbox w1 _).mono hb1.size)).mono (by simp)) }
  have HL := Lib.hid hL
  have HX := Lib.hid hX
  clear hL hX hO hNd hb1 hB HCP
  go_wp2_with fail
  generalize (w1.alloc (.cells #[.int .i64 X.k, .int .i64 X.n, .int .i64 X.x, .string ⟨X.s.toArray⟩, .slice X.a X.l.length X.cap] 26)) = W1 at *
  generalize w1.heap.size = B at *
  go_loopw [5, 7] (fun sv i wr => ∃ (i' : Nat) (Y : AT) (acc : List UInt8), sv = .string ⟨acc.toArray⟩ ∧ i = .int .i64 i' ∧ i' ≤ l.length ∧ Hid (r = acc ++ tailTx (l.drop i') Y.pt) ∧ Hid (acc.length ≤ 1 + i' * 1048700) ∧ Hid (Y.pt.sz ≤ 1048576) ∧ Hid (AtT w wr B Y)) (fun _ i _ => l.length - (intOf i).toNat)
  case atStart => exact ⟨0, X, [36], rfl, rfl, Nat.zero_le _, by rw [HX.out]; exact HR, Lib.hid (by simp), by rw [HX.out]; exact HSZ, HL⟩
  case round =>
    obtain ⟨i', Y, acc, rfl, rfl, hi', HRi, HAC, HSi, HLi⟩ := hrel
    by_cases hlt : i' < l.length
    · obtain ⟨g, o, rfl, hgN, p0, p1⟩ := HS.out.cell i' hlt
      have hbel := HLi.out.below
      have HP0 := Lib.hid (fun (W : World) (hb : Below w.heap.size w W) => (show W.cell? ⟨g, o + i' * 2, none⟩ = some (.int .i64 (l[i']).1) ∧ W.cell? ⟨g, o + i' * 2 + 1, none⟩ = some (.bool (l[i']).2) from ⟨(hb.cell (p := ⟨g, o + i' * 2, none⟩) (by show g < w.heap.size; omega)).trans p0, (hb.cell (p := ⟨g, o + i' * 2 + 1, none⟩) (by show g < w.heap.size; omega)).trans p1⟩))
      have HD := Lib.hid (HRi.out.trans (by rw [List.drop_eq_getElem_cons hlt]))
      have HII := Lib.hid (HI.out l[i'] (List.getElem_mem hlt))
      clear p0 p1
      obtain ⟨p0, p1⟩ := HP0.out wr hbel
      obtain ⟨s, hs⟩ : ∃ s : St, s = l[i'] := ⟨_, rfl⟩
      rw [← hs] at p0 p1 HD HII
      simp only [← hs] at HP0
      have HSV0 := Lib.hid (fun (W2 : World) (h : Rl wr W2) => stepval_spec Y s W2 W2.heap.size (HLi.out.own.blw h.b).in HSi.out (Nat.le_refl _))
      obtain ⟨p2, bv2, hst⟩ : ∃ p2 bv2, (p2, bv2) = found (Y.pt.step s) := ⟨_, _, rfl⟩
      have HSV : Hid (∀ (W2 : World), Rl wr W2 → Calls Tryd.prog 13 #[.agg #[.int .i64 Y.k, .int .i64 Y.n, .int .i64 Y.x, .string ⟨Y.s.toArray⟩, .slice Y.a Y.l.length Y.cap], .agg #[.int .i64 s.1, .bool s.2]] W2 (LookPost W2 (p2, bv2))) := Lib.hid (by rw [hst]; exact HSV0.out)
      have HST := Lib.hid hst
      clear hs hbel hst HSV0
      obtain ⟨c0, c1, c2, c3, c4⟩ := HLi.out.x
      go_upto_region 6 with fail
      go_cut [8, 9] from 18 to 26 (fun v0 v1 W' => v1 = .bool bv2 ∧ ∃ (G : AT) (BG : Nat), v0 = .pointer (some ⟨BG, 0, none⟩) ∧ G.pt = p2 ∧ G.Own W' wr.heap.size ∧ G.blks.Nodup ∧ BG ∉ G.blks ∧ wr.heap.size ≤ BG ∧ Rl wr W' ∧ W'.cell? ⟨BG, 0, none⟩ = some (.int .i64 G.k) ∧ W'.cell? ⟨BG, 1, none⟩ = some (.int .i64 G.n) ∧ W'.cell? ⟨BG, 2, none⟩ = some (.int .i64 G.x) ∧ W'.cell? ⟨BG, 3, none⟩ = some (.string ⟨G.s.toArray⟩) ∧ W'.cell? ⟨BG, 4, none⟩ = some (.slice G.a G.l.length G.cap))
      case first =>
        have hR0 := Rl.refl wr
        have HK := Lib.hid (fun (W' : World) (h : Rl wr W') => (show Rl wr W' ∧ W'.cell? ⟨B, 0, none⟩ = some (.int .i64 Y.k) ∧ W'.cell? ⟨B, 1, none⟩ = some (.int .i64 Y.n) ∧ W'.cell? ⟨B, 2, none⟩ = some (.int .i64 Y.x) ∧ W'.cell? ⟨B, 3, none⟩ = some (.string ⟨Y.s.toArray⟩) ∧ W'.cell? ⟨B, 4, none⟩ = some (.slice Y.a Y.l.length Y.cap) ∧ W'.cell? ⟨g, o + i' * 2, none⟩ = some (.int .i64 s.1) ∧ W'.cell? ⟨g, o + i' * 2 + 1, none⟩ = some (.bool s.2) from ⟨h, keep_below h.b c0, keep_below h.b c1, keep_below h.b c2, keep_below h.b c3, keep_below h.b c4, keep_below h.b p0, keep_below h.b p1⟩))
        go_region_held3 (fun W' => Rl wr W' ∧ W'.cell? ⟨B, 0, none⟩ = some (.int .i64 Y.k) ∧ W'.cell? ⟨B, 1, none⟩ = some (.int .i64 Y.n) ∧ W'.cell? ⟨B, 2, none⟩ = some (.int .i64 Y.x) ∧ W'.cell? ⟨B, 3, none⟩ = some (.string ⟨Y.s.toArray⟩) ∧ W'.cell? ⟨B, 4, none⟩ = some (.slice Y.a Y.l.length Y.cap) ∧ W'.cell? ⟨g, o + i' * 2, none⟩ = some (.int .i64 s.1) ∧ W'.cell? ⟨g, o + i' * 2 + 1, none⟩ = some (.bool s.2)) ((go_split_ands; refine HK.out _ ?_; first | with_reducible assumption | with_reducible exact (Rl.refl _).drew | with_reducible exact HRa.out | with_reducible exact Rl.alloc (by assumption) _ | with_reducible exact Rl.alloc HRa.out _ | with_reducible exact (Rl.alloc (Rl.refl _) _).drew | with_reducible exact Rl.drew (by assumption) | with_reducible exact Rl.five (by assumption) HRa.out.z | with_reducible exact Rl.five (by assumption) (Nat.le_refl _))) ((first | (go_at_call 13; go_split_ands; refine (HSV.out _ (by assumption)).mono ?_; rintro e wa ⟨G, hpa, rfl, hoa, hna, hba⟩; have HPG := Lib.hid hpa; have HOG := Lib.hid hoa; have HNG := Lib.hid hna; clear hpa hoa hna; have HRa := Lib.hid (Rl.below (W0 := wr) (by assumption) hba); (first | (have hz := mboxD hba; obtain ⟨z0, z1, z2, z3, z4, zf⟩ := hz) | (have hz := mbox hba; obtain ⟨z0, z1, z2, z3, z4, zf⟩ := hz) | skip))))
        all_goals (go_wp2_with fail; go_meet; (first | with_reducible exact ⟨rfl, G, _, rfl, HPG.out, leaf_last HRa.out (by first | exact Nat.le_refl _ | (simp; done)) HOG.out HNG.out⟩ | with_reducible exact ⟨rfl, G, _, rfl, HPG.out, leaf_early HRa.out (Nat.le_refl _) (by simp) (by simp) HOG.out HNG.out z0 z1 z2 z3 z4⟩))
      obtain ⟨hv, G, BG, rfl, hpG, hoG, hnG, hxG, hBg, hRg, d0, d1, d2, d3, d4⟩ := hcut
      subst hv
      have HG := Lib.hid hpG
      have HL2 := Lib.hid (HLi.out.keep hRg.b)
      have HOG := Lib.hid hoG
      have HNG := Lib.hid hnG
      have HBlt := Lib.hid HLi.out.x.lt
      have HWz := Lib.hid (Nat.le_trans HLi.out.hB (Nat.le_of_lt HLi.out.x.lt))
      have HSUB : Hid (∀ t, Y.pt.step s = some t → t.sz ≤ 1048576) := Lib.hid (fun t ht => Nat.le_trans (sz_sub (step_mem ht)) HSi.out)
      have HBW := Lib.hid HL2.out.below
      clear hpG hoG hnG hxG hBg c0 c1 c2 c3 c4 p0 p1
      cases hcs : plc Y.k Y.l.length s with
      | none =>
        rw [step_none hcs] at HST
        obtain ⟨rfl, rfl⟩ := Prod.mk.inj HST.out
        have HF : Hid (r = acc) := Lib.hid (by rw [HD.out, tail_none hcs, List.append_nil])
        clear hcs hRg
        go_wp2
        go_ret
        exact ⟨by rw [HF.out]; rfl, HBW.out⟩
      | some j =>
        have hj := plc_lt hcs
        have hstep := step_some hcs hj
        rw [hstep] at HST
        obtain ⟨rfl, rfl⟩ := Prod.mk.inj HST.out
        have HS2 : Hid (G.pt.sz ≤ 1048576) := Lib.hid (by rw [HG.out]; exact HSUB.out _ hstep)
        have HTX0 := Lib.hid (fun (W2 : World) (h : Rl wc W2) => l8text_spec Y s j W2 W2.heap.size (HL2.out.own.blw h.b).in (Nat.le_refl _) hcs HSi.out HII.out)
        have htb := step_bound Y s HSi.out HII.out
        obtain ⟨tx, htx⟩ : ∃ tx, tx = stepTx Y.pt s := ⟨_, rfl⟩
        have HF : Hid (r = (acc ++ tx) ++ tailTx (l.drop (i' + 1)) G.pt) := Lib.hid (by rw [HD.out, tail_some hcs hj, HG.out, htx, List.append_assoc])
        rw [← htx] at HTX0 htb
        have HTX : Hid (∀ (W2 : World), Rl wc W2 → Calls Tryd.prog 45 #[.agg #[.int .i64 Y.k, .int .i64 Y.n, .int .i64 Y.x, .string ⟨Y.s.toArray⟩, .slice Y.a Y.l.length Y.cap], .agg #[.int .i64 s.1, .bool s.2]] W2 fun e w' => e = .returned (.string ⟨tx.toArray⟩) ∧ Below W2.heap.size W2 w') := Lib.hid HTX0.out
        have hac := HAC.out
        have HAC2 : Hid ((acc ++ tx).length ≤ 1 + (i' + 1) * 1048700) := Lib.hid (by rw [List.length_append]; omega)
        have hsum : ¬ (9223372036854775807 < acc.length + tx.length) := by omega
        obtain ⟨c0, c1, c2, c3, c4⟩ := HL2.out.x
        obtain ⟨p0, p1⟩ := HP0.out wc HL2.out.below
        have e0 := keep_alloc (o := .cells #[] 0) d0
        clear hcs hstep HTX0 htx hRg e0 hac htb
        go_upto_region 9 with fail
        have hR0 := Rl.refl wc
        have HK := Lib.hid (fun (W' : World) (h : Rl wc W') => (show Rl wc W' ∧ W'.cell? ⟨B, 0, none⟩ = some (.int .i64 Y.k) ∧ W'.cell? ⟨B, 1, none⟩ = some (.int .i64 Y.n) ∧ W'.cell? ⟨B, 2, none⟩ = some (.int .i64 Y.x) ∧ W'.cell? ⟨B, 3, none⟩ = some (.string ⟨Y.s.toArray⟩) ∧ W'.cell? ⟨B, 4, none⟩ = some (.slice Y.a Y.l.length Y.cap) ∧ W'.cell? ⟨g, o + i' * 2, none⟩ = some (.int .i64 s.1) ∧ W'.cell? ⟨g, o + i' * 2 + 1, none⟩ = some (.bool s.2) from ⟨h, keep_below h.b c0, keep_below h.b c1, keep_below h.b c2, keep_below h.b c3, keep_below h.b c4, keep_below h.b p0, keep_below h.b p1⟩))
        go_region_held3 (fun W' => Rl wc W' ∧ W'.cell? ⟨B, 0, none⟩ = some (.int .i64 Y.k) ∧ W'.cell? ⟨B, 1, none⟩ = some (.int .i64 Y.n) ∧ W'.cell? ⟨B, 2, none⟩ = some (.int .i64 Y.x) ∧ W'.cell? ⟨B, 3, none⟩ = some (.string ⟨Y.s.toArray⟩) ∧ W'.cell? ⟨B, 4, none⟩ = some (.slice Y.a Y.l.length Y.cap) ∧ W'.cell? ⟨g, o + i' * 2, none⟩ = some (.int .i64 s.1) ∧ W'.cell? ⟨g, o + i' * 2 + 1, none⟩ = some (.bool s.2)) ((go_split_ands; refine HK.out _ ?_; first | with_reducible assumption | with_reducible exact (Rl.refl _).drew | with_reducible exact Rl.drew (by assumption))) ((first | (go_at_call 45; go_split_ands; refine (HTX.out _ (by assumption)).mono ?_; rintro e w2 ⟨rfl, hb2⟩; have hr2 := Rl.below (W0 := wc) (by assumption) hb2; clear hb2)))
        go_split_ands
        have HR2 : Hid (Rl wc w2) := Lib.hid (by assumption)
        have HL3 := Lib.hid (HL2.out.keep HR2.out.b)
        have HNX := Lib.hid (HL3.out.next (HOG.out.blw HR2.out.b) HNG.out HBlt.out HWz.out)
        have hxyz := HR2.out.b
        have g0 := keep_below hxyz d0
        have g1 := keep_below hxyz d1
        have g2 := keep_below hxyz d2
        have g3 := keep_below hxyz d3
        have g4 := keep_below hxyz d4
        have HCAT : Hid ((⟨acc.toArray⟩ : ByteArray) ++ ⟨tx.toArray⟩ = ⟨(acc ++ tx).toArray⟩) := Lib.hid (cat_eq acc tx)
        clear c0 c1 c2 c3 c4 p0 p1 d0 d1 d2 d3 d4 hxyz hR0 HK
        obtain ⟨q0, q1, q2, q3, q4⟩ := HL3.out.x
        have xf := HL3.out.xf
        go_wp2
        go_roundw
        case rel => exact ⟨i' + 1, G, acc ++ tx, by rw [HCAT.out], by go_num, by omega, HF, HAC2, HS2, HNX⟩
        case measure => simp [intOf]; omega
    · have HF : Hid (r = acc) := Lib.hid (by rw [HRi.out, List.drop_eq_nil_of_le (by omega)]; simp [tailTx])
      have HBW := Lib.hid HLi.out.below
      go_wp2
      go_ret
      exact ⟨by rw [HF.out]; rfl, HBW.out⟩
end Go.Proofs.YtgfebmnlcihpnaaDoor
