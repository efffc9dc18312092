/- StepVal and AtPath of the model. -/
import Derived.Test.YtgfebmnlcihpnaaDoorPlace
import Derived.Test.YtgfebmnlcihpnaaDoorCopyVal
import Derived.Test.YtgfebmnlcihpnaaDoorRel
import Derived.Deep.CutRange
import Derived.Deep.RegionHeld3
namespace Go.Proofs.YtgfebmnlcihpnaaDoor
open Go.RowKit
set_option maxRecDepth 100000
theorem step_boxes (w : World) (k n x : Int) (s : ByteArray) (a : Option Addr) (len cap : Nat) (i : Int) (b : Bool) (t u : TypeId) :
    let W := ((w.alloc (.cells #[.int .i64 k, .int .i64 n, .int .i64 x, .string s, .slice a len cap] t)).alloc (.cells #[.int .i64 i, .bool b] u)).alloc (.cells #[.int .i64 0, .int .i64 0, .int .i64 0, .string ⟨#[]⟩, .slice none 0 0] t)
    VC W w.heap.size k n x s a len cap ∧ VC W (w.heap.size + 2) 0 0 0 ⟨#[]⟩ none 0 0 ∧ (∀ o, W.frozen? ⟨w.heap.size + 2, o, none⟩ = false) ∧ Below w.heap.size w W ∧ W.heap.size = w.heap.size + 3 := by
  refine ⟨⟨?_, ?_, ?_, ?_, ?_⟩, ⟨?_, ?_, ?_, ?_, ?_⟩, fun o => ?_, boxes3 w _ _ _, by simp⟩ <;> simp [go_sem]
/-- the five cells of a result's box are set to a tree of one's own -/
theorem found_some {w W : World} {B : Nat} {X : AT} {t : PT} (hX : X.pt = t) (hO : X.Own W w.heap.size) (hN : X.blks.Nodup) (hB : Below w.heap.size w W) (hz : w.heap.size ≤ B) (hk : B ∉ X.blks) :
    LookPost w (found (some t)) (.returned (.tuple #[X.val, .bool true])) (((((W.setCell ⟨B, 0, none⟩ (.int .i64 X.k)).setCell ⟨B, 1, none⟩ (.int .i64 X.n)).setCell ⟨B, 2, none⟩ (.int .i64 X.x)).setCell ⟨B, 3, none⟩ (.string ⟨X.s.toArray⟩)).setCell ⟨B, 4, none⟩ (.slice X.a X.l.length X.cap)) :=
  ⟨X, hX, rfl, ((((hO.setg' hk).setg' hk).setg' hk).setg' hk).setg' hk, hN, bset (bset (bset (bset (bset hB hz) hz) hz) hz) hz⟩
theorem look_put {w W : World} {B : Nat} {X : AT} {p : PT} {bv : Bool} (hX : X.pt = p) (hO : X.Own W w.heap.size) (hN : X.blks.Nodup) (hB : Below w.heap.size w W) (hz : w.heap.size ≤ B) (hk : B ∉ X.blks) :
    LookPost w (p, bv) (.returned (.tuple #[X.val, .bool bv])) (((((W.setCell ⟨B, 0, none⟩ (.int .i64 X.k)).setCell ⟨B, 1, none⟩ (.int .i64 X.n)).setCell ⟨B, 2, none⟩ (.int .i64 X.x)).setCell ⟨B, 3, none⟩ (.string ⟨X.s.toArray⟩)).setCell ⟨B, 4, none⟩ (.slice X.a X.l.length X.cap)) :=
  ⟨X, hX, rfl, ((((hO.setg' hk).setg' hk).setg' hk).setg' hk).setg' hk, hN, bset (bset (bset (bset (bset hB hz) hz) hz) hz) hz⟩
theorem found_none {w W : World} {B : Nat} (hB : Below w.heap.size w W) (hz : w.heap.size ≤ B) :
    LookPost w (found none) (.returned (.tuple #[.agg #[.int .i64 0, .int .i64 0, .int .i64 0, .string ⟨#[]⟩, .slice none 0 0], .bool false])) (((((W.setCell ⟨B, 0, none⟩ (.int .i64 0)).setCell ⟨B, 1, none⟩ (.int .i64 0)).setCell ⟨B, 2, none⟩ (.int .i64 0)).setCell ⟨B, 3, none⟩ (.string ⟨#[]⟩)).setCell ⟨B, 4, none⟩ (.slice none 0 0)) :=
  ⟨zeroAT, zeroAT_pt, rfl, AT.leaf_own _ _ 0 0 0 [], by simp [zeroAT, AT.blks, AT.blksL], bset (bset (bset (bset (bset hB hz) hz) hz) hz) hz⟩
set_option maxHeartbeats 2000000 in
theorem stepval_spec (T : AT) (s : St) (w : World) (N : Nat) (hin : T.In w N) (hsz : T.pt.sz ≤ 1048576) (hN : N ≤ w.heap.size) : Calls Tryd.prog 13 #[T.val, s.val] w (LookPost w (found (T.pt.step s))) := by
  have hll : T.l.length ≤ 1048576 := by have := len_le_sz T; omega
  have HPL := Lib.hid (fun (w1 : World) => place_spec T s w1 hll)
  have H := Lib.hid hin.lv'
  have h3 := step_boxes w T.k T.n T.x ⟨T.s.toArray⟩ T.a T.l.length T.cap s.1 s.2 26 34
  cases hp : plc T.k T.l.length s with
  | none =>
    have hI : plI T.k T.l.length s = -1 := plI_no hp
    rw [hI] at HPL
    rw [step_none hp]
    clear hI hp hin
    show Calls Tryd.prog 13 #[.agg #[.int .i64 T.k, .int .i64 T.n, .int .i64 T.x, .string ⟨T.s.toArray⟩, .slice T.a T.l.length T.cap], .agg #[.int .i64 s.1, .bool s.2]] w _
    go_enter Tryd.func13, Tryd.ntmps13
    go_wp2_with fail
    try dsimp only at h3
    generalize (((w.alloc (.cells #[.int .i64 T.k, .int .i64 T.n, .int .i64 T.x, .string ⟨T.s.toArray⟩, .slice T.a T.l.length T.cap] 26)).alloc (.cells #[.int .i64 s.1, .bool s.2] 34)).alloc (.cells #[.int .i64 0, .int .i64 0, .int .i64 0, .string ⟨#[]⟩, .slice none 0 0] 26)) = W0 at *
    obtain ⟨-, hZ, hzf, hB, hz⟩ := h3
    refine (HPL.out _).mono ?_
    rintro e w1 ⟨rfl, hb1⟩
    have HB := Lib.hid (hB.trans (hb1.mono (by omega)))
    obtain ⟨z0, z1, z2, z3, z4⟩ := hZ.blw hb1
    have zf : ∀ o, w1.frozen? ⟨w.heap.size + 2, o, none⟩ = false := fun o => by rw [frozen_blk' (hb1.block _ (by omega))]; exact hzf o
    clear hZ hzf hB hz hb1
    go_wp2
    refine bodyPost_ret (v := .tuple #[.agg #[.int .i64 0, .int .i64 0, .int .i64 0, .string ⟨#[]⟩, .slice none 0 0], .bool false]) (by simp [results, Tryd.results13, go_sem, z0, z1, z2, z3, z4]) rfl ?_
    exact found_none HB.out (by omega)
  | some j =>
    have hj := plc_lt hp
    have hI : plI T.k T.l.length s = (j : Int) := by unfold plI; rw [hp]
    rw [hI] at HPL
    rw [step_some hp hj]
    have hsv : (T.l[j]).pt.sz ≤ 1048576 := by
      have h1 := szL_ge (List.getElem_mem hj)
      have h2 : PT.szL (AT.ptL T.l) ≤ T.pt.sz := by obtain ⟨k, n, x, s, a, cap, l⟩ := T; simp [AT.pt, PT.sz, AT.l]; omega
      omega
    obtain ⟨b, o, ha, hbN, hC⟩ := H.out.cell j hj
    have HCP := Lib.hid (fun (w1 : World) (hb : Below w.heap.size w w1) => l6Copy_any T.l[j] hsv w1 N ((H.out.sub _ (List.getElem_mem hj)).blw hb hN) (Nat.le_trans hN hb.size))
    have HC := Lib.hid hC
    obtain ⟨V, hV⟩ : ∃ V, V = T.l[j] := ⟨_, rfl⟩
    rw [← hV] at HCP HC ⊢
    have hj0 : ¬ ((j : Int) < 0) := by omega
    have HA := Lib.hid ha
    clear hI hp hin hV hC hsv ha
    show Calls Tryd.prog 13 #[.agg #[.int .i64 T.k, .int .i64 T.n, .int .i64 T.x, .string ⟨T.s.toArray⟩, .slice T.a T.l.length T.cap], .agg #[.int .i64 s.1, .bool s.2]] w _
    go_enter Tryd.func13, Tryd.ntmps13
    go_wp2_with fail
    try dsimp only at h3
    generalize (((w.alloc (.cells #[.int .i64 T.k, .int .i64 T.n, .int .i64 T.x, .string ⟨T.s.toArray⟩, .slice T.a T.l.length T.cap] 26)).alloc (.cells #[.int .i64 s.1, .bool s.2] 34)).alloc (.cells #[.int .i64 0, .int .i64 0, .int .i64 0, .string ⟨#[]⟩, .slice none 0 0] 26)) = W0 at *
    obtain ⟨hT, hZ, hzf, hB, hz⟩ := h3
    refine (HPL.out _).mono ?_
    rintro e w1 ⟨rfl, hb1⟩
    have HB := Lib.hid (hB.trans (hb1.mono (by omega)))
    obtain ⟨c0, c1, c2, c3, c4⟩ := hT.blw hb1
    have HZ := Lib.hid (hZ.blw hb1)
    have hzf1 : ∀ o, w1.frozen? ⟨w.heap.size + 2, o, none⟩ = false := fun o => by rw [frozen_blk' (hb1.block _ (by omega))]; exact hzf o
    have HZF := Lib.hid hzf1
    have hz1 : w.heap.size + 3 ≤ w1.heap.size := by have := hb1.size; omega
    obtain ⟨f0, f1, f2, f3, f4⟩ := HC.out.keep (HB.out.block b (by omega))
    rw [HA.out] at c4
    clear hT hZ hzf hB hz hb1 hzf1
    go_wp2_with fail
    refine (HCP.out _ HB.out).mono ?_
    rintro e w2 ⟨X, hX, rfl, hO, hNd, hb2⟩
    obtain ⟨z0, z1, z2, z3, z4⟩ := HZ.out.blw hb2
    have zf : ∀ o, w2.frozen? ⟨w.heap.size + 2, o, none⟩ = false := fun o => by rw [frozen_blk' (hb2.block _ (by omega))]; exact HZF.out o
    have HFD := Lib.hid (found_some (w := w) (B := w.heap.size + 2) hX (hO.base HB.out.size) hNd (HB.out.trans (hb2.mono HB.out.size)) (by omega) (fun hk => by have := (hO.lt _ hk).1; omega))
    clear hX hO hNd hb2 c0 c1 c2 c3 c4 f0 f1 f2 f3 f4
    go_wp2
    refine bodyPost_ret (v := .tuple #[.agg #[.int .i64 X.k, .int .i64 X.n, .int .i64 X.x, .string ⟨X.s.toArray⟩, .slice X.a X.l.length X.cap], .bool true]) (by simp [results, Tryd.results13, go_sem, z0, z1, z2, z3, z4]) rfl ?_
    exact HFD.out
theorem at_boxes (w : World) (k n x : Int) (s : ByteArray) (a : Option Addr) (len cap : Nat) (t : TypeId) :
    let W := (w.alloc (.cells #[.int .i64 k, .int .i64 n, .int .i64 x, .string s, .slice a len cap] t)).alloc (.cells #[.int .i64 0, .int .i64 0, .int .i64 0, .string ⟨#[]⟩, .slice none 0 0] t)
    VC W w.heap.size k n x s a len cap ∧ VC W (w.heap.size + 1) 0 0 0 ⟨#[]⟩ none 0 0 ∧ (∀ o, W.frozen? ⟨w.heap.size + 1, o, none⟩ = false) ∧ Below w.heap.size w W ∧ W.heap.size = w.heap.size + 2 := by
  refine ⟨⟨?_, ?_, ?_, ?_, ?_⟩, ⟨?_, ?_, ?_, ?_, ?_⟩, fun o => ?_, boxes2 w _ _, by simp⟩ <;> simp [go_sem]
/-- the head of AtPath's loop: the value reached lies in the box B -/
structure AtL (w wr : World) (B : Nat) (X : AT) : Prop where
  z : VC wr (w.heap.size + 1) 0 0 0 ⟨#[]⟩ none 0 0
  zf : ∀ o, wr.frozen? ⟨w.heap.size + 1, o, none⟩ = false
  x : VC wr B X.k X.n X.x ⟨X.s.toArray⟩ X.a X.l.length X.cap
  xf : ∀ o, wr.frozen? ⟨B, o, none⟩ = false
  hB : w.heap.size + 2 ≤ B
  own : X.Own wr (w.heap.size + 2)
  out : B ∉ X.blks
  nd : X.blks.Nodup
  below : Below w.heap.size w wr
theorem VC.lt {w : World} {b : Nat} {k n x : Int} {s : ByteArray} {a : Option Addr} {len cap : Nat} (h : VC w b k n x s a len cap) : b < w.heap.size := cell_lt h.c0
theorem AtL.keep {w wr w' : World} {B : Nat} {X : AT} (h : AtL w wr B X) (hb : Below wr.heap.size wr w') : AtL w w' B X where
  z := h.z.blw hb
  zf o := by rw [frozen_blk' (hb.block _ h.z.lt)]; exact h.zf o
  x := h.x.blw hb
  xf o := by rw [frozen_blk' (hb.block _ h.x.lt)]; exact h.xf o
  hB := h.hB
  own := h.own.blw hb
  out := h.out
  nd := h.nd
  below := h.below.trans (hb.mono h.below.size)
theorem VC.other {w : World} {b B o : Nat} {k n x : Int} {s : ByteArray} {a : Option Addr} {len cap : Nat} {u : Value} (h : VC w b k n x s a len cap) (hb : b ≠ B) : VC (w.setCell ⟨B, o, none⟩ u) b k n x s a len cap := by
  have e : ∀ q, (w.setCell ⟨B, o, none⟩ u).cell? ⟨b, q, none⟩ = w.cell? ⟨b, q, none⟩ := fun q => World.cell?_setCell_other _ _ _ _ (fun e => by injection e with e1 e2; omega)
  exact ⟨(e _).trans h.c0, (e _).trans h.c1, (e _).trans h.c2, (e _).trans h.c3, (e _).trans h.c4⟩
/-- the five cells of a box are set -/
theorem vset5 {W : World} {B : Nat} {k n x k2 n2 x2 : Int} {s s2 : ByteArray} {a a2 : Option Addr} {len cap len2 cap2 : Nat} (h : VC W B k n x s a len cap) :
    VC (((((W.setCell ⟨B, 0, none⟩ (.int .i64 k2)).setCell ⟨B, 1, none⟩ (.int .i64 n2)).setCell ⟨B, 2, none⟩ (.int .i64 x2)).setCell ⟨B, 3, none⟩ (.string s2)).setCell ⟨B, 4, none⟩ (.slice a2 len2 cap2)) B k2 n2 x2 s2 a2 len2 cap2 := by
  obtain ⟨c0, c1, c2, c3, c4⟩ := h
  refine ⟨?_, ?_, ?_, ?_, ?_⟩ <;> simp [go_sem, c0, c1, c2, c3, c4]
theorem frozen_set5 {W : World} {B b : Nat} {v0 v1 v2 v3 v4 : Value} (h : ∀ o, W.frozen? ⟨b, o, none⟩ = false) (o : Nat) : (((((W.setCell ⟨B, 0, none⟩ v0).setCell ⟨B, 1, none⟩ v1).setCell ⟨B, 2, none⟩ v2).setCell ⟨B, 3, none⟩ v3).setCell ⟨B, 4, none⟩ v4).frozen? ⟨b, o, none⟩ = false := by
  simp [go_sem, h o]
theorem AtL.next {w wr W : World} {B : Nat} {Y G : AT} (h : AtL w wr B Y) (hR : Rl wr W) (hO : G.Own W wr.heap.size) (hN : G.blks.Nodup) :
    AtL w (((((W.setCell ⟨B, 0, none⟩ (.int .i64 G.k)).setCell ⟨B, 1, none⟩ (.int .i64 G.n)).setCell ⟨B, 2, none⟩ (.int .i64 G.x)).setCell ⟨B, 3, none⟩ (.string ⟨G.s.toArray⟩)).setCell ⟨B, 4, none⟩ (.slice G.a G.l.length G.cap)) B G := by
  have h1 := h.keep hR.b
  have hlt := h.x.lt
  have hB := h.hB
  have hout : B ∉ G.blks := fun hk => by have := (hO.lt _ hk).1; omega
  have hz : w.heap.size ≤ wr.heap.size := h.below.size
  exact {
    z := ((((h1.z.other (by omega)).other (by omega)).other (by omega)).other (by omega)).other (by omega)
    zf := frozen_set5 h1.zf
    x := vset5 h1.x
    xf := frozen_set5 h1.xf
    hB := hB
    own := AT.Own.base (B := wr.heap.size) (((((hO.setg' hout).setg' hout).setg' hout).setg' hout).setg' hout) (by omega)
    out := hout
    nd := hN
    below := bset (bset (bset (bset (bset h1.below (by omega)) (by omega)) (by omega)) (by omega)) (by omega) }
set_option maxHeartbeats 4000000 in
theorem atpath_spec (T : AT) (l : List St) (a : Option Addr) (cap : Nat) (w : World) (N : Nat) (hin : T.In w N) (hs : SAt w N a cap l) (hsz : T.pt.sz ≤ 1048576) (hl : l.length ≤ 1048576) (hN : N ≤ w.heap.size) : Calls Tryd.prog 10 #[T.val, .slice a l.length cap] w (LookPost w (found (PT.at' l T.pt))) := by
  have HCP := Lib.hid (fun (w1 : World) (hb : Below w.heap.size w w1) => l6Copy_any T hsz w1 N (hin.blw hb hN) (Nat.le_trans hN hb.size))
  have HS := Lib.hid hs
  have h3 := at_boxes w T.k T.n T.x ⟨T.s.toArray⟩ T.a T.l.length T.cap 26
  obtain ⟨r, hr⟩ : ∃ r, r = found (PT.at' l T.pt) := ⟨_, rfl⟩
  rw [← hr]
  obtain ⟨p, hp⟩ : ∃ p, p = T.pt := ⟨_, rfl⟩
  rw [← hp] at hr HCP
  have hszp : p.sz ≤ 1048576 := by rw [hp]; exact hsz
  have HSZ := Lib.hid hszp
  have HR := Lib.hid hr
  clear hin hs hsz hr hp hszp
  show Calls Tryd.prog 10 #[.agg #[.int .i64 T.k, .int .i64 T.n, .int .i64 T.x, .string ⟨T.s.toArray⟩, .slice T.a T.l.length T.cap], .slice a l.length cap] w _
  go_enter Tryd.func10, Tryd.ntmps10
  go_wp2_with fail
  try dsimp only at h3
  generalize ((w.alloc (.cells #[.int .i64 T.k, .int .i64 T.n, .int .i64 T.x, .string ⟨T.s.toArray⟩, .slice T.a T.l.length T.cap] 26)).alloc (.cells #[.int .i64 0, .int .i64 0, .int .i64 0, .string ⟨#[]⟩, .slice none 0 0] 26)) = W0 at *
  obtain ⟨-, hZ, hzf, hB, hz⟩ := h3
  refine (HCP.out _ hB).mono ?_
  rintro e w1 ⟨X, hX, rfl, hO, hNd, hb1⟩
  have hL : AtL w (w1.alloc (.cells #[.int .i64 X.k, .int .i64 X.n, .int .i64 X.x, .string ⟨X.s.toArray⟩, .slice X.a X.l.length X.cap] 26)) w1.heap.size X := {
    z := (hZ.blw hb1).blw (vbox _ _)
    zf := fun o => by rw [frozen_blk' ((hb1.trans ((vbox w1 _).mono hb1.size)).block _ (by omega))]; exact hzf o
    x := by obtain ⟨v0, v1, v2, v3, v4⟩ := vcells5 w1 X 26; exact ⟨v0, v1, v2, v3, v4⟩
    xf := fun o => by simp [go_sem]
    hB := by have := hb1.size; omega
    own := (hO.blw (vbox _ _)).base (by omega)
    out := fun hk => by have := (hO.lt _ hk).2; omega
    nd := hNd
    below := hB.trans ((hb1.trans ((vbox w1 _).mono hb1.size)).mono (by omega)) }
  have HL := Lib.hid hL
  have HX := Lib.hid hX
  clear hL hX hO hNd hb1 hZ hzf hB hz HCP
  go_wp2_with fail
  generalize (w1.alloc (.cells #[.int .i64 X.k, .int .i64 X.n, .int .i64 X.x, .string ⟨X.s.toArray⟩, .slice X.a X.l.length X.cap] 26)) = W1 at *
  generalize w1.heap.size = B at *
  go_loopw [7] (fun i wr => ∃ (i' : Nat) (Y : AT), i = .int .i64 i' ∧ i' ≤ l.length ∧ Hid (r = found (PT.at' (l.drop i') Y.pt)) ∧ Hid (Y.pt.sz ≤ 1048576) ∧ Hid (AtL w wr B Y)) (fun i _ => l.length - (intOf i).toNat)
  case atStart => exact ⟨0, X, rfl, Nat.zero_le _, by rw [HX.out]; exact HR, by rw [HX.out]; exact HSZ, HL⟩
  case round =>
    obtain ⟨i', Y, rfl, hi', HRi, HSi, HLi⟩ := hrel
    by_cases hlt : i' < l.length
    · obtain ⟨g, o, rfl, hgN, p0, p1⟩ := HS.out.cell i' hlt
      have hbel := HLi.out.below
      replace p0 := (hbel.cell (p := ⟨g, o + i' * 2, none⟩) (by show g < w.heap.size; omega)).trans p0
      replace p1 := (hbel.cell (p := ⟨g, o + i' * 2 + 1, none⟩) (by show g < w.heap.size; omega)).trans p1
      have HD := Lib.hid (HRi.out.trans (by rw [at_drop hlt]))
      obtain ⟨s, hs⟩ : ∃ s : St, s = l[i'] := ⟨_, rfl⟩
      rw [← hs] at p0 p1 HD
      have HSV0 := Lib.hid (fun (W2 : World) (h : Rl wr W2) => stepval_spec Y s W2 W2.heap.size (HLi.out.own.blw h.b).in HSi.out (Nat.le_refl _))
      obtain ⟨p2, bv2, hst⟩ : ∃ p2 bv2, (p2, bv2) = found (Y.pt.step s) := ⟨_, _, rfl⟩
      have HSV : Hid (∀ (W2 : World), Rl wr W2 → Calls Tryd.prog 13 #[.agg #[.int .i64 Y.k, .int .i64 Y.n, .int .i64 Y.x, .string ⟨Y.s.toArray⟩, .slice Y.a Y.l.length Y.cap], .agg #[.int .i64 s.1, .bool s.2]] W2 (LookPost W2 (p2, bv2))) := Lib.hid (by rw [hst]; exact HSV0.out)
      have HST := Lib.hid hst
      clear hs hbel hst HSV0
      obtain ⟨c0, c1, c2, c3, c4⟩ := HLi.out.x
      go_upto_region 5 with fail
      go_cut [8, 9] from 16 to 30 (fun v0 v1 W' => v1 = .bool bv2 ∧ ∃ (G : AT) (BG : Nat), v0 = .pointer (some ⟨BG, 0, none⟩) ∧ G.pt = p2 ∧ G.Own W' wr.heap.size ∧ G.blks.Nodup ∧ BG ∉ G.blks ∧ wr.heap.size ≤ BG ∧ Rl wr W' ∧ W'.cell? ⟨BG, 0, none⟩ = some (.int .i64 G.k) ∧ W'.cell? ⟨BG, 1, none⟩ = some (.int .i64 G.n) ∧ W'.cell? ⟨BG, 2, none⟩ = some (.int .i64 G.x) ∧ W'.cell? ⟨BG, 3, none⟩ = some (.string ⟨G.s.toArray⟩) ∧ W'.cell? ⟨BG, 4, none⟩ = some (.slice G.a G.l.length G.cap))
      case first =>
        have hR0 := Rl.refl wr
        have HK := Lib.hid (fun (W' : World) (h : Rl wr W') => (show Rl wr W' ∧ W'.cell? ⟨B, 0, none⟩ = some (.int .i64 Y.k) ∧ W'.cell? ⟨B, 1, none⟩ = some (.int .i64 Y.n) ∧ W'.cell? ⟨B, 2, none⟩ = some (.int .i64 Y.x) ∧ W'.cell? ⟨B, 3, none⟩ = some (.string ⟨Y.s.toArray⟩) ∧ W'.cell? ⟨B, 4, none⟩ = some (.slice Y.a Y.l.length Y.cap) ∧ W'.cell? ⟨g, o + i' * 2, none⟩ = some (.int .i64 s.1) ∧ W'.cell? ⟨g, o + i' * 2 + 1, none⟩ = some (.bool s.2) from ⟨h, keep_below h.b c0, keep_below h.b c1, keep_below h.b c2, keep_below h.b c3, keep_below h.b c4, keep_below h.b p0, keep_below h.b p1⟩))
        go_region_held3 (fun W' => Rl wr W' ∧ W'.cell? ⟨B, 0, none⟩ = some (.int .i64 Y.k) ∧ W'.cell? ⟨B, 1, none⟩ = some (.int .i64 Y.n) ∧ W'.cell? ⟨B, 2, none⟩ = some (.int .i64 Y.x) ∧ W'.cell? ⟨B, 3, none⟩ = some (.string ⟨Y.s.toArray⟩) ∧ W'.cell? ⟨B, 4, none⟩ = some (.slice Y.a Y.l.length Y.cap) ∧ W'.cell? ⟨g, o + i' * 2, none⟩ = some (.int .i64 s.1) ∧ W'.cell? ⟨g, o + i' * 2 + 1, none⟩ = some (.bool s.2)) ((go_split_ands; refine HK.out _ ?_; first | with_reducible assumption | with_reducible exact (Rl.refl _).drew | with_reducible exact HRa.out | with_reducible exact Rl.alloc (by assumption) _ | with_reducible exact Rl.alloc HRa.out _ | with_reducible exact (Rl.alloc (Rl.refl _) _).drew | with_reducible exact Rl.drew (by assumption) | with_reducible exact Rl.five (by assumption) HRa.out.z | with_reducible exact Rl.five (by assumption) (Nat.le_refl _))) ((first | (go_at_call 13; go_split_ands; refine (HSV.out _ (by assumption)).mono ?_; rintro e wa ⟨G, hpa, rfl, hoa, hna, hba⟩; have HPG := Lib.hid hpa; have HOG := Lib.hid hoa; have HNG := Lib.hid hna; clear hpa hoa hna; have HRa := Lib.hid (Rl.below (W0 := wr) (by assumption) hba); (first | (have hz := mboxD hba; obtain ⟨z0, z1, z2, z3, z4, zf⟩ := hz) | (have hz := mbox hba; obtain ⟨z0, z1, z2, z3, z4, zf⟩ := hz) | skip))))
        all_goals (go_wp2_with fail; go_meet; (first | with_reducible exact ⟨rfl, G, _, rfl, HPG.out, leaf_last HRa.out (by first | exact Nat.le_refl _ | (simp; done)) HOG.out HNG.out⟩ | with_reducible exact ⟨rfl, G, _, rfl, HPG.out, leaf_early HRa.out (Nat.le_refl _) (by simp) (by simp) HOG.out HNG.out z0 z1 z2 z3 z4⟩))
      obtain ⟨hv, G, BG, rfl, hpG, hoG, hnG, hxG, hBg, hRg, d0, d1, d2, d3, d4⟩ := hcut
      subst hv
      have HG := Lib.hid hpG
      have HL2 := Lib.hid (HLi.out.keep hRg.b)
      have HNX := Lib.hid (HLi.out.next hRg hoG hnG)
      have HSUB : Hid (∀ t, Y.pt.step s = some t → t.sz ≤ 1048576) := Lib.hid (fun t ht => Nat.le_trans (sz_sub (step_mem ht)) HSi.out)
      clear hpG hoG hnG hxG hBg hRg c0 c1 c2 c3 c4 p0 p1
      obtain ⟨c0, c1, c2, c3, c4⟩ := HL2.out.x
      have xf := HL2.out.xf
      obtain ⟨z0, z1, z2, z3, z4⟩ := HL2.out.z
      have zf := HL2.out.zf
      cases hcs : Y.pt.step s with
      | none =>
        rw [hcs] at HST HD
        obtain ⟨rfl, rfl⟩ := Prod.mk.inj HST.out
        have HF : Hid (r = found none) := HD
        clear hcs
        go_wp2
        refine bodyPost_ret (v := .tuple #[.agg #[.int .i64 0, .int .i64 0, .int .i64 0, .string ⟨#[]⟩, .slice none 0 0], .bool false]) (by simp [results, Tryd.results10, go_sem, z0, z1, z2, z3, z4]) rfl ?_
        rw [HF.out]
        exact found_none HL2.out.below (by omega)
      | some t =>
        rw [hcs] at HST HD
        obtain ⟨rfl, rfl⟩ := Prod.mk.inj HST.out
        have HF : Hid (r = found (PT.at' (l.drop (i' + 1)) G.pt)) := Lib.hid (by rw [HG.out]; exact HD.out)
        have HS2 : Hid (G.pt.sz ≤ 1048576) := Lib.hid (by rw [HG.out]; exact HSUB.out _ hcs)
        clear hcs
        go_wp2
        go_roundw
        case rel =>
          exact ⟨i' + 1, G, by go_num, by omega, HF, HS2, HNX⟩
        case measure => simp [intOf]; omega
    · obtain ⟨c0, c1, c2, c3, c4⟩ := HLi.out.x
      obtain ⟨z0, z1, z2, z3, z4⟩ := HLi.out.z
      have zf := HLi.out.zf
      have HF : Hid (r = (Y.pt, true)) := Lib.hid (by rw [HRi.out, List.drop_eq_nil_of_le (by omega)]; rfl)
      go_wp2
      refine bodyPost_ret (v := .tuple #[.agg #[.int .i64 Y.k, .int .i64 Y.n, .int .i64 Y.x, .string ⟨Y.s.toArray⟩, .slice Y.a Y.l.length Y.cap], .bool true]) (by simp [results, Tryd.results10, go_sem, z0, z1, z2, z3, z4]) rfl ?_
      rw [HF.out]
      exact found_some (w := w) (B := w.heap.size + 1) (t := Y.pt) rfl (HLi.out.own.base (by omega)) HLi.out.nd HLi.out.below (by omega) (fun hk => by have := (HLi.out.own.lt _ hk).1; omega)
end Go.Proofs.YtgfebmnlcihpnaaDoor
