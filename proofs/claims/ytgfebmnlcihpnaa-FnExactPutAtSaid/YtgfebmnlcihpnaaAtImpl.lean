/- AtPath and StepVal of the program. -/
import Derived.Test.YtgfebmnlcihpnaaAtSpec
import Derived.Test.YtgfebmnlcihpnaaCopyImpl
namespace Go.Proofs.Ytgfebmnlcihpnaa
open Go.RowKit
set_option maxRecDepth 100000
/-- the head of AtPath's loop: the value reached lies in the argument's box -/
structure AtI (w wr : World) (B0 : Nat) (Y : AT) : Prop where
  z : VC wr (w.heap.size + 1) 0 0 0 ⟨#[]⟩ none 0 0
  zf : ∀ o, wr.frozen? ⟨w.heap.size + 1, o, none⟩ = false
  x : VC wr w.heap.size Y.k Y.n Y.x ⟨Y.s.toArray⟩ Y.a Y.l.length Y.cap
  xf : ∀ o, wr.frozen? ⟨w.heap.size, o, none⟩ = false
  own : Y.Own w B0
  below : Below w.heap.size w wr
theorem AtI.keep {w wr w' : World} {B0 : Nat} {Y : AT} (h : AtI w wr B0 Y) (hb : Below wr.heap.size wr w') : AtI w w' B0 Y where
  z := h.z.blw hb
  zf o := by rw [frozen_blk' (hb.block _ h.z.lt)]; exact h.zf o
  x := h.x.blw hb
  xf o := by rw [frozen_blk' (hb.block _ h.x.lt)]; exact h.xf o
  own := h.own
  below := h.below.trans (hb.mono h.below.size)
theorem AtI.next {w W : World} {B0 : Nat} {Y G : AT} (h : AtI w W B0 Y) (hG : G.Own w B0) :
    AtI w (((((W.setCell ⟨w.heap.size, 0, none⟩ (.int .i64 G.k)).setCell ⟨w.heap.size, 1, none⟩ (.int .i64 G.n)).setCell ⟨w.heap.size, 2, none⟩ (.int .i64 G.x)).setCell ⟨w.heap.size, 3, none⟩ (.string ⟨G.s.toArray⟩)).setCell ⟨w.heap.size, 4, none⟩ (.slice G.a G.l.length G.cap)) B0 G where
  z := ((((h.z.other (by omega)).other (by omega)).other (by omega)).other (by omega)).other (by omega)
  zf := frozen_set5 h.zf
  x := vset5 h.x
  xf := frozen_set5 h.xf
  own := hG
  below := bset (bset (bset (bset (bset h.below (Nat.le_refl _)) (Nat.le_refl _)) (Nat.le_refl _)) (Nat.le_refl _)) (Nat.le_refl _)
theorem found_last {w w1 w2 : World} {B : Nat} {X : AT} {t : PT} (hB : Below w.heap.size w w1) (hX : X.pt = t) (hO : X.Own w2 w1.heap.size) (hN : X.blks.Nodup) (hb : Below w1.heap.size w1 w2) (h1 : w.heap.size ≤ B) (h2 : B < w1.heap.size) :
    LookPost w (found (some t)) (.returned (.tuple #[X.val, .bool true])) (((((w2.setCell ⟨B, 0, none⟩ (.int .i64 X.k)).setCell ⟨B, 1, none⟩ (.int .i64 X.n)).setCell ⟨B, 2, none⟩ (.int .i64 X.x)).setCell ⟨B, 3, none⟩ (.string ⟨X.s.toArray⟩)).setCell ⟨B, 4, none⟩ (.slice X.a X.l.length X.cap)) :=
  found_some hX (hO.base hB.size) hN (hB.trans (hb.mono hB.size)) h1 (fun hk => by have := (hO.lt _ hk).1; omega)
set_option maxHeartbeats 4000000 in
theorem atpath_impl (T : AT) (l : List St) (a : Option Addr) (cap : Nat) (w : World) (B0 N : Nat) (hown : T.Own w B0) (hs : SAt w N a cap l) (hN : N ≤ w.heap.size) (hsz : T.pt.sz ≤ 1048576) (hl : l.length ≤ 1048576) : Calls Try.prog 62 #[T.val, .slice a l.length cap] w (LookPost w (found (PT.at' l T.pt))) := by
  have HS := Lib.hid hs
  have h3 := at_boxes w T.k T.n T.x ⟨T.s.toArray⟩ T.a T.l.length T.cap 26
  have hf0 : ∀ o, ((w.alloc (.cells #[.int .i64 T.k, .int .i64 T.n, .int .i64 T.x, .string ⟨T.s.toArray⟩, .slice T.a T.l.length T.cap] 26)).alloc (.cells #[.int .i64 0, .int .i64 0, .int .i64 0, .string ⟨#[]⟩, .slice none 0 0] 26)).frozen? ⟨w.heap.size, o, none⟩ = false := fun o => by simp [go_sem]
  obtain ⟨r, hr⟩ : ∃ r, r = found (PT.at' l T.pt) := ⟨_, rfl⟩
  rw [← hr]
  have HR := Lib.hid hr
  have HSZ := Lib.hid hsz
  have HO := Lib.hid hown
  clear hown hs hsz hr
  show Calls Try.prog 62 #[.agg #[.int .i64 T.k, .int .i64 T.n, .int .i64 T.x, .string ⟨T.s.toArray⟩, .slice T.a T.l.length T.cap], .slice a l.length cap] w _
  go_enter Try.func62, Try.ntmps62
  go_wp2_with fail
  try dsimp only at h3
  generalize ((w.alloc (.cells #[.int .i64 T.k, .int .i64 T.n, .int .i64 T.x, .string ⟨T.s.toArray⟩, .slice T.a T.l.length T.cap] 26)).alloc (.cells #[.int .i64 0, .int .i64 0, .int .i64 0, .string ⟨#[]⟩, .slice none 0 0] 26)) = W0 at *
  have HI : Hid (AtI w W0 B0 T) := Lib.hid ⟨h3.2.1, h3.2.2.1, h3.1, hf0, HO.out, h3.2.2.2.1⟩
  clear h3 hf0
  go_loopw [12] (fun i wr => ∃ (i' : Nat) (Y : AT), i = .int .i64 i' ∧ i' ≤ l.length ∧ Hid (r = found (PT.at' (l.drop i') Y.pt)) ∧ Hid (Y.pt.sz ≤ 1048576) ∧ Hid (AtI w wr B0 Y)) (fun i _ => l.length - (intOf i).toNat)
  case atStart => exact ⟨0, T, rfl, Nat.zero_le _, HR, HSZ, HI⟩
  case round =>
    obtain ⟨i', Y, rfl, hi', HRi, HSi, HIi⟩ := hrel
    by_cases hlt : i' < l.length
    · obtain ⟨g, o, rfl, hgN, p0, p1⟩ := HS.out.cell i' hlt
      have hbel := HIi.out.below
      replace p0 := (hbel.cell (p := ⟨g, o + i' * 2, none⟩) (by show g < w.heap.size; omega)).trans p0
      replace p1 := (hbel.cell (p := ⟨g, o + i' * 2 + 1, none⟩) (by show g < w.heap.size; omega)).trans p1
      have HD := Lib.hid (HRi.out.trans (by rw [at_drop hlt]))
      obtain ⟨s, hs⟩ : ∃ s : St, s = l[i'] := ⟨_, rfl⟩
      rw [← hs] at p0 p1 HD
      have hyl : Y.l.length ≤ 1048576 := by have := len_le_sz Y; have := HSi.out; omega
      have HEL0 := Lib.hid (fun W => element_impl Y s W hyl)
      have HIA := Lib.hid (HIi.out.keep (vbox wr (.cells #[.int .i64 s.1, .bool s.2] 65)))
      obtain ⟨c0, c1, c2, c3, c4⟩ := HIA.out.x
      have hzs := HIi.out.x.lt
      cases hp : plc Y.k Y.l.length s with
      | none =>
        have HEL : Hid (∀ W : World, Calls Try.prog 126 #[.agg #[.int .i64 Y.k, .int .i64 Y.n, .int .i64 Y.x, .string ⟨Y.s.toArray⟩, .slice Y.a Y.l.length Y.cap], .agg #[.int .i64 s.1, .bool s.2]] W fun e w' => e = .returned (.tuple #[.int .i64 0, .bool false]) ∧ Below W.heap.size W w') := Lib.hid (fun W => by have := HEL0.out W; rw [plV_no hp] at this; exact this)
        have HF : Hid (r = found none) := Lib.hid (by rw [HD.out, step_none hp]; rfl)
        clear hs hp hbel HEL0 HD
        go_wp2_with fail
        generalize (wr.alloc (.cells #[.int .i64 s.1, .bool s.2] 65)) = W1 at *
        refine (HEL.out _).mono ?_
        rintro e w2 ⟨rfl, hb2⟩
        have HI2 := Lib.hid (HIA.out.keep hb2)
        clear c0 c1 c2 c3 c4 hb2
        obtain ⟨z0, z1, z2, z3, z4⟩ := HI2.out.z
        have zf := HI2.out.zf
        go_wp2
        refine bodyPost_ret (v := .tuple #[.agg #[.int .i64 0, .int .i64 0, .int .i64 0, .string ⟨#[]⟩, .slice none 0 0], .bool false]) (by simp [results, Try.results62, go_sem, z0, z1, z2, z3, z4]) rfl ?_
        rw [HF.out]
        exact found_none HI2.out.below (by omega)
      | some j =>
        have hj := plc_lt hp
        have HEL : Hid (∀ W : World, Calls Try.prog 126 #[.agg #[.int .i64 Y.k, .int .i64 Y.n, .int .i64 Y.x, .string ⟨Y.s.toArray⟩, .slice Y.a Y.l.length Y.cap], .agg #[.int .i64 s.1, .bool s.2]] W fun e w' => e = .returned (.tuple #[.int .i64 (j : Int), .bool true]) ∧ Below W.heap.size W w') := Lib.hid (fun W => by
          have := HEL0.out W
          have e : plV Y.k Y.l.length s = .tuple #[.int .i64 (j : Int), .bool true] := by unfold plV; rw [hp]
          rw [e] at this; exact this)
        obtain ⟨b, o2, ha, hbN, hC⟩ := HIi.out.own.in.lv'.cell j hj
        have HC := Lib.hid hC
        have HGO := Lib.hid (HIi.out.own.l'.sub _ (List.getElem_mem hj))
        have HF : Hid (r = found (PT.at' (l.drop (i' + 1)) (Y.l[j]).pt)) := Lib.hid (by rw [HD.out, step_some hp hj]; rfl)
        have HS2 : Hid ((Y.l[j]).pt.sz ≤ 1048576) := Lib.hid (Nat.le_trans (sz_sub (by rw [ptl]; exact List.mem_map_of_mem (List.getElem_mem hj))) HSi.out)
        obtain ⟨G, hG⟩ : ∃ G, G = Y.l[j] := ⟨_, rfl⟩
        rw [← hG] at HC HF HS2 HGO
        have HA := Lib.hid ha
        clear hs hp hbel HEL0 HD ha hC hG
        go_wp2_with fail
        generalize (wr.alloc (.cells #[.int .i64 s.1, .bool s.2] 65)) = W1 at *
        refine (HEL.out _).mono ?_
        rintro e w2 ⟨rfl, hb2⟩
        have HI2 := Lib.hid (HIA.out.keep hb2)
        clear c0 c1 c2 c3 c4 hb2
        obtain ⟨c0, c1, c2, c3, c4⟩ := HI2.out.x
        have xf := HI2.out.xf
        obtain ⟨f0, f1, f2, f3, f4⟩ := HC.out.keep (HI2.out.below.block b hbN)
        have HNX := Lib.hid (HI2.out.next HGO.out)
        rw [HA.out] at c4
        go_wp2
        go_roundw
        case rel => exact ⟨i' + 1, G, by go_num, by omega, HF, HS2, HNX⟩
        case measure => simp [intOf]; omega
    · obtain ⟨c0, c1, c2, c3, c4⟩ := HIi.out.x
      have HF : Hid (r = (Y.pt, true)) := Lib.hid (by rw [HRi.out, List.drop_eq_nil_of_le (by omega)]; rfl)
      have hzs := HIi.out.z.lt
      have HCA := Lib.hid (copied_any Y wr B0 (HIi.out.own.kept fun k hk => HIi.out.below.block k (HIi.out.own.lt k hk).2) HSi.out)
      go_wp2_with fail
      refine HCA.out.mono ?_
      rintro e w2 ⟨X, hX, rfl, hO, hNd, hb2⟩
      have HI2 := Lib.hid (HIi.out.keep hb2)
      have HFD := Lib.hid (found_last (B := w.heap.size + 1) HIi.out.below hX hO hNd hb2 (by omega) hzs)
      obtain ⟨z0, z1, z2, z3, z4⟩ := HI2.out.z
      have zf := HI2.out.zf
      clear hX hO hNd hb2 c0 c1 c2 c3 c4
      go_wp2
      refine bodyPost_ret (v := .tuple #[.agg #[.int .i64 X.k, .int .i64 X.n, .int .i64 X.x, .string ⟨X.s.toArray⟩, .slice X.a X.l.length X.cap], .bool true]) (by simp [results, Try.results62, go_sem, z0, z1, z2, z3, z4]) rfl ?_
      rw [HF.out]
      exact HFD.out
theorem stepval_boxes (w : World) (k n x : Int) (s : ByteArray) (a : Option Addr) (len cap : Nat) (i : Int) (b : Bool) (t u : TypeId) :
    let W := (((w.alloc (.cells #[.int .i64 k, .int .i64 n, .int .i64 x, .string s, .slice a len cap] t)).alloc (.cells #[.int .i64 i, .bool b] u)).alloc (.cells #[.int .i64 0, .int .i64 0, .int .i64 0, .string ⟨#[]⟩, .slice none 0 0] t)).alloc (.cells #[.int .i64 i, .bool b] u)
    VC W (w.heap.size + 2) 0 0 0 ⟨#[]⟩ none 0 0 ∧ (∀ o, W.frozen? ⟨w.heap.size + 2, o, none⟩ = false) ∧ Below w.heap.size w W ∧ W.heap.size = w.heap.size + 4 ∧ SAt W W.heap.size (some ⟨w.heap.size + 3, 0, none⟩) 1 [(i, b)] := by
  refine ⟨⟨?_, ?_, ?_, ?_, ?_⟩, fun o => ?_, (boxes3 w _ _ _).alloc (by simp; omega) _, by simp, ⟨Nat.le_refl _, fun j hj => ?_⟩⟩
  case refine_7 =>
    obtain rfl : j = 0 := by simpa using hj
    refine ⟨_, _, rfl, by simp, ?_, ?_⟩ <;> simp [go_sem]
  all_goals simp [go_sem]
set_option maxHeartbeats 4000000 in
theorem stepval_impl (T : AT) (s : St) (w : World) (B0 : Nat) (hown : T.Own w B0) (hsz : T.pt.sz ≤ 1048576) : Calls Try.prog 70 #[T.val, s.val] w (LookPost w (found (T.pt.step s))) := by
  obtain ⟨i, b⟩ := s
  have e : PT.at' [(i, b)] T.pt = T.pt.step (i, b) := by simp [PT.at']
  have HC := Lib.hid (fun (W : World) (a : Option Addr) (cap : Nat) (hb : Below w.heap.size w W) (hs : SAt W W.heap.size a cap [(i, b)]) => atpath_impl T [(i, b)] a cap W B0 W.heap.size (hown.blw hb) hs (Nat.le_refl _) hsz (by simp))
  rw [e] at HC
  obtain ⟨p2, bv2, hst⟩ : ∃ p2 bv2, (p2, bv2) = found (T.pt.step (i, b)) := ⟨_, _, rfl⟩
  rw [← hst] at HC ⊢
  have h3 := stepval_boxes w T.k T.n T.x ⟨T.s.toArray⟩ T.a T.l.length T.cap i b 26 65
  clear hown hsz e hst
  show Calls Try.prog 70 #[.agg #[.int .i64 T.k, .int .i64 T.n, .int .i64 T.x, .string ⟨T.s.toArray⟩, .slice T.a T.l.length T.cap], .agg #[.int .i64 i, .bool b]] w _
  go_enter Try.func70, Try.ntmps70
  go_wp2_with fail
  try dsimp only at h3
  generalize ((((w.alloc (.cells #[.int .i64 T.k, .int .i64 T.n, .int .i64 T.x, .string ⟨T.s.toArray⟩, .slice T.a T.l.length T.cap] 26)).alloc (.cells #[.int .i64 i, .bool b] 65)).alloc (.cells #[.int .i64 0, .int .i64 0, .int .i64 0, .string ⟨#[]⟩, .slice none 0 0] 26)).alloc (.cells #[.int .i64 i, .bool b] 65)) = W0 at *
  obtain ⟨hZ, hzf, hB, hz, hS⟩ := h3
  refine (HC.out W0 _ _ hB hS).mono ?_
  rintro e w2 ⟨X, hX, rfl, hO, hN, hb2⟩
  have HFD := Lib.hid (look_put (w := w) (B := w.heap.size + 2) (bv := bv2) hX (hO.base (by omega)) hN (hB.trans (hb2.mono (by omega))) (by omega) (fun hk => by have := (hO.lt _ hk).1; omega))
  obtain ⟨z0, z1, z2, z3, z4⟩ := hZ.blw hb2
  have zf : ∀ o, w2.frozen? ⟨w.heap.size + 2, o, none⟩ = false := fun o => by rw [frozen_blk' (hb2.block _ (by omega))]; exact hzf o
  clear hX hO hN hb2 hZ hzf hB hz hS
  go_wp2
  refine bodyPost_ret (v := .tuple #[.agg #[.int .i64 X.k, .int .i64 X.n, .int .i64 X.x, .string ⟨X.s.toArray⟩, .slice X.a X.l.length X.cap], .bool bv2]) (by simp [results, Try.results70, go_sem, z0, z1, z2, z3, z4]) rfl ?_
  exact HFD.out
end Go.Proofs.Ytgfebmnlcihpnaa
