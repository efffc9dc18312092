import Derived.Test.YtdjnkcoepmackaaG8
import Derived.Deep.RegionLaw
import Derived.Deep.Cut
import Derived.Deep.RegionHeld3
/- Draws of trees with elements. -/
namespace Go.Proofs.Ytdjnkcoepmackaa
open Go.RowKit
set_option maxRecDepth 100000
theorem cell_eqb {w w' : World} {b o : Nat} (e : w'.heap[b]? = w.heap[b]?) : w'.cell? ⟨b, o, none⟩ = w.cell? ⟨b, o, none⟩ := by unfold World.cell?; rw [e]
theorem VC.eqb {w w' : World} {b : Nat} {k n x : Int} {s : ByteArray} {a : Option Addr} {len cap : Nat} (h : VC w b k n x s a len cap) (e : w'.heap[b]? = w.heap[b]?) : VC w' b k n x s a len cap :=
  ⟨(cell_eqb e).trans h.c0, (cell_eqb e).trans h.c1, (cell_eqb e).trans h.c2, (cell_eqb e).trans h.c3, (cell_eqb e).trans h.c4⟩
theorem vc_lt {w : World} {b : Nat} {k n x : Int} {s : ByteArray} {a : Option Addr} {len cap : Nat} (h : VC w b k n x s a len cap) : b < w.heap.size := cell_lt h.c0
theorem set_other {W : World} {b o k : Nat} {u : Value} (hk : k < W.heap.size) (hne : k ≠ b) : (W.setCell ⟨b, o, none⟩ u).heap[k]? = W.heap[k]? := ((Only.refl b W).setCell o u).block k hk hne
/-- a draw of elements under way: the box V of the tree, its row so far, q the sizes, r the length -/
structure DL (w wr : World) (B V : Nat) (kv : Int) (lr : List AT) (a : Option Addr) (cap q r : Nat) : Prop where
  v : VC wr V kv 0 0 ⟨#[]⟩ a lr.length cap
  vf : ∀ o, wr.frozen? ⟨V, o, none⟩ = false
  own : OwnL wr (V + 1) a cap lr
  nd : ((a.map (·.block)).toList ++ AT.blksL lr).Nodup
  wf : ∀ T ∈ lr, T.pt.Wf
  sz : PT.szL (AT.ptL lr) ≤ q
  len : lr.length ≤ r
  z : ZB wr w.heap.size
  o : Only B w wr
  c : Cur wr B
  zv : w.heap.size < V
  bz : B < w.heap.size
theorem DL.mono {w wr : World} {B V : Nat} {kv : Int} {lr : List AT} {a : Option Addr} {cap q r q' r' : Nat} (h : DL w wr B V kv lr a cap q r) (hq : q ≤ q') (hr : r ≤ r') : DL w wr B V kv lr a cap q' r' :=
  { h with sz := Nat.le_trans h.sz hq, len := Nat.le_trans h.len hr }
theorem DL.keep {w wr w4 : World} {B V : Nat} {kv : Int} {lr : List AT} {a : Option Addr} {cap q r : Nat} (h : DL w wr B V kv lr a cap q r) (ho : Only B wr w4) (hc : Cur w4 B) : DL w w4 B V kv lr a cap q r := by
  have hz := h.zv
  have hb := h.bz
  have hT : AT.Own wr (V + 1) (.mk 0 0 0 [] a cap lr) := h.own.own
  have e := ho.block V (vc_lt h.v) (by omega)
  exact { h with
    v := h.v.eqb e
    vf := fun o => by rw [frozen_blk' e]; exact h.vf o
    own := (hT.only ho (fun hk => by have := (hT.lt _ hk).1; omega)).l
    z := h.z.only ho (by omega)
    o := h.o.trans ho
    c := hc }
theorem szL_snoc : ∀ (l : List PT) (t : PT), PT.szL (l ++ [t]) = PT.szL l + t.sz
  | [], t => by simp [PT.szL]
  | u :: l, t => by simp only [List.cons_append, PT.szL, szL_snoc l t]; omega
/-- .. behind the append of one more tree -/
theorem DL.grow {w w4 w5 : World} {B V gg cap2 : Nat} {kv : Int} {lr : List AT} {a : Option Addr} {cap q r s : Nat} {T : AT} (h : DL w w4 B V kv lr a cap q r) (hT : T.Own w4 (V + 1)) (hN : T.blks.Nodup) (hW : T.pt.Wf) (hs : T.pt.sz ≤ s)
    (hdis : ∀ k ∈ T.blks, k ∉ (a.map (·.block)).toList ++ AT.blksL lr) {W : World} (hbW : Below w4.heap.size w4 W)
    (hown : w5.ownsRow (V + 1) 28 5 (.slice (some ⟨gg, 0, none⟩) (lr.length + 1) cap2) (lr.length + 1) (cellsL lr ++ T.cells)) (hgrow : W.grownBy w5 (Value.slice a lr.length cap).ownBlock) (hat : (Value.slice a lr.length cap).ownBlock = some gg ∨ gg = W.heap.size) :
    (VC w5 V kv 0 0 ⟨#[]⟩ a lr.length cap ∧ (∀ o, w5.frozen? ⟨V, o, none⟩ = false) ∧ V < w5.heap.size) ∧ DL w (w5.setCell ⟨V, 4, none⟩ (.slice (some ⟨gg, 0, none⟩) (lr.length + 1) cap2)) B V kv (lr ++ [T]) (some ⟨gg, 0, none⟩) cap2 (q + s) (r + 1) := by
  have hz := h.zv
  have hb := h.bz
  have hlt := vc_lt h.v
  obtain ⟨hnew, hnd⟩ := row_push (h.own.blw hbW) h.nd (hT.blw hbW) hN hdis hown hgrow hat
  have hb5 : Below (V + 1) w4 w5 := below_push hgrow (fun k hk => (h.own.row.lt k hk).1) hbW (by omega)
  have e : w5.heap[V]? = w4.heap[V]? := hb5.block V (by omega)
  have hV5 := h.v.eqb e
  have hf5 : ∀ o, w5.frozen? ⟨V, o, none⟩ = false := fun o => by rw [frozen_blk' e]; exact h.vf o
  have hl5 := vc_lt hV5
  refine ⟨⟨hV5, hf5, hl5⟩, ?_⟩
  obtain ⟨v0, v1, v2, v3, v4⟩ := hV5
  have ez : w5.heap[w.heap.size]? = w4.heap[w.heap.size]? := hb5.block _ (by omega)
  have hT2 : AT.Own w5 (V + 1) (.mk 0 0 0 [] (some ⟨gg, 0, none⟩) cap2 (lr ++ [T])) := hnew.own
  have hz5 : w.heap.size < w5.heap.size := by omega
  exact {
    v := by rw [List.length_append, List.length_singleton]; exact ⟨by simp [go_sem, v0], by simp [go_sem, v1], by simp [go_sem, v2], by simp [go_sem, v3], by simp [go_sem, v4]⟩
    vf := fun o => by simp [go_sem, hf5]
    own := (hT2.set (by omega)).l
    nd := by simpa using hnd
    wf := fun t ht => by
      rcases List.mem_append.1 ht with ht | ht
      · exact h.wf t ht
      · obtain rfl : t = T := by simpa using ht
        exact hW
    sz := by
      have := h.sz
      have e2 : PT.szL (AT.ptL (lr ++ [T])) = PT.szL (AT.ptL lr) + T.pt.sz := by
        rw [AT.ptL_eq, AT.ptL_eq, List.map_append, List.map_singleton, szL_snoc]
      omega
    len := by rw [List.length_append, List.length_singleton]; have := h.len; omega
    z := (set_other hz5 (by omega)).trans (ez.trans h.z)
    o := Only.setNew (h.o.then_below hb5 (by omega)) (by simp; omega) _
    c := Cur.setNew (h.c.below hb5 (by omega)) (by simp; omega) _
    zv := hz
    bz := hb }
theorem DL.tree {w wr : World} {B V N : Nat} {kv : Int} {lr : List AT} {a : Option Addr} {cap q r : Nat} (h : DL w wr B V kv lr a cap q r) (hk : isInt kv) (hN : q + r ≤ N) (hr : r ≤ 6) (u0 u1 u2 u3 u4 : Value) :
    TreePost B N w (.returned (.agg #[.int .i64 kv, .int .i64 0, .int .i64 0, .string ⟨#[]⟩, .slice a lr.length cap])) (((((wr.setCell ⟨w.heap.size, 0, none⟩ u0).setCell ⟨w.heap.size, 1, none⟩ u1).setCell ⟨w.heap.size, 2, none⟩ u2).setCell ⟨w.heap.size, 3, none⟩ u3).setCell ⟨w.heap.size, 4, none⟩ u4) := by
  have hz := h.zv
  have hb := h.bz
  have hT : AT.Own wr (V + 1) (.mk kv 0 0 [] a cap lr) := h.own.own
  have h1 := h.sz
  have h2 := h.len
  refine ⟨.mk kv 0 0 [] a cap lr, rfl, ((((((hT.set (by omega)).set (by omega)).set (by omega)).set (by omega)).set (by omega)).base (by omega)), by simpa [AT.blks] using h.nd, ⟨.mk hk (by decide) (by decide) (by simp) (by simp [AT.ptL_eq]; omega) (fun t ht => ?_), by simp [AT.pt, PT.sz, AT.ptL_eq] at h1 ⊢; omega⟩, ?_, ?_⟩
  · rw [AT.ptL_eq] at ht
    obtain ⟨T, hT, rfl⟩ := List.mem_map.1 ht
    exact h.wf T hT
  · exact Only.setNew (Only.setNew (Only.setNew (Only.setNew (Only.setNew h.o (by simp) _) (by simp) _) (by simp) _) (by simp) _) (by simp) _
  · exact Cur.setNew (Cur.setNew (Cur.setNew (Cur.setNew (Cur.setNew h.c hb _) hb _) hb _) hb _) hb _
theorem DL.start {w w2 w3 : World} {B : Nat} {kv : Int} (hb : B < w.heap.size) (hz : ZB w2 w.heap.size) (hv : VC w3 w2.heap.size kv 0 0 ⟨#[]⟩ none 0 0) (hf : ∀ o, w3.frozen? ⟨w2.heap.size, o, none⟩ = false) (ho3 : Only B w w3) (hz3 : ZB w3 w.heap.size) (hc3 : Cur w3 B) : DL w w3 B w2.heap.size kv [] none 0 0 0 where
  v := hv
  vf := hf
  own := (AT.leaf_own w3 _ 0 0 0 []).l
  nd := by simp [AT.blksL]
  wf := by simp
  sz := by simp [AT.ptL, PT.szL]
  len := by simp
  z := hz3
  o := ho3
  c := hc3
  zv := hz.lt
  bz := hb
theorem DL.drew {w wr : World} {B V : Nat} {kv : Int} {lr : List AT} {a : Option Addr} {cap q r : Nat} (h : DL w wr B V kv lr a cap q r) : DL w wr.drew B V kv lr a cap q r := h.keep (Only.refl B wr).drew h.c.drew
/-- a name, drawn while elements are -/
theorem name_dl {w wr : World} {B V : Nat} {kv : Int} {lr : List AT} {a : Option Addr} {cap q r : Nat} (h : DL w wr B V kv lr a cap q r) : Calls Try.prog 99 #[.pointer (some ⟨B, 0, none⟩)] wr fun e w4 => ∃ T : AT, e = .returned (.agg #[.int .i64 T.k, .int .i64 T.n, .int .i64 T.x, .string ⟨T.s.toArray⟩, .slice T.a T.l.length T.cap]) ∧ Hid (DL w w4 B V kv lr a cap q r ∧ T.Own w4 (V + 1) ∧ T.blks.Nodup ∧ T.pt.Wf ∧ T.pt.sz ≤ 1000 ∧ ∀ k ∈ T.blks, k ∉ (a.map (·.block)).toList ++ AT.blksL lr) ∧ w4.cell? ⟨V, 4, none⟩ = some (.slice a lr.length cap) ∧ V < w4.heap.size := by
  refine (name_any wr B h.c).mono ?_
  intro e w4 hp
  obtain ⟨T, hr, hOT, hNT, hWT, ho4, hc4⟩ := hp.tree (N := 1000) (Nat.le_refl _)
  have hk := h.keep ho4 hc4
  exact ⟨T, hr, Lib.hid ⟨hk, hOT.base (vc_lt h.v), hNT, hWT.1, hWT.2, fun k hk1 hk2 => by
    have h1 := (hOT.lt k hk1).1
    have h2 := (h.own.lt k hk2).2
    omega⟩, hk.v.c4, vc_lt hk.v⟩
theorem tag_tree0 {w W : World} {B N M : Nat} {y : Int} {T : AT} (hO : Only B w W) (hC : Cur W B) (hT : T.Own W (w.heap.size + 1)) (hN : T.blks.Nodup) (hW : T.pt.Wf) (hs : T.pt.sz ≤ N) (hM : 1 + N ≤ M) (hy : isInt y) :
    TreePost B M w (.returned (.agg #[.int .i64 11, .int .i64 y, .int .i64 0, .string ⟨#[]⟩, .slice (some ⟨W.heap.size, 0, none⟩) 1 1])) (W.alloc (.cells #[.int .i64 T.k, .int .i64 T.n, .int .i64 T.x, .string ⟨T.s.toArray⟩, .slice T.a T.l.length T.cap] 28)) := by
  have hb := vbox W (.cells #[.int .i64 T.k, .int .i64 T.n, .int .i64 T.x, .string ⟨T.s.toArray⟩, .slice T.a T.l.length T.cap] 28)
  refine ⟨.mk 11 y 0 [] (some ⟨W.heap.size, 0, none⟩) 1 [T], rfl, .mk ⟨rfl, .inr ⟨W.heap.size, 1, #[.int .i64 T.k, .int .i64 T.n, .int .i64 T.x, .string ⟨T.s.toArray⟩, .slice T.a T.l.length T.cap], rfl, hO.size, heap_alloc_new W _, Nat.le_refl _, by unfold maxLen; omega, rfl, rfl⟩⟩ (fun t ht => ?_), ?_, ⟨.mk (by decide) hy (by decide) (by simp) (by simp [AT.ptL_eq]) (fun t ht => ?_), by simp [AT.pt, PT.sz, PT.szL, AT.ptL]; omega⟩, hO.then_below hb hO.size, hC.alloc _⟩
  · obtain rfl : t = T := by simpa using ht
    exact (hT.blw hb).base (by omega)
  · simp only [AT.blks, AT.blksL, Option.map_some, Option.toList_some, List.append_nil, List.cons_append, List.nil_append, List.nodup_cons]
    exact ⟨fun hm => by have := (hT.lt _ hm).2; omega, hN⟩
  · rw [AT.ptL_eq] at ht
    obtain rfl : t = T.pt := by simpa using ht
    exact hW
theorem tag_tree {w w4 : World} {B N M : Nat} {y : Int} {T : AT} (hO : Only B w w4) (hC : Cur w4 B) (hl : B < w.heap.size) (hT : T.Own w4 (w.heap.size + 1)) (hN : T.blks.Nodup) (hW : T.pt.Wf ∧ T.pt.sz ≤ N) (hM : 1 + N ≤ M) (hy : isInt y) (u0 u1 u2 u3 u4 : Value) :
    TreePost B M w (.returned (.agg #[.int .i64 11, .int .i64 y, .int .i64 0, .string ⟨#[]⟩, .slice (some ⟨w4.heap.size, 0, none⟩) 1 1])) ((((((w4.setCell ⟨w.heap.size, 0, none⟩ u0).setCell ⟨w.heap.size, 1, none⟩ u1).setCell ⟨w.heap.size, 2, none⟩ u2).setCell ⟨w.heap.size, 3, none⟩ u3).setCell ⟨w.heap.size, 4, none⟩ u4).alloc (.cells #[.int .i64 T.k, .int .i64 T.n, .int .i64 T.x, .string ⟨T.s.toArray⟩, .slice T.a T.l.length T.cap] 28)) := by
  have h := tag_tree0 (w := w) (W := (((((w4.setCell ⟨w.heap.size, 0, none⟩ u0).setCell ⟨w.heap.size, 1, none⟩ u1).setCell ⟨w.heap.size, 2, none⟩ u2).setCell ⟨w.heap.size, 3, none⟩ u3).setCell ⟨w.heap.size, 4, none⟩ u4)) (Only.setNew (Only.setNew (Only.setNew (Only.setNew (Only.setNew hO (by simp) _) (by simp) _) (by simp) _) (by simp) _) (by simp) _) (Cur.setNew (Cur.setNew (Cur.setNew (Cur.setNew (Cur.setNew hC hl _) hl _) hl _) hl _) hl _) (((((hT.set (by omega)).set (by omega)).set (by omega)).set (by omega)).set (by omega)) hN hW.1 hW.2 hM hy
  simpa using h
set_option maxHeartbeats 8000000 in
theorem draw_succ (d N B : Nat) (w : World) (hC : Cur w B) (hd : d ≤ 100) (ih : ∀ w1, Cur w1 B → Calls Try.prog 89 #[.pointer (some ⟨B, 0, none⟩), .int .i64 d] w1 (TreePost B N w1)) : Calls Try.prog 89 #[.pointer (some ⟨B, 0, none⟩), .int .i64 ((d : Int) + 1)] w (TreePost B (6 + 3 * (1000 + N)) w) := by
  have hl := hC.lt
  have hz := ZB.new w
  have hd1 : ((d : Int) + 1 == 0) = false := by simp; omega
  have hw1 : IntKind.i64.wrap ((d : Int) + 1 - 1) = (d : Int) := by rw [show (d : Int) + 1 - 1 = d by omega]; exact IntWalk.i64_in _ (by omega)
  have IH := Lib.hid ih
  clear ih
  go_enter Try.func89, Try.ntmps89
  go_wp2_with fail
  refine (below_any _ B 13 (hC.alloc _) (by decide)).mono ?_
  rintro r w2 ⟨k, ⟨hk0, hk1⟩, rfl, ho1, hc2⟩
  have hz2 := hz.only ho1 (by omega)
  have HO2 := (Only.of_below (B := B) (vbox w _)).trans ho1
  clear ho1 hz hC
  have hl2 := hc2.lt
  have hkc : k = 0 ∨ k = 1 ∨ k = 2 ∨ k = 3 ∨ k = 4 ∨ k = 5 ∨ k = 6 ∨ k = 7 ∨ k = 8 ∨ k = 9 ∨ k = 10 ∨ k = 11 ∨ k = 12 := by omega
  rcases hkc with rfl | rfl | rfl | rfl | rfl | rfl | rfl | rfl | rfl | rfl | rfl | rfl | rfl
  · obtain ⟨q0, q1, q2, q3, q4, qf⟩ := (hz2).cells
    clear hz2
    go_wp2
    refine bodyPost_ret (v := .agg #[.int .i64 1, .int .i64 0, .int .i64 0, .string ⟨#[]⟩, .slice none 0 0]) (by simp [results, Try.results89, go_sem, q0, q1, q2, q3, q4]) rfl ?_
    exact LeafPost.tree (leaf_end (k := 1) (n := 0) (x := 0) (s := []) HO2 hc2 hl (by unfold isInt; decide) (by unfold isInt; decide) (by unfold isInt; decide) (by simp) _ _ _ _ _) (by omega)
  · go_wp2_with fail
    refine (below_any _ B 2 hc2 (by decide)).mono ?_
    rintro r w3 ⟨y, ⟨hy0, hy1⟩, rfl, ho3, hc3⟩
    have HO3 := HO2.trans ho3
    obtain ⟨q0, q1, q2, q3, q4, qf⟩ := (hz2.only ho3 (by omega)).cells
    clear hz2 HO2 hc2 ho3
    go_wp2
    refine bodyPost_ret (v := .agg #[.int .i64 2, .int .i64 y, .int .i64 0, .string ⟨#[]⟩, .slice none 0 0]) (by simp [results, Try.results89, go_sem, q0, q1, q2, q3, q4]) rfl ?_
    exact LeafPost.tree (leaf_end (k := 2) (n := y) (x := 0) (s := []) HO3 hc3 hl (by unfold isInt; decide) (by unfold isInt; omega) (by unfold isInt; decide) (by simp) _ _ _ _ _) (by omega)
  · go_wp2_with fail
    refine (signed_any _ B hc2).mono ?_
    rintro r w3 ⟨y, hy, rfl, ho3, hc3⟩
    have HO3 := HO2.trans ho3
    have hz3 := hz2.only ho3 (by omega)
    have hl3 := hc3.lt
    clear hz2 HO2 hc2 ho3
    go_wp2_with fail
    refine (int_spec _ y).mono ?_
    rintro r w4 ⟨rfl, hb4⟩
    have HO4 := HO3.then_below hb4 HO3.size
    have hc4 := hc3.below hb4 hl3
    obtain ⟨q0, q1, q2, q3, q4, qf⟩ := (hz3.blw hb4).cells
    clear hz3 HO3 hc3 hb4
    go_wp2
    refine bodyPost_ret (v := .agg #[.int .i64 3, .int .i64 y, .int .i64 0, .string ⟨#[]⟩, .slice none 0 0]) (by simp [results, Try.results89, go_sem, q0, q1, q2, q3, q4]) rfl ?_
    exact LeafPost.tree (leaf_end (k := 3) (n := y) (x := 0) (s := []) HO4 hc4 hl (by unfold isInt; decide) (by unfold isSgn at hy; unfold isInt; omega) (by unfold isInt; decide) (by simp) _ _ _ _ _) (by omega)
  · go_wp2_with fail
    refine (signed_any _ B hc2).mono ?_
    rintro r w3 ⟨y, hy, rfl, ho3, hc3⟩
    have HO3 := HO2.trans ho3
    have hz3 := hz2.only ho3 (by omega)
    have hl3 := hc3.lt
    clear hz2 HO2 hc2 ho3
    go_wp2_with fail
    refine (int_spec _ y).mono ?_
    rintro r w4 ⟨rfl, hb4⟩
    have HO4 := HO3.then_below hb4 HO3.size
    have hc4 := hc3.below hb4 hl3
    obtain ⟨q0, q1, q2, q3, q4, qf⟩ := (hz3.blw hb4).cells
    clear hz3 HO3 hc3 hb4
    go_wp2
    refine bodyPost_ret (v := .agg #[.int .i64 3, .int .i64 y, .int .i64 0, .string ⟨#[]⟩, .slice none 0 0]) (by simp [results, Try.results89, go_sem, q0, q1, q2, q3, q4]) rfl ?_
    exact LeafPost.tree (leaf_end (k := 3) (n := y) (x := 0) (s := []) HO4 hc4 hl (by unfold isInt; decide) (by unfold isSgn at hy; unfold isInt; omega) (by unfold isInt; decide) (by simp) _ _ _ _ _) (by omega)
  · go_wp2_with fail
    refine (l5draw_any _ B hc2).mono ?_
    rintro r w3 ⟨m, y, hy, rfl, ho3, hc3⟩
    have HO3 := HO2.trans ho3
    have hz3 := hz2.only ho3 (by omega)
    have hl3 := hc3.lt
    clear hz2 HO2 hc2 ho3
    go_wp2_with fail
    refine (fltval_spec _ m y).mono ?_
    rintro r w4 ⟨rfl, hb4⟩
    have HO4 := HO3.then_below hb4 HO3.size
    have hc4 := hc3.below hb4 hl3
    obtain ⟨q0, q1, q2, q3, q4, qf⟩ := (hz3.blw hb4).cells
    clear hz3 HO3 hc3 hb4
    go_wp2
    refine bodyPost_ret (v := .agg #[.int .i64 4, .int .i64 m, .int .i64 y, .string ⟨#[]⟩, .slice none 0 0]) (by simp [results, Try.results89, go_sem, q0, q1, q2, q3, q4]) rfl ?_
    exact LeafPost.tree (leaf_end (k := 4) (n := m) (x := y) (s := []) HO4 hc4 hl (by unfold isInt; decide) (by unfold AnyFlt at hy; unfold isInt; omega) (by unfold AnyFlt at hy; unfold isInt; omega) (by simp) _ _ _ _ _) (by omega)
  · go_wp2_with fail
    refine (below_any _ B 3 hc2 (by decide)).mono ?_
    rintro r w3 ⟨y, ⟨hy0, hy1⟩, rfl, ho3, hc3⟩
    have HO3 := HO2.trans ho3
    obtain ⟨q0, q1, q2, q3, q4, qf⟩ := (hz2.only ho3 (by omega)).cells
    clear hz2 HO2 hc2 ho3
    go_wp2
    refine bodyPost_ret (v := .agg #[.int .i64 5, .int .i64 y, .int .i64 0, .string ⟨#[]⟩, .slice none 0 0]) (by simp [results, Try.results89, go_sem, q0, q1, q2, q3, q4]) rfl ?_
    exact LeafPost.tree (leaf_end (k := 5) (n := y) (x := 0) (s := []) HO3 hc3 hl (by unfold isInt; decide) (by unfold isInt; omega) (by unfold isInt; decide) (by simp) _ _ _ _ _) (by omega)
  · go_wp2_with fail
    refine (l5dec_any _ B hc2).mono ?_
    rintro r w3 ⟨m, x2, hy, rfl, ho3, hc3⟩
    have hy2 := (any_of hy.2).2
    have HO3 := HO2.trans ho3
    have hz3 := hz2.only ho3 (by omega)
    have hl3 := hc3.lt
    clear hz2 HO2 hc2 ho3
    go_wp2_with fail
    refine (num_spec _ m x2).mono ?_
    rintro r w4 ⟨rfl, hb4⟩
    have HO4 := HO3.then_below hb4 HO3.size
    have hc4 := hc3.below hb4 hl3
    obtain ⟨q0, q1, q2, q3, q4, qf⟩ := (hz3.blw hb4).cells
    clear hz3 HO3 hc3 hb4
    go_wp2
    refine bodyPost_ret (v := .agg #[.int .i64 (numK x2), .int .i64 m, .int .i64 x2, .string ⟨#[]⟩, .slice none 0 0]) (by simp [results, Try.results89, go_sem, q0, q1, q2, q3, q4]) rfl ?_
    exact LeafPost.tree (leaf_end (k := (numK x2)) (n := m) (x := x2) (s := []) HO4 hc4 hl (by unfold isInt; unfold numK; split <;> decide) hy.1 (by unfold isInt; omega) (by simp) _ _ _ _ _) (by omega)
  · go_wp2_with fail
    refine (text_any _ B hc2).mono ?_
    rintro r w3 ⟨y, hy, rfl, ho3, hc3⟩
    have HO3 := HO2.trans ho3
    have hz3 := hz2.only ho3 (by omega)
    have hl3 := hc3.lt
    clear hz2 HO2 hc2 ho3
    go_wp2_with fail
    refine (text_spec _ ⟨y.toArray⟩).mono ?_
    rintro r w4 ⟨rfl, hb4⟩
    have HO4 := HO3.then_below hb4 HO3.size
    have hc4 := hc3.below hb4 hl3
    obtain ⟨q0, q1, q2, q3, q4, qf⟩ := (hz3.blw hb4).cells
    clear hz3 HO3 hc3 hb4
    go_wp2
    refine bodyPost_ret (v := .agg #[.int .i64 7, .int .i64 0, .int .i64 0, .string ⟨y.toArray⟩, .slice none 0 0]) (by simp [results, Try.results89, go_sem, q0, q1, q2, q3, q4]) rfl ?_
    exact LeafPost.tree (leaf_end (k := 7) (n := 0) (x := 0) (s := y) HO4 hc4 hl (by unfold isInt; decide) (by unfold isInt; decide) (by unfold isInt; decide) hy _ _ _ _ _) (by omega)
  · go_wp2_with fail
    refine (below_any _ B 4 hc2 (by decide)).mono ?_
    rintro r w3 ⟨y, ⟨hy0, hy1⟩, rfl, ho3, hc3⟩
    have HO3 := HO2.trans ho3
    have hz3 := hz2.only ho3 (by omega)
    clear hz2 HO2 hc2 ho3
    obtain ⟨y, rfl⟩ : ∃ q : Nat, y = q := ⟨y.toNat, by omega⟩
    go_wp2_with fail
    refine (bytes_any _ B y hc3 (by omega)).mono ?_
    rintro r w4 ⟨v, l, hll, rfl, hne, hown, ho4, hc4⟩
    have hcv := conv_str w4 _ _ (own_slc hown)
    have HO4 := HO3.trans ho4
    have hll2 : l.length ≤ 1000 := by have : l.length ≤ y := hll; omega
    have HLL := Lib.hid hll2
    generalize hsq : (ByteArray.mk l.toArray) = sq at hcv
    have HS := Lib.hid hsq
    obtain ⟨q0, q1, q2, q3, q4, qf⟩ := (hz3.only ho4 (by omega)).cells
    clear hz3 HO3 hc3 ho4 hne hown hll hsq hll2
    go_wp2
    refine bodyPost_ret (v := .agg #[.int .i64 8, .int .i64 0, .int .i64 0, .string sq, .slice none 0 0]) (by simp [results, Try.results89, go_sem, q0, q1, q2, q3, q4]) rfl ?_
    rw [← HS.out]
    exact LeafPost.tree (leaf_end (k := 8) (n := 0) (x := 0) (s := l) HO4 hc4 hl (by unfold isInt; decide) (by unfold isInt; decide) (by unfold isInt; decide) HLL.out _ _ _ _ _) (by omega)
  · go_wp2_with fail
    refine (below_any _ B 300 hc2 (by decide)).mono ?_
    rintro r w3 ⟨y, ⟨hy0, hy1⟩, rfl, ho3, hc3⟩
    have HO3 := HO2.trans ho3
    have hz3 := hz2.only ho3 (by omega)
    have hl3 := hc3.lt
    clear hz2 HO2 hc2 ho3
    go_wp2_with fail
    refine (IH.out w3 hc3).mono ?_
    rintro r w4 ⟨T, hr, hO, hN, hW, ho4, hc4⟩
    change r = .returned (.agg #[.int .i64 T.k, .int .i64 T.n, .int .i64 T.x, .string ⟨T.s.toArray⟩, .slice T.a T.l.length T.cap]) at hr
    subst hr
    have HO4 := Lib.hid (HO3.trans ho4)
    have HC4 := Lib.hid hc4
    have HT := Lib.hid (hO.base hz3.lt)
    have HN := Lib.hid hN
    have HW := Lib.hid hW
    have hl4 := (hz3.only ho4 (by omega)).lt
    obtain ⟨q0, q1, q2, q3, q4, qf⟩ := (hz3.only ho4 (by omega)).cells
    clear hz3 HO3 hc3 ho4 hc4 hO hN hW hl3 hl2 IH hw1 hd1
    go_wp2
    refine bodyPost_ret (v := .agg #[.int .i64 11, .int .i64 y, .int .i64 0, .string ⟨#[]⟩, .slice (some ⟨w4.heap.size, 0, none⟩) 1 1]) (by simp [results, Try.results89, go_sem, hl4, q0, q1, q2, q3, q4]) rfl ?_
    exact tag_tree HO4.out HC4.out hl HT.out HN.out HW.out (by omega) (by unfold isInt; omega) _ _ _ _ _
  · go_wp2_with fail
    refine (below_any _ B 4 (hc2.alloc _) (by decide)).mono ?_
    rintro r w3 ⟨y, ⟨hy0, hy1⟩, rfl, ho3, hc3⟩
    obtain ⟨m0, rfl⟩ : ∃ q : Nat, y = q := ⟨y.toNat, by omega⟩
    have hne : w2.heap.size ≠ B := by omega
    have hb3 := ho3.block w2.heap.size (by simp) hne
    have hv0 : VC (w2.alloc (.cells #[.int .i64 9, .int .i64 0, .int .i64 0, .string ⟨#[]⟩, .slice none 0 0] 28)) w2.heap.size 9 0 0 ⟨#[]⟩ none 0 0 := ⟨by simp [go_sem], by simp [go_sem], by simp [go_sem], by simp [go_sem], by simp [go_sem]⟩
    have HO3 := HO2.trans ((Only.of_below (B := B) (vbox w2 _)).trans ho3)
    have HST := DL.start hl hz2 (hv0.eqb hb3) (fun o => by rw [frozen_blk' hb3]; simp [go_sem]) HO3 ((hz2.blw (vbox w2 _)).only ho3 (by omega)) hc3
    clear hv0 hb3 ho3 hc3 HO3 HO2 hz2 hc2
    generalize w2.heap.size = V at *
    have HST := Lib.hid HST
    have hm0 : m0 ≤ 3 := by omega
    clear hy0 hy1 hk0 hk1 hne hl2
    go_wp2_with fail
    go_loopw [7] (fun i wr => ∃ (m : Nat) (lr : List AT) (a' : Option Addr) (cap' : Nat), i = .int .i64 m ∧ m ≤ 3 ∧ Hid (DL w wr B V 9 lr a' cap' ((3 - m) * (1000 + N)) (2 * (3 - m)))) (fun i _ => (intOf i).toNat)
    case atStart => exact ⟨m0, [], none, 0, rfl, hm0, Lib.hid (HST.out.mono (Nat.zero_le _) (Nat.zero_le _))⟩
    case round =>
      obtain ⟨m, lr, a', cap', rfl, hm3, HL⟩ := hrel
      by_cases hm : m = 0
      · subst hm
        obtain ⟨c0, c1, c2, c3, c4⟩ := HL.out.v
        obtain ⟨q0, q1, q2, q3, q4, qf⟩ := HL.out.z.cells
        have hzl := HL.out.z.lt
        go_wp2
        refine bodyPost_ret (v := .agg #[.int .i64 9, .int .i64 0, .int .i64 0, .string ⟨#[]⟩, .slice a' lr.length cap']) (by simp [results, Try.results89, go_sem, q0, q1, q2, q3, q4]) rfl ?_
        exact HL.out.tree (by unfold isInt; decide) (by omega) (by decide) _ _ _ _ _
      · obtain ⟨m1, hm1⟩ : ∃ m1, m = m1 + 1 := ⟨m - 1, by omega⟩
        have hpos : (0 : Int) < (m : Int) := by omega
        have hwi : IntKind.i64.wrap ((m : Int) - 1) = (m1 : Int) := by rw [show (m : Int) - 1 = m1 by omega]; exact IntWalk.i64_in _ (by omega)
        obtain ⟨c0, c1, c2, c3, c4⟩ := HL.out.v
        have hc := HL.out.c
        have hlen : lr.length ≤ 6 := Nat.le_trans HL.out.len (by omega)
        go_wp2_with fail
        refine (IH.out wr hc).mono ?_
        rintro e w4 ⟨T, hr, hOT, hNT, hWT, ho4, hc4⟩
        change e = .returned (.agg #[.int .i64 T.k, .int .i64 T.n, .int .i64 T.x, .string ⟨T.s.toArray⟩, .slice T.a T.l.length T.cap]) at hr
        subst hr
        have HL4 := Lib.hid (HL.out.keep ho4 hc4)
        have HDI : Hid (∀ k ∈ T.blks, k ∉ (a'.map (·.block)).toList ++ AT.blksL lr) := Lib.hid (fun k hk hk2 => by
          have h1 := (hOT.lt k hk).1
          have h2 := (HL.out.own.lt k hk2).2
          omega)
        have hbase : V + 1 ≤ wr.heap.size := vc_lt HL.out.v
        have HOT := Lib.hid ((hOT.blw (Below.refl _ _)).base hbase)
        have HNT := Lib.hid hNT
        have HWT := Lib.hid hWT
        clear c0 c1 c2 c3 c4 hOT hNT hWT ho4 hc4 hbase hc
        obtain ⟨c0, c1, c2, c3, c4⟩ := HL4.out.v
        have hlV := vc_lt HL4.out.v
        obtain ⟨i0, hi, hz0, hz1, hz2⟩ := info_parts valInfo
        go_wp2_with (refine wpList_append_lies _ (by rfl) _ _ _ (by rfl) (V + 1) 28 i0 _ 5 64 Try.underlying26 hi hz0 hz1 hz2 rfl (by omega) _ lr.length _ (by rfl) (own_heap HL4.out.own.row (fun k hk => (((vbox w4 _).trans ((vbox _ _).mono (by simp))).block k (HL4.out.own.row.lt k hk).2))) ⟨w4.heap.size + 1, 0, none⟩ 1 1 T.cells (by rfl) (by rfl) ?news (cells_one T) (by omega) (by unfold maxLen; omega) (by omega) (by simp; omega) (w4.heap.size + 2) (by simp) ?_)
        case news =>
          have := news_of_cells (w4.alloc (.cells #[.int .i64 T.k, .int .i64 T.n, .int .i64 T.x, .string ⟨T.s.toArray⟩, .slice T.a T.l.length T.cap] 28)) T
          simpa using this
        intro gg cap2 w5 hown hgrow hat hlt5
        obtain ⟨⟨v5, f5, l5⟩, hD⟩ := HL4.out.grow HOT.out HNT.out HWT.out.1 HWT.out.2 HDI.out (boxes2 w4 _ _) hown hgrow (by simpa using hat)
        have HD := Lib.hid (hD.mono (q' := (3 - m1) * (1000 + N)) (r' := 2 * (3 - m1)) (by rw [show 3 - m1 = (3 - m) + 1 by omega, Nat.add_mul]; omega) (by omega))
        clear c0 c1 c2 c3 c4 hown hgrow hat hD hz0 hz1 hz2 hi
        obtain ⟨d0, d1, d2, d3, d4⟩ := v5
        go_wp2
        go_roundw
        case rel => exact ⟨m1, lr ++ [T], some ⟨gg, 0, none⟩, cap2, rfl, by omega, HD⟩
        case measure => simp [intOf]; omega
  · go_wp2_with fail
    refine (below_any _ B 4 (hc2.alloc _) (by decide)).mono ?_
    rintro r w3 ⟨y, ⟨hy0, hy1⟩, rfl, ho3, hc3⟩
    obtain ⟨m0, rfl⟩ : ∃ q : Nat, y = q := ⟨y.toNat, by omega⟩
    have hne : w2.heap.size ≠ B := by omega
    have hb3 := ho3.block w2.heap.size (by simp) hne
    have hv0 : VC (w2.alloc (.cells #[.int .i64 10, .int .i64 0, .int .i64 0, .string ⟨#[]⟩, .slice none 0 0] 28)) w2.heap.size 10 0 0 ⟨#[]⟩ none 0 0 := ⟨by simp [go_sem], by simp [go_sem], by simp [go_sem], by simp [go_sem], by simp [go_sem]⟩
    have HO3 := HO2.trans ((Only.of_below (B := B) (vbox w2 _)).trans ho3)
    have HST := DL.start hl hz2 (hv0.eqb hb3) (fun o => by rw [frozen_blk' hb3]; simp [go_sem]) HO3 ((hz2.blw (vbox w2 _)).only ho3 (by omega)) hc3
    clear hv0 hb3 ho3 hc3 HO3 HO2 hz2 hc2
    generalize w2.heap.size = V at *
    have HST := Lib.hid HST
    have hm0 : m0 ≤ 3 := by omega
    clear hy0 hy1 hk0 hk1 hne hl2
    go_wp2_with fail
    go_loopw [7] (fun i wr => ∃ (m : Nat) (lr : List AT) (a' : Option Addr) (cap' : Nat), i = .int .i64 m ∧ m ≤ 3 ∧ Hid (DL w wr B V 10 lr a' cap' ((3 - m) * (1000 + N)) (2 * (3 - m)))) (fun i _ => (intOf i).toNat)
    case atStart => exact ⟨m0, [], none, 0, rfl, hm0, Lib.hid (HST.out.mono (Nat.zero_le _) (Nat.zero_le _))⟩
    case round =>
      obtain ⟨m, lr, a', cap', rfl, hm3, HL⟩ := hrel
      by_cases hm : m = 0
      · subst hm
        obtain ⟨c0, c1, c2, c3, c4⟩ := HL.out.v
        obtain ⟨q0, q1, q2, q3, q4, qf⟩ := HL.out.z.cells
        have hzl := HL.out.z.lt
        go_wp2
        refine bodyPost_ret (v := .agg #[.int .i64 10, .int .i64 0, .int .i64 0, .string ⟨#[]⟩, .slice a' lr.length cap']) (by simp [results, Try.results89, go_sem, q0, q1, q2, q3, q4]) rfl ?_
        exact HL.out.tree (by unfold isInt; decide) (by omega) (by decide) _ _ _ _ _
      · obtain ⟨m1, hm1⟩ : ∃ m1, m = m1 + 1 := ⟨m - 1, by omega⟩
        have hpos : (0 : Int) < (m : Int) := by omega
        have hwi : IntKind.i64.wrap ((m : Int) - 1) = (m1 : Int) := by rw [show (m : Int) - 1 = m1 by omega]; exact IntWalk.i64_in _ (by omega)
        obtain ⟨c0, c1, c2, c3, c4⟩ := HL.out.v
        have hlen : lr.length ≤ 5 := by have := HL.out.len; omega
        have hvl := vc_lt HL.out.v
        obtain ⟨i0, hi, hz0, hz1, hz2⟩ := info_parts valInfo
        go_upto_region 31 with fail
        go_region_law ((first
          | (refine step_append_lies _ (by rfl) _ _ _ (by rfl) (V + 1) 28 i0 _ 5 64 Try.underlying26 hi hz0 hz1 hz2 rfl (by omega) _ lr.length _ (by rfl) (own_heap HT0.out.1.own.row (fun k hk => ((vbox w4 _).block k (HT0.out.1.own.row.lt k hk).2))) ⟨w4.heap.size, 0, none⟩ 1 1 T0.cells (by rfl) (by rfl) (news_of_cells w4 T0) (cells_one T0) (by omega) (by unfold maxLen; omega) (by omega) (by simp; omega) (w4.heap.size + 1) (by simp) ?_; intro gg0 cap0 w5 hown hgrow hat hlt5; obtain ⟨⟨⟨d0, d1, d2, d3, d4⟩, f5, l5⟩, hD⟩ := HT0.out.1.grow HT0.out.2.1 HT0.out.2.2.1 HT0.out.2.2.2.1 HT0.out.2.2.2.2.1 HT0.out.2.2.2.2.2 (vbox w4 _) hown hgrow (by simpa using hat))
          | (go_simp; go_at_call 99; refine (name_dl HL.out.drew).mono ?_; rintro e w4 ⟨T0, rfl, HT0, g4, hlV0⟩; dsimp only)))
        all_goals
          have HLn := Lib.hid hD
          obtain ⟨lr2, HL2⟩ : ∃ lr2, Hid (DL w (w5.setCell ⟨V, 4, none⟩ (.slice (some ⟨gg0, 0, none⟩) (lr.length + 1) cap0)) B V 10 lr2 (some ⟨gg0, 0, none⟩) cap0 ((3 - m) * (1000 + N) + 1000) (2 * (3 - m) + 1)) := ⟨_, HLn⟩
          clear d0 d1 d2 d3 d4 f5 l5 hD HLn hown hgrow hat hlt5 g4 hlV0 HT0 c0 c1 c2 c3 c4 hvl HL hlen
          go_wp2_with fail
          refine (IH.out _ HL2.out.c).mono ?_
          rintro e w6 ⟨T, hr, hOT, hNT, hWT, ho4, hc4⟩
          change e = .returned (.agg #[.int .i64 T.k, .int .i64 T.n, .int .i64 T.x, .string ⟨T.s.toArray⟩, .slice T.a T.l.length T.cap]) at hr
          subst hr
          have HL4 := Lib.hid (HL2.out.keep ho4 hc4)
          have HDI : Hid (∀ k ∈ T.blks, k ∉ ((some (⟨gg0, 0, none⟩ : Addr)).map (·.block)).toList ++ AT.blksL lr2) := Lib.hid (fun k hk hk2 => by
            have h1 := (hOT.lt k hk).1
            have h2 := (HL2.out.own.lt k hk2).2
            omega)
          have HOT := Lib.hid (hOT.base (vc_lt HL2.out.v))
          have HNT := Lib.hid hNT
          have HWT := Lib.hid hWT
          have hlen2 : lr2.length ≤ 5 := by have := HL2.out.len; omega
          clear hOT hNT hWT ho4 hc4 HL2
          obtain ⟨c0, c1, c2, c3, c4⟩ := HL4.out.v
          have hlV := vc_lt HL4.out.v
          go_wp2_with (refine wpList_append_lies _ (by rfl) _ _ _ (by rfl) (V + 1) 28 i0 _ 5 64 Try.underlying26 hi hz0 hz1 hz2 rfl (by omega) _ lr2.length _ (by rfl) (own_heap HL4.out.own.row (fun k hk => (((vbox w6 _).trans ((vbox _ _).mono (by simp))).block k (HL4.out.own.row.lt k hk).2))) ⟨w6.heap.size + 1, 0, none⟩ 1 1 T.cells (by rfl) (by rfl) ?news (cells_one T) (by omega) (by unfold maxLen; omega) (by omega) (by simp; omega) (w6.heap.size + 2) (by simp) ?_)
          case news =>
            have := news_of_cells (w6.alloc (.cells #[.int .i64 T.k, .int .i64 T.n, .int .i64 T.x, .string ⟨T.s.toArray⟩, .slice T.a T.l.length T.cap] 28)) T
            simpa using this
          intro gg cap2 w7 hown hgrow hat hlt5
          obtain ⟨⟨v5, f5, l5⟩, hD⟩ := HL4.out.grow HOT.out HNT.out HWT.out.1 HWT.out.2 HDI.out (boxes2 w6 _ _) hown hgrow (by simpa using hat)
          have HD := Lib.hid (hD.mono (q' := (3 - m1) * (1000 + N)) (r' := 2 * (3 - m1)) (by rw [show 3 - m1 = (3 - m) + 1 by omega, Nat.add_mul]; omega) (by omega))
          clear c0 c1 c2 c3 c4 hown hgrow hat hD
          obtain ⟨d0, d1, d2, d3, d4⟩ := v5
          go_wp2
          go_roundw
          case rel => exact ⟨m1, lr2 ++ [T], some ⟨gg, 0, none⟩, cap2, rfl, by omega, HD⟩
          case measure => simp [intOf]; omega
  · go_wp2_with fail
    refine (below_any _ B 4 (hc2.alloc _) (by decide)).mono ?_
    rintro r w3 ⟨y, ⟨hy0, hy1⟩, rfl, ho3, hc3⟩
    obtain ⟨m0, rfl⟩ : ∃ q : Nat, y = q := ⟨y.toNat, by omega⟩
    have hne : w2.heap.size ≠ B := by omega
    have hb3 := ho3.block w2.heap.size (by simp) hne
    have hv0 : VC (w2.alloc (.cells #[.int .i64 10, .int .i64 0, .int .i64 0, .string ⟨#[]⟩, .slice none 0 0] 28)) w2.heap.size 10 0 0 ⟨#[]⟩ none 0 0 := ⟨by simp [go_sem], by simp [go_sem], by simp [go_sem], by simp [go_sem], by simp [go_sem]⟩
    have HO3 := HO2.trans ((Only.of_below (B := B) (vbox w2 _)).trans ho3)
    have HST := DL.start hl hz2 (hv0.eqb hb3) (fun o => by rw [frozen_blk' hb3]; simp [go_sem]) HO3 ((hz2.blw (vbox w2 _)).only ho3 (by omega)) hc3
    clear hv0 hb3 ho3 hc3 HO3 HO2 hz2 hc2
    generalize w2.heap.size = V at *
    have HST := Lib.hid HST
    have hm0 : m0 ≤ 3 := by omega
    clear hy0 hy1 hk0 hk1 hne hl2
    go_wp2_with fail
    go_loopw [7] (fun i wr => ∃ (m : Nat) (lr : List AT) (a' : Option Addr) (cap' : Nat), i = .int .i64 m ∧ m ≤ 3 ∧ Hid (DL w wr B V 10 lr a' cap' ((3 - m) * (1000 + N)) (2 * (3 - m)))) (fun i _ => (intOf i).toNat)
    case atStart => exact ⟨m0, [], none, 0, rfl, hm0, Lib.hid (HST.out.mono (Nat.zero_le _) (Nat.zero_le _))⟩
    case round =>
      obtain ⟨m, lr, a', cap', rfl, hm3, HL⟩ := hrel
      by_cases hm : m = 0
      · subst hm
        obtain ⟨c0, c1, c2, c3, c4⟩ := HL.out.v
        obtain ⟨q0, q1, q2, q3, q4, qf⟩ := HL.out.z.cells
        have hzl := HL.out.z.lt
        go_wp2
        refine bodyPost_ret (v := .agg #[.int .i64 10, .int .i64 0, .int .i64 0, .string ⟨#[]⟩, .slice a' lr.length cap']) (by simp [results, Try.results89, go_sem, q0, q1, q2, q3, q4]) rfl ?_
        exact HL.out.tree (by unfold isInt; decide) (by omega) (by decide) _ _ _ _ _
      · obtain ⟨m1, hm1⟩ : ∃ m1, m = m1 + 1 := ⟨m - 1, by omega⟩
        have hpos : (0 : Int) < (m : Int) := by omega
        have hwi : IntKind.i64.wrap ((m : Int) - 1) = (m1 : Int) := by rw [show (m : Int) - 1 = m1 by omega]; exact IntWalk.i64_in _ (by omega)
        obtain ⟨c0, c1, c2, c3, c4⟩ := HL.out.v
        have hlen : lr.length ≤ 5 := by have := HL.out.len; omega
        have hvl := vc_lt HL.out.v
        obtain ⟨i0, hi, hz0, hz1, hz2⟩ := info_parts valInfo
        go_upto_region 31 with fail
        go_region_law ((first
          | (refine step_append_lies _ (by rfl) _ _ _ (by rfl) (V + 1) 28 i0 _ 5 64 Try.underlying26 hi hz0 hz1 hz2 rfl (by omega) _ lr.length _ (by rfl) (own_heap HT0.out.1.own.row (fun k hk => ((vbox w4 _).block k (HT0.out.1.own.row.lt k hk).2))) ⟨w4.heap.size, 0, none⟩ 1 1 T0.cells (by rfl) (by rfl) (news_of_cells w4 T0) (cells_one T0) (by omega) (by unfold maxLen; omega) (by omega) (by simp; omega) (w4.heap.size + 1) (by simp) ?_; intro gg0 cap0 w5 hown hgrow hat hlt5; obtain ⟨⟨⟨d0, d1, d2, d3, d4⟩, f5, l5⟩, hD⟩ := HT0.out.1.grow HT0.out.2.1 HT0.out.2.2.1 HT0.out.2.2.2.1 HT0.out.2.2.2.2.1 HT0.out.2.2.2.2.2 (vbox w4 _) hown hgrow (by simpa using hat))
          | (go_simp; go_at_call 99; refine (name_dl HL.out.drew).mono ?_; rintro e w4 ⟨T0, rfl, HT0, g4, hlV0⟩; dsimp only)))
        all_goals
          have HLn := Lib.hid hD
          obtain ⟨lr2, HL2⟩ : ∃ lr2, Hid (DL w (w5.setCell ⟨V, 4, none⟩ (.slice (some ⟨gg0, 0, none⟩) (lr.length + 1) cap0)) B V 10 lr2 (some ⟨gg0, 0, none⟩) cap0 ((3 - m) * (1000 + N) + 1000) (2 * (3 - m) + 1)) := ⟨_, HLn⟩
          clear d0 d1 d2 d3 d4 f5 l5 hD HLn hown hgrow hat hlt5 g4 hlV0 HT0 c0 c1 c2 c3 c4 hvl HL hlen
          go_wp2_with fail
          refine (IH.out _ HL2.out.c).mono ?_
          rintro e w6 ⟨T, hr, hOT, hNT, hWT, ho4, hc4⟩
          change e = .returned (.agg #[.int .i64 T.k, .int .i64 T.n, .int .i64 T.x, .string ⟨T.s.toArray⟩, .slice T.a T.l.length T.cap]) at hr
          subst hr
          have HL4 := Lib.hid (HL2.out.keep ho4 hc4)
          have HDI : Hid (∀ k ∈ T.blks, k ∉ ((some (⟨gg0, 0, none⟩ : Addr)).map (·.block)).toList ++ AT.blksL lr2) := Lib.hid (fun k hk hk2 => by
            have h1 := (hOT.lt k hk).1
            have h2 := (HL2.out.own.lt k hk2).2
            omega)
          have HOT := Lib.hid (hOT.base (vc_lt HL2.out.v))
          have HNT := Lib.hid hNT
          have HWT := Lib.hid hWT
          have hlen2 : lr2.length ≤ 5 := by have := HL2.out.len; omega
          clear hOT hNT hWT ho4 hc4 HL2
          obtain ⟨c0, c1, c2, c3, c4⟩ := HL4.out.v
          have hlV := vc_lt HL4.out.v
          go_wp2_with (refine wpList_append_lies _ (by rfl) _ _ _ (by rfl) (V + 1) 28 i0 _ 5 64 Try.underlying26 hi hz0 hz1 hz2 rfl (by omega) _ lr2.length _ (by rfl) (own_heap HL4.out.own.row (fun k hk => (((vbox w6 _).trans ((vbox _ _).mono (by simp))).block k (HL4.out.own.row.lt k hk).2))) ⟨w6.heap.size + 1, 0, none⟩ 1 1 T.cells (by rfl) (by rfl) ?news (cells_one T) (by omega) (by unfold maxLen; omega) (by omega) (by simp; omega) (w6.heap.size + 2) (by simp) ?_)
          case news =>
            have := news_of_cells (w6.alloc (.cells #[.int .i64 T.k, .int .i64 T.n, .int .i64 T.x, .string ⟨T.s.toArray⟩, .slice T.a T.l.length T.cap] 28)) T
            simpa using this
          intro gg cap2 w7 hown hgrow hat hlt5
          obtain ⟨⟨v5, f5, l5⟩, hD⟩ := HL4.out.grow HOT.out HNT.out HWT.out.1 HWT.out.2 HDI.out (boxes2 w6 _ _) hown hgrow (by simpa using hat)
          have HD := Lib.hid (hD.mono (q' := (3 - m1) * (1000 + N)) (r' := 2 * (3 - m1)) (by rw [show 3 - m1 = (3 - m) + 1 by omega, Nat.add_mul]; omega) (by omega))
          clear c0 c1 c2 c3 c4 hown hgrow hat hD
          obtain ⟨d0, d1, d2, d3, d4⟩ := v5
          go_wp2
          go_roundw
          case rel => exact ⟨m1, lr2 ++ [T], some ⟨gg, 0, none⟩, cap2, rfl, by omega, HD⟩
          case measure => simp [intOf]; omega
end Go.Proofs.Ytdjnkcoepmackaa
/- Draws of trees of any depth. -/
namespace Go.Proofs.Ytdjnkcoepmackaa
open Go.RowKit
set_option maxRecDepth 100000
def drawN : Nat → Nat
  | 0 => 1000
  | d + 1 => 6 + 3 * (1000 + drawN d)
theorem draw_any : ∀ (d B : Nat) (w : World), d ≤ 100 → Cur w B → Calls Try.prog 89 #[.pointer (some ⟨B, 0, none⟩), .int .i64 d] w (TreePost B (drawN d) w)
  | 0, B, w, _, hC => (draw_zero w B hC).mono fun _ _ h => h.tree (Nat.le_refl _)
  | d + 1, B, w, hd, hC => by
    have := draw_succ d (drawN d) B w hC (by omega) (fun w1 h1 => draw_any d B w1 (by omega) h1)
    simpa [drawN] using this
theorem TreePost.mono {B N M : Nat} {w w' : World} {e : Ending} (h : TreePost B N w e w') (hN : N ≤ M) : TreePost B M w e w' := by
  obtain ⟨T, h1, h2, h3, ⟨h4, h5⟩, h6, h7⟩ := h
  exact ⟨T, h1, h2, h3, ⟨h4, Nat.le_trans h5 hN⟩, h6, h7⟩
theorem draw_4 (d B : Nat) (w : World) (hd : d ≤ 3) (hC : Cur w B) : Calls Try.prog 89 #[.pointer (some ⟨B, 0, none⟩), .int .i64 d] w (TreePost B 70000 w) := by
  refine (draw_any d B w (by omega) hC).mono fun _ _ h => h.mono ?_
  obtain rfl | rfl | rfl | rfl : d = 0 ∨ d = 1 ∨ d = 2 ∨ d = 3 := by omega
  all_goals decide
theorem tree_out {w w4 : World} {B N : Nat} {T : AT} (hO : Only B w w4) (hC : Cur w4 B) (hl : B < w.heap.size) (hT : T.Own w4 (w.heap.size + 1)) (hN : T.blks.Nodup) (hW : T.pt.Wf ∧ T.pt.sz ≤ N) (u0 u1 u2 u3 u4 : Value) :
    TreePost B N w (.returned (.agg #[.int .i64 T.k, .int .i64 T.n, .int .i64 T.x, .string ⟨T.s.toArray⟩, .slice T.a T.l.length T.cap])) (((((w4.setCell ⟨w.heap.size, 0, none⟩ u0).setCell ⟨w.heap.size, 1, none⟩ u1).setCell ⟨w.heap.size, 2, none⟩ u2).setCell ⟨w.heap.size, 3, none⟩ u3).setCell ⟨w.heap.size, 4, none⟩ u4) :=
  ⟨T, rfl, (((((hT.set (by omega)).set (by omega)).set (by omega)).set (by omega)).set (by omega)).base (by omega), hN, hW,
    Only.setNew (Only.setNew (Only.setNew (Only.setNew (Only.setNew hO (by simp) _) (by simp) _) (by simp) _) (by simp) _) (by simp) _,
    Cur.setNew (Cur.setNew (Cur.setNew (Cur.setNew (Cur.setNew hC hl _) hl _) hl _) hl _) hl _⟩
theorem val_any (w : World) (B : Nat) (hC : Cur w B) : Calls Try.prog 90 #[.pointer (some ⟨B, 0, none⟩)] w (TreePost B 70000 w) := by
  have hl := hC.lt
  have hz := ZB.new w
  go_enter Try.func90, Try.ntmps90
  go_wp2_with fail
  refine (below_any _ B 4 (hC.alloc _) (by decide)).mono ?_
  rintro r w1 ⟨x, ⟨hx0, hx1⟩, rfl, ho1, hc1⟩
  obtain ⟨d, rfl⟩ : ∃ q : Nat, x = q := ⟨x.toNat, by omega⟩
  have hz1 := hz.only ho1 (by omega)
  have HO1 := (Only.of_below (B := B) (vbox w _)).trans ho1
  have hd : d ≤ 3 := by omega
  clear ho1 hz
  go_wp2_with fail
  refine (draw_4 d B w1 hd hc1).mono ?_
  rintro r w4 ⟨T, hr, hOT, hNT, hWT, ho4, hc4⟩
  change r = .returned (.agg #[.int .i64 T.k, .int .i64 T.n, .int .i64 T.x, .string ⟨T.s.toArray⟩, .slice T.a T.l.length T.cap]) at hr
  subst hr
  have HF := Lib.hid (tree_out (w := w) (HO1.trans ho4) hc4 hl (hOT.base hz1.lt) hNT hWT)
  obtain ⟨q0, q1, q2, q3, q4, qf⟩ := (hz1.only ho4 (by omega)).cells
  clear hz1 HO1 hc1 ho4 hc4 hOT hNT hWT
  go_wp2
  refine bodyPost_ret (v := .agg #[.int .i64 T.k, .int .i64 T.n, .int .i64 T.x, .string ⟨T.s.toArray⟩, .slice T.a T.l.length T.cap]) (by simp [results, Try.results90, go_sem, q0, q1, q2, q3, q4]) rfl ?_
  exact HF.out _ _ _ _ _
end Go.Proofs.Ytdjnkcoepmackaa
