import Derived.Test.YtdjnkcoepmackaaG9
import Derived.Test.YtdjnkcoepmackaaG8
/- l6Any: a tree, perhaps with one field that is not right. -/
namespace Go.Proofs.Ytdjnkcoepmackaa
open Go.RowKit
set_option maxRecDepth 100000
/-- a tree in its box V, before its field is changed -/
structure AB (w wr : World) (B V : Nat) (k n x : Int) (s : List UInt8) (a : Option Addr) (cap : Nat) (l : List AT) : Prop where
  v : VC wr V k n x ⟨s.toArray⟩ a l.length cap
  vf : ∀ o, wr.frozen? ⟨V, o, none⟩ = false
  own : OwnL wr (w.heap.size + 1) a cap l
  nd : ((a.map (·.block)).toList ++ AT.blksL l).Nodup
  nv : V ∉ (a.map (·.block)).toList ++ AT.blksL l
  z : ZB wr w.heap.size
  o : Only B w wr
  c : Cur wr B
  zv : w.heap.size < V
  bz : B < w.heap.size
theorem AB.keep {w wr w4 : World} {B V : Nat} {k n x : Int} {s : List UInt8} {a : Option Addr} {cap : Nat} {l : List AT} (h : AB w wr B V k n x s a cap l) (ho : Only B wr w4) (hc : Cur w4 B) : AB w w4 B V k n x s a cap l := by
  have hz := h.zv
  have hb := h.bz
  have hT : AT.Own wr (w.heap.size + 1) (.mk 0 0 0 [] a cap l) := h.own.own
  have e := ho.block V (vc_lt h.v) (by omega)
  exact { h with
    v := h.v.eqb e
    vf := fun o => by rw [frozen_blk' e]; exact h.vf o
    own := (hT.only ho (fun hk => by have := (hT.lt _ hk).1; omega)).l
    z := h.z.only ho (by omega)
    o := h.o.trans ho
    c := hc }
theorem AB.start {w w4 : World} {B : Nat} {k n x : Int} {s : List UInt8} {a : Option Addr} {cap : Nat} {l : List AT} (hb : B < w.heap.size) (hz : ZB w4 w.heap.size) (ho : Only B w w4) (hc : Cur w4 B) (hT : (AT.mk k n x s a cap l).Own w4 (w.heap.size + 1)) (hN : (AT.mk k n x s a cap l).blks.Nodup) :
    AB w (w4.alloc (.cells #[.int .i64 k, .int .i64 n, .int .i64 x, .string ⟨s.toArray⟩, .slice a l.length cap] 28)) B w4.heap.size k n x s a cap l where
  v := ⟨by simp [go_sem], by simp [go_sem], by simp [go_sem], by simp [go_sem], by simp [go_sem]⟩
  vf o := by simp [go_sem]
  own := hT.l.blw (vbox w4 _)
  nd := hN
  nv := fun hk => by have := (hT.lt _ hk).2; omega
  z := hz.blw (vbox w4 _)
  o := ho.then_below (vbox w4 _) ho.size
  c := hc.alloc _
  zv := hz.lt
  bz := hb
theorem AB.out {w wr : World} {B V M : Nat} {k n x k' n' x' : Int} {s s' : List UInt8} {a : Option Addr} {cap : Nat} {l : List AT} (h : AB w wr B V k n x s a cap l) (hk : isInt k') (hn : isInt n') (hx : isInt x') (hw : ∀ t ∈ AT.ptL l, t.Wf) (hsz : s'.length + (l.length + PT.szL (AT.ptL l)) ≤ M) (hM : M ≤ 1000000) (o : Nat) (u u0 u1 u2 u3 u4 : Value) :
    TreePost B M w (.returned (.agg #[.int .i64 k', .int .i64 n', .int .i64 x', .string ⟨s'.toArray⟩, .slice a l.length cap])) ((((((wr.setCell ⟨V, o, none⟩ u).setCell ⟨w.heap.size, 0, none⟩ u0).setCell ⟨w.heap.size, 1, none⟩ u1).setCell ⟨w.heap.size, 2, none⟩ u2).setCell ⟨w.heap.size, 3, none⟩ u3).setCell ⟨w.heap.size, 4, none⟩ u4) := by
  have hz := h.zv
  have hb := h.bz
  have hT : AT.Own wr (w.heap.size + 1) (.mk k' n' x' s' a cap l) := h.own.own
  exact tree_out (T := .mk k' n' x' s' a cap l) (Only.setNew h.o (by simp; omega) _) (Cur.setNew h.c (by simp; omega) _) hb (hT.setg' h.nv) h.nd ⟨.mk hk hn hx (by omega) (by simp [AT.ptL_eq]; omega) hw, by simp [AT.pt, PT.sz, AT.ptL_eq] at hsz ⊢; omega⟩ _ _ _ _ _
/-- a leaf, drawn beside the tree in its box -/
theorem leaf_ab {w wr : World} {B V : Nat} {k n x : Int} {s : List UInt8} {a : Option Addr} {cap : Nat} {l : List AT} (h : AB w wr B V k n x s a cap l) : Calls Try.prog 89 #[.pointer (some ⟨B, 0, none⟩), .int .i64 0] wr fun e w4 => ∃ T : AT, e = .returned (.agg #[.int .i64 T.k, .int .i64 T.n, .int .i64 T.x, .string ⟨T.s.toArray⟩, .slice T.a T.l.length T.cap]) ∧ Hid (AB w w4 B V k n x s a cap l ∧ T.Own w4 (w.heap.size + 1) ∧ T.blks.Nodup ∧ T.pt.Wf ∧ T.pt.sz ≤ 1000 ∧ (∀ k ∈ T.blks, k ∉ (a.map (·.block)).toList ++ AT.blksL l) ∧ V ∉ T.blks) ∧ w4.cell? ⟨V, 4, none⟩ = some (.slice a l.length cap) ∧ V < w4.heap.size := by
  refine (draw_zero wr B h.c).mono ?_
  intro e w4 hp
  obtain ⟨T, hr, hOT, hNT, hWT, ho4, hc4⟩ := hp.tree (N := 1000) (Nat.le_refl _)
  have hk := h.keep ho4 hc4
  have hV := vc_lt h.v
  have hz := h.zv
  exact ⟨T, hr, Lib.hid ⟨hk, hOT.base (by omega), hNT, hWT.1, hWT.2, fun k hk1 hk2 => by
    have h1 := (hOT.lt k hk1).1
    have h2 := (h.own.lt k hk2).2
    omega, fun hk1 => by have := (hOT.lt V hk1).1; omega⟩, hk.v.c4, vc_lt hk.v⟩
theorem AB.grow {w w4 w5 W : World} {B V gg cap2 : Nat} {k n x : Int} {s : List UInt8} {a : Option Addr} {cap : Nat} {l : List AT} {T : AT} (h : AB w w4 B V k n x s a cap l) (hT : T.Own w4 (w.heap.size + 1)) (hN : T.blks.Nodup) (hdis : ∀ k ∈ T.blks, k ∉ (a.map (·.block)).toList ++ AT.blksL l) (hVT : V ∉ T.blks) (hbW : Below w4.heap.size w4 W)
    (hown : w5.ownsRow (w.heap.size + 1) 28 5 (.slice (some ⟨gg, 0, none⟩) (l.length + 1) cap2) (l.length + 1) (cellsL l ++ T.cells)) (hgrow : W.grownBy w5 (Value.slice a l.length cap).ownBlock) (hat : (Value.slice a l.length cap).ownBlock = some gg ∨ gg = W.heap.size) :
    (VC w5 V k n x ⟨s.toArray⟩ a l.length cap ∧ (∀ o, w5.frozen? ⟨V, o, none⟩ = false) ∧ V < w5.heap.size) ∧ ZB w5 w.heap.size ∧ OwnL w5 (w.heap.size + 1) (some ⟨gg, 0, none⟩) cap2 (l ++ [T]) ∧ (gg :: AT.blksL (l ++ [T])).Nodup ∧ V ∉ gg :: AT.blksL (l ++ [T]) ∧ Only B w w5 ∧ Cur w5 B := by
  have hz := h.zv
  have hb := h.bz
  have hlt := vc_lt h.v
  obtain ⟨hnew, hnd⟩ := row_push (h.own.blw hbW) h.nd (hT.blw hbW) hN hdis hown hgrow hat
  have hb5 : Below (w.heap.size + 1) w4 w5 := below_push hgrow (fun k hk => (h.own.row.lt k hk).1) hbW (by omega)
  have hnv := h.nv
  rw [ownBlock_slice] at hgrow hat
  have hne : ∀ k, a.map (·.block) = some k → V ≠ k := fun k hk e => hnv (by rw [hk, e]; simp)
  have e : w5.heap[V]? = w4.heap[V]? := (hgrow.block V (by have := hbW.size; omega) (fun e => hne _ e.symm rfl)).trans (hbW.block V hlt)
  have hV5 := h.v.eqb e
  have ez : w5.heap[w.heap.size]? = w4.heap[w.heap.size]? := hb5.block _ (by omega)
  refine ⟨⟨hV5, fun o => by rw [frozen_blk' e]; exact h.vf o, vc_lt hV5⟩, ez.trans h.z, hnew, hnd, ?_, h.o.then_below hb5 (by omega), h.c.below hb5 (by omega)⟩
  rw [AT.blksL_append, AT.blksL_one]
  intro hm
  rcases List.mem_cons.1 hm with hm | hm
  · rcases hat with hat | hat
    · exact hne _ hat hm
    · have := hbW.size; omega
  · rcases List.mem_append.1 hm with hm | hm
    · exact hnv (List.mem_append.2 (.inr hm))
    · exact hVT hm
set_option maxHeartbeats 4000000 in
theorem any_val (w : World) (B : Nat) (hC : Cur w B) : Calls Try.prog 87 #[.pointer (some ⟨B, 0, none⟩)] w (TreePost B 80000 w) := by
  have hl := hC.lt
  have hz := ZB.new w
  go_enter Try.func87, Try.ntmps87
  go_wp2_with fail
  refine (val_any _ B (hC.alloc _)).mono ?_
  rintro r w4 ⟨⟨k, n, x, s, a, cap, l⟩, hr, hOT, hNT, hWT, ho4, hc4⟩
  change r = .returned (.agg #[.int .i64 k, .int .i64 n, .int .i64 x, .string ⟨s.toArray⟩, .slice a l.length cap]) at hr
  subst hr
  have hAB := Lib.hid (AB.start hl (hz.only ho4 (by omega)) ((Only.of_below (B := B) (vbox w _)).trans ho4) hc4 (hOT.base (by simp)) hNT)
  obtain ⟨hW, hS⟩ := hWT
  have hS : s.length + (l.length + PT.szL (AT.ptL l)) ≤ 70000 := by simpa [AT.pt, PT.sz, AT.ptL_eq] using hS
  obtain ⟨hk, hn, hx, hw⟩ : isInt k ∧ isInt n ∧ isInt x ∧ ∀ t ∈ AT.ptL l, t.Wf := by
    cases hW with
    | mk hk hn hx hs hl sub => exact ⟨hk, hn, hx, sub⟩
  have HW := Lib.hid hw
  have HK := Lib.hid hk
  have HNI := Lib.hid hn
  have HX := Lib.hid hx
  clear hz ho4 hc4 hOT hNT hW hw hk hn hx hC
  go_wp2_with fail
  refine (below_any _ B 12 hAB.out.c (by decide)).mono ?_
  rintro r w5 ⟨y, ⟨hy0, hy1⟩, rfl, ho5, hc5⟩
  have HA := Lib.hid (hAB.out.keep ho5 hc5)
  have hVl := vc_lt HA.out.v
  clear ho5 hc5 hAB
  generalize w4.heap.size = V at *
  have hyc : y = 0 ∨ y = 1 ∨ y = 2 ∨ y = 3 ∨ y = 4 ∨ y = 5 ∨ y = 6 ∨ y = 7 ∨ y = 8 ∨ y = 9 ∨ y = 10 ∨ y = 11 := by omega
  rcases hyc with rfl | rfl | rfl | rfl | rfl | rfl | rfl | rfl | rfl | rfl | rfl | rfl
  · go_wp2_with fail
    refine (below_any _ B 14 HA.out.c (by decide)).mono ?_
    rintro r w6 ⟨t, ⟨ht0, ht1⟩, rfl, ho6, hc6⟩
    have hwt : IntKind.i64.wrap (t - 1) = t - 1 := IntWalk.i64_in _ (by omega)
    have H6 := Lib.hid (HA.out.keep ho6 hc6)
    clear ho6 hc6 hVl HA
    obtain ⟨c0, c1, c2, c3, c4⟩ := H6.out.v
    have vf := H6.out.vf
    have hV := vc_lt H6.out.v
    have hzv := H6.out.zv
    obtain ⟨q0, q1, q2, q3, q4, qf⟩ := H6.out.z.cells
    go_wp2
    refine bodyPost_ret (v := .agg #[.int .i64 (t - 1), .int .i64 n, .int .i64 x, .string ⟨(s).toArray⟩, .slice a l.length cap]) (by simp [results, Try.results87, go_sem, hV, hzv, q0, q1, q2, q3, q4]) rfl ?_
    exact H6.out.out (by unfold isInt; omega) HNI.out HX.out HW.out (by omega) (by decide) _ _ _ _ _ _ _
  · go_wp2_with fail
    refine (raw_any _ B HA.out.c).mono ?_
    rintro r w6 ⟨t, ht, rfl, ho6, hc6⟩
    have HT := Lib.hid ht
    clear ht
    have H6 := Lib.hid (HA.out.keep ho6 hc6)
    clear ho6 hc6 hVl HA
    obtain ⟨c0, c1, c2, c3, c4⟩ := H6.out.v
    have vf := H6.out.vf
    have hV := vc_lt H6.out.v
    have hzv := H6.out.zv
    obtain ⟨q0, q1, q2, q3, q4, qf⟩ := H6.out.z.cells
    go_wp2
    refine bodyPost_ret (v := .agg #[.int .i64 k, .int .i64 t, .int .i64 x, .string ⟨(s).toArray⟩, .slice a l.length cap]) (by simp [results, Try.results87, go_sem, hV, hzv, q0, q1, q2, q3, q4]) rfl ?_
    exact H6.out.out HK.out HT.out HX.out HW.out (by omega) (by decide) _ _ _ _ _ _ _
  · have hd := int_lit w5 B [1, -17, -1] 3 isInt HA.out.c (by decide) (by decide) (by unfold isInt; decide)
    go_wp2_with fail
    refine hd.mono ?_
    rintro r w6 ⟨t, ht, rfl, ho6, hc6⟩
    have HT := Lib.hid ht
    clear ht hd
    have H6 := Lib.hid (HA.out.keep ho6 hc6)
    clear ho6 hc6 hVl HA
    obtain ⟨c0, c1, c2, c3, c4⟩ := H6.out.v
    have vf := H6.out.vf
    have hV := vc_lt H6.out.v
    have hzv := H6.out.zv
    obtain ⟨q0, q1, q2, q3, q4, qf⟩ := H6.out.z.cells
    go_wp2
    refine bodyPost_ret (v := .agg #[.int .i64 k, .int .i64 n, .int .i64 t, .string ⟨(s).toArray⟩, .slice a l.length cap]) (by simp [results, Try.results87, go_sem, hV, hzv, q0, q1, q2, q3, q4]) rfl ?_
    exact H6.out.out HK.out HNI.out HT.out HW.out (by omega) (by decide) _ _ _ _ _ _ _
  · have hd := str_lit w5 B [[128], [120], [255]] 9 (fun l => l.length ≤ 1000) HA.out.c (by decide) (by decide) (by decide)
    go_wp2_with fail
    refine hd.mono ?_
    rintro r w6 ⟨t, ht, rfl, ho6, hc6⟩
    have HT := Lib.hid ht
    clear ht hd
    have H6 := Lib.hid (HA.out.keep ho6 hc6)
    clear ho6 hc6 hVl HA
    obtain ⟨c0, c1, c2, c3, c4⟩ := H6.out.v
    have vf := H6.out.vf
    have hV := vc_lt H6.out.v
    have hzv := H6.out.zv
    obtain ⟨q0, q1, q2, q3, q4, qf⟩ := H6.out.z.cells
    go_wp2
    refine bodyPost_ret (v := .agg #[.int .i64 k, .int .i64 n, .int .i64 x, .string ⟨(t).toArray⟩, .slice a l.length cap]) (by simp [results, Try.results87, go_sem, hV, hzv, q0, q1, q2, q3, q4]) rfl ?_
    exact H6.out.out HK.out HNI.out HX.out HW.out (by have := HT.out; omega) (by decide) _ _ _ _ _ _ _
  · go_wp2_with fail
    have hlen : l.length ≤ 70000 := by omega
    obtain ⟨c0, c1, c2, c3, c4⟩ := HA.out.v
    obtain ⟨i0, hi, hz0, hz1, hz2⟩ := info_parts valInfo
    go_region_law ((first
      | (refine step_append_lies _ (by rfl) _ _ _ (by rfl) (w.heap.size + 1) 28 i0 _ 5 64 Try.underlying26 hi hz0 hz1 hz2 rfl (by omega) _ l.length _ (by rfl) (own_heap HT0.out.1.own.row (fun k hk => ((vbox w6 _).block k (HT0.out.1.own.row.lt k hk).2))) ⟨w6.heap.size, 0, none⟩ 1 1 T0.cells (by rfl) (by rfl) (news_of_cells w6 T0) (cells_one T0) (by omega) (by unfold maxLen; omega) (by omega) (by have := HT0.out.1.zv; simp; omega) (w6.heap.size + 1) (by simp) ?_; intro gg0 cap0 w7 hown hgrow hat hlt5; obtain ⟨⟨⟨d0, d1, d2, d3, d4⟩, f5, l5⟩, hD⟩ := HT0.out.1.grow HT0.out.2.1 HT0.out.2.2.1 HT0.out.2.2.2.2.2.1 HT0.out.2.2.2.2.2.2 (vbox w6 _) hown hgrow (by simpa using hat))
      | (go_simp; go_at_call 89; refine (leaf_ab (HA.out.keep (Only.refl B w5).drew HA.out.c.drew)).mono ?_; rintro e w6 ⟨T0, rfl, HT0, g4, hlV0⟩; dsimp only)))
    all_goals
      have HD := Lib.hid hD
      obtain ⟨q0, q1, q2, q3, q4, qf⟩ := hD.1.cells
      have hzv := HA.out.zv
      have hzs := hD.1.lt
      clear hD hown hgrow hat hlt5 g4 hlV0 c0 c1 c2 c3 c4 hi hz0 hz1 hz2
      go_wp2
      refine bodyPost_ret (v := .agg #[.int .i64 k, .int .i64 n, .int .i64 x, .string ⟨s.toArray⟩, .slice (some ⟨gg0, 0, none⟩) (l.length + 1) cap0]) (by simp [results, Try.results87, go_sem, l5, hzs, hzv, q0, q1, q2, q3, q4]) rfl ?_
      have hT9 : AT.Own w7 (w.heap.size + 1) (.mk k n x s (some ⟨gg0, 0, none⟩) cap0 (l ++ [T0])) := HD.out.2.1.own
      have hfin := tree_out (N := 80000) (T := .mk k n x s (some ⟨gg0, 0, none⟩) cap0 (l ++ [T0])) (Only.setNew HD.out.2.2.2.2.1 (p := ⟨V, 4, none⟩) (by simp; omega) (.slice (some ⟨gg0, 0, none⟩) (l.length + 1) cap0)) (Cur.setNew HD.out.2.2.2.2.2 (p := ⟨V, 4, none⟩) (by simp; omega) _) hl (hT9.setg' (by simpa [AT.blks] using HD.out.2.2.2.1)) (by simpa [AT.blks] using HD.out.2.2.1)
        ⟨.mk HK.out HNI.out HX.out (by omega) (by simp [AT.ptL_eq]; omega) (fun t ht => by
          rw [AT.ptL_eq, List.map_append, ← AT.ptL_eq] at ht
          rcases List.mem_append.1 ht with ht | ht
          · exact HW.out t ht
          · obtain rfl : t = T0.pt := by simpa using ht
            exact HT0.out.2.2.2.1), by
          have h1 := HT0.out.2.2.2.2.1
          have e2 : PT.szL (AT.ptL (l ++ [T0])) = PT.szL (AT.ptL l) + T0.pt.sz := by rw [AT.ptL_eq, AT.ptL_eq, List.map_append, List.map_singleton, szL_snoc]
          show s.length + ((AT.ptL (l ++ [T0])).length + PT.szL (AT.ptL (l ++ [T0]))) ≤ 80000
          rw [e2, AT.ptL_eq]
          simp
          omega⟩
      have hlen9 : (l ++ [T0]).length = l.length + 1 := by simp
      simp only [AT.k, AT.n, AT.x, AT.s, AT.a, AT.l, AT.cap, hlen9] at hfin
      exact hfin _ _ _ _ _
  · have H6 := HA
    clear hVl HA
    obtain ⟨c0, c1, c2, c3, c4⟩ := H6.out.v
    have vf := H6.out.vf
    have hV := vc_lt H6.out.v
    have hzv := H6.out.zv
    obtain ⟨q0, q1, q2, q3, q4, qf⟩ := H6.out.z.cells
    go_wp2
    refine bodyPost_ret (v := .agg #[.int .i64 k, .int .i64 n, .int .i64 x, .string ⟨(s).toArray⟩, .slice a l.length cap]) (by simp [results, Try.results87, go_sem, hV, hzv, q0, q1, q2, q3, q4]) rfl ?_
    exact tree_out (T := .mk k n x s a cap l) H6.out.o H6.out.c hl H6.out.own.own H6.out.nd ⟨.mk HK.out HNI.out HX.out (by omega) (by simp [AT.ptL_eq]; omega) HW.out, by simp [AT.pt, PT.sz, AT.ptL_eq] at hS ⊢; omega⟩ _ _ _ _ _
  · have H6 := HA
    clear hVl HA
    obtain ⟨c0, c1, c2, c3, c4⟩ := H6.out.v
    have vf := H6.out.vf
    have hV := vc_lt H6.out.v
    have hzv := H6.out.zv
    obtain ⟨q0, q1, q2, q3, q4, qf⟩ := H6.out.z.cells
    go_wp2
    refine bodyPost_ret (v := .agg #[.int .i64 k, .int .i64 n, .int .i64 x, .string ⟨(s).toArray⟩, .slice a l.length cap]) (by simp [results, Try.results87, go_sem, hV, hzv, q0, q1, q2, q3, q4]) rfl ?_
    exact tree_out (T := .mk k n x s a cap l) H6.out.o H6.out.c hl H6.out.own.own H6.out.nd ⟨.mk HK.out HNI.out HX.out (by omega) (by simp [AT.ptL_eq]; omega) HW.out, by simp [AT.pt, PT.sz, AT.ptL_eq] at hS ⊢; omega⟩ _ _ _ _ _
  · have H6 := HA
    clear hVl HA
    obtain ⟨c0, c1, c2, c3, c4⟩ := H6.out.v
    have vf := H6.out.vf
    have hV := vc_lt H6.out.v
    have hzv := H6.out.zv
    obtain ⟨q0, q1, q2, q3, q4, qf⟩ := H6.out.z.cells
    go_wp2
    refine bodyPost_ret (v := .agg #[.int .i64 k, .int .i64 n, .int .i64 x, .string ⟨(s).toArray⟩, .slice a l.length cap]) (by simp [results, Try.results87, go_sem, hV, hzv, q0, q1, q2, q3, q4]) rfl ?_
    exact tree_out (T := .mk k n x s a cap l) H6.out.o H6.out.c hl H6.out.own.own H6.out.nd ⟨.mk HK.out HNI.out HX.out (by omega) (by simp [AT.ptL_eq]; omega) HW.out, by simp [AT.pt, PT.sz, AT.ptL_eq] at hS ⊢; omega⟩ _ _ _ _ _
  · have H6 := HA
    clear hVl HA
    obtain ⟨c0, c1, c2, c3, c4⟩ := H6.out.v
    have vf := H6.out.vf
    have hV := vc_lt H6.out.v
    have hzv := H6.out.zv
    obtain ⟨q0, q1, q2, q3, q4, qf⟩ := H6.out.z.cells
    go_wp2
    refine bodyPost_ret (v := .agg #[.int .i64 k, .int .i64 n, .int .i64 x, .string ⟨(s).toArray⟩, .slice a l.length cap]) (by simp [results, Try.results87, go_sem, hV, hzv, q0, q1, q2, q3, q4]) rfl ?_
    exact tree_out (T := .mk k n x s a cap l) H6.out.o H6.out.c hl H6.out.own.own H6.out.nd ⟨.mk HK.out HNI.out HX.out (by omega) (by simp [AT.ptL_eq]; omega) HW.out, by simp [AT.pt, PT.sz, AT.ptL_eq] at hS ⊢; omega⟩ _ _ _ _ _
  · have H6 := HA
    clear hVl HA
    obtain ⟨c0, c1, c2, c3, c4⟩ := H6.out.v
    have vf := H6.out.vf
    have hV := vc_lt H6.out.v
    have hzv := H6.out.zv
    obtain ⟨q0, q1, q2, q3, q4, qf⟩ := H6.out.z.cells
    go_wp2
    refine bodyPost_ret (v := .agg #[.int .i64 k, .int .i64 n, .int .i64 x, .string ⟨(s).toArray⟩, .slice a l.length cap]) (by simp [results, Try.results87, go_sem, hV, hzv, q0, q1, q2, q3, q4]) rfl ?_
    exact tree_out (T := .mk k n x s a cap l) H6.out.o H6.out.c hl H6.out.own.own H6.out.nd ⟨.mk HK.out HNI.out HX.out (by omega) (by simp [AT.ptL_eq]; omega) HW.out, by simp [AT.pt, PT.sz, AT.ptL_eq] at hS ⊢; omega⟩ _ _ _ _ _
  · have H6 := HA
    clear hVl HA
    obtain ⟨c0, c1, c2, c3, c4⟩ := H6.out.v
    have vf := H6.out.vf
    have hV := vc_lt H6.out.v
    have hzv := H6.out.zv
    obtain ⟨q0, q1, q2, q3, q4, qf⟩ := H6.out.z.cells
    go_wp2
    refine bodyPost_ret (v := .agg #[.int .i64 k, .int .i64 n, .int .i64 x, .string ⟨(s).toArray⟩, .slice a l.length cap]) (by simp [results, Try.results87, go_sem, hV, hzv, q0, q1, q2, q3, q4]) rfl ?_
    exact tree_out (T := .mk k n x s a cap l) H6.out.o H6.out.c hl H6.out.own.own H6.out.nd ⟨.mk HK.out HNI.out HX.out (by omega) (by simp [AT.ptL_eq]; omega) HW.out, by simp [AT.pt, PT.sz, AT.ptL_eq] at hS ⊢; omega⟩ _ _ _ _ _
  · have H6 := HA
    clear hVl HA
    obtain ⟨c0, c1, c2, c3, c4⟩ := H6.out.v
    have vf := H6.out.vf
    have hV := vc_lt H6.out.v
    have hzv := H6.out.zv
    obtain ⟨q0, q1, q2, q3, q4, qf⟩ := H6.out.z.cells
    go_wp2
    refine bodyPost_ret (v := .agg #[.int .i64 k, .int .i64 n, .int .i64 x, .string ⟨(s).toArray⟩, .slice a l.length cap]) (by simp [results, Try.results87, go_sem, hV, hzv, q0, q1, q2, q3, q4]) rfl ?_
    exact tree_out (T := .mk k n x s a cap l) H6.out.o H6.out.c hl H6.out.own.own H6.out.nd ⟨.mk HK.out HNI.out HX.out (by omega) (by simp [AT.ptL_eq]; omega) HW.out, by simp [AT.pt, PT.sz, AT.ptL_eq] at hS ⊢; omega⟩ _ _ _ _ _
end Go.Proofs.Ytdjnkcoepmackaa
/- Draws of a whole tree out of the code. -/
namespace Go.Proofs.Ytdjnkcoepmackaa
open Go.RowKit
set_option maxRecDepth 100000
def TreeDraw (N : Nat) (w : World) (e : Ending) (w' : World) : Prop := ∃ T : AT, e = .returned (.agg #[.int .i64 T.k, .int .i64 T.n, .int .i64 T.x, .string ⟨T.s.toArray⟩, .slice T.a T.l.length T.cap]) ∧ T.Own w' (w.heap.size + 1) ∧ T.blks.Nodup ∧ (T.pt.Wf ∧ T.pt.sz ≤ N) ∧ Below w.heap.size w w'
theorem treedraw_out {w w2 : World} {N : Nat} {T : AT} (hT : T.Own w2 (w.heap.size + 1)) (hN : T.blks.Nodup) (hW : T.pt.Wf ∧ T.pt.sz ≤ N) (hB : Below w.heap.size w w2) (u0 u1 u2 u3 u4 : Value) :
    TreeDraw N w (.returned (.agg #[.int .i64 T.k, .int .i64 T.n, .int .i64 T.x, .string ⟨T.s.toArray⟩, .slice T.a T.l.length T.cap])) (((((w2.setCell ⟨w.heap.size, 0, none⟩ u0).setCell ⟨w.heap.size, 1, none⟩ u1).setCell ⟨w.heap.size, 2, none⟩ u2).setCell ⟨w.heap.size, 3, none⟩ u3).setCell ⟨w.heap.size, 4, none⟩ u4) :=
  ⟨T, rfl, (((((hT.set (by omega)).set (by omega)).set (by omega)).set (by omega)).set (by omega)), hN, hW, ((((hB.setCell (Nat.le_refl _) _).setCell (Nat.le_refl _) _).setCell (Nat.le_refl _) _).setCell (Nat.le_refl _) _).setCell (Nat.le_refl _) _⟩
theorem drawvalok_any (a : Option Addr) (len cap : Nat) (w : World) (hC : CodeAt w a len) (hl : len ≤ 1048576) : Calls Try.prog 47 #[.slice a len cap] w (TreeDraw 80000 w) := by
  have hC2 := hC.below (vbox w (.cells #[.int .i64 0, .int .i64 0, .int .i64 0, .string ⟨#[]⟩, .slice none 0 0] 28))
  have hz := ZB.new w
  go_enter Try.func47, Try.ntmps47
  go_wp2_with fail
  refine (new_any a len cap _ hC2 hl).mono ?_
  rintro e w1 ⟨rfl, hb, hc, hz1⟩
  have hz1 := hz.blw hb
  have hs1 : (w.alloc (.cells #[.int .i64 0, .int .i64 0, .int .i64 0, .string ⟨#[]⟩, .slice none 0 0] 28)).heap.size = w.heap.size + 1 := by simp
  have hsz := hb.size
  rw [hs1] at hc hsz
  go_wp2_with fail
  refine (any_val w1 (w.heap.size + 1) hc).mono ?_
  rintro e w2 ⟨T, hr, hOT, hNT, hWT, ho, hc2⟩
  change e = .returned (.agg #[.int .i64 T.k, .int .i64 T.n, .int .i64 T.x, .string ⟨T.s.toArray⟩, .slice T.a T.l.length T.cap]) at hr
  subst hr
  obtain ⟨q0, q1, q2, q3, q4, qf⟩ := (hz1.only ho (by omega)).cells
  have hB : Below w.heap.size w w2 := ((vbox w _).trans (hb.mono (by simp))).trans (ho.below w.heap.size (by omega) (by omega))
  have HF := Lib.hid (treedraw_out (w := w) (hOT.base (by omega)) hNT hWT hB)
  clear hB hz1 hz ho hc hc2 hOT hNT hWT hb hC2
  go_wp2
  refine bodyPost_ret (v := .agg #[.int .i64 T.k, .int .i64 T.n, .int .i64 T.x, .string ⟨T.s.toArray⟩, .slice T.a T.l.length T.cap]) (by simp [results, Try.results47, go_sem, q0, q1, q2, q3, q4]) rfl ?_
  exact HF.out _ _ _ _ _
theorem drawval_any (a : Option Addr) (len cap : Nat) (w : World) (hC : CodeAt w a len) (hl : len ≤ 1048576) : Calls Try.prog 21 #[.slice a len cap] w (TreeDraw 70000 w) := by
  have hC2 := hC.below (vbox w (.cells #[.int .i64 0, .int .i64 0, .int .i64 0, .string ⟨#[]⟩, .slice none 0 0] 28))
  have hz := ZB.new w
  go_enter Try.func21, Try.ntmps21
  go_wp2_with fail
  refine (new_any a len cap _ hC2 hl).mono ?_
  rintro e w1 ⟨rfl, hb, hc, hz1⟩
  have hz1 := hz.blw hb
  have hs1 : (w.alloc (.cells #[.int .i64 0, .int .i64 0, .int .i64 0, .string ⟨#[]⟩, .slice none 0 0] 28)).heap.size = w.heap.size + 1 := by simp
  have hsz := hb.size
  rw [hs1] at hc hsz
  go_wp2_with fail
  refine (val_any w1 (w.heap.size + 1) hc).mono ?_
  rintro e w2 ⟨T, hr, hOT, hNT, hWT, ho, hc2⟩
  change e = .returned (.agg #[.int .i64 T.k, .int .i64 T.n, .int .i64 T.x, .string ⟨T.s.toArray⟩, .slice T.a T.l.length T.cap]) at hr
  subst hr
  obtain ⟨q0, q1, q2, q3, q4, qf⟩ := (hz1.only ho (by omega)).cells
  have hB : Below w.heap.size w w2 := ((vbox w _).trans (hb.mono (by simp))).trans (ho.below w.heap.size (by omega) (by omega))
  have HF := Lib.hid (treedraw_out (w := w) (hOT.base (by omega)) hNT hWT hB)
  clear hB hz1 hz ho hc hc2 hOT hNT hWT hb hC2
  go_wp2
  refine bodyPost_ret (v := .agg #[.int .i64 T.k, .int .i64 T.n, .int .i64 T.x, .string ⟨T.s.toArray⟩, .slice T.a T.l.length T.cap]) (by simp [results, Try.results21, go_sem, q0, q1, q2, q3, q4]) rfl ?_
  exact HF.out _ _ _ _ _
end Go.Proofs.Ytdjnkcoepmackaa
/- l6Copy and ListVal of the model. -/
namespace Go.Proofs.Ytdjnkcoepmackaa
open Go.RowKit
theorem zbox5 (w : World) {t : TypeId} {wr : World} (hb : Below (w.alloc (.cells #[.int .i64 0, .int .i64 0, .int .i64 0, .string ⟨#[]⟩, .slice none 0 0] t)).heap.size (w.alloc (.cells #[.int .i64 0, .int .i64 0, .int .i64 0, .string ⟨#[]⟩, .slice none 0 0] t)) wr) :
    wr.cell? ⟨w.heap.size, 0, none⟩ = some (.int .i64 0) ∧ wr.cell? ⟨w.heap.size, 1, none⟩ = some (.int .i64 0) ∧ wr.cell? ⟨w.heap.size, 2, none⟩ = some (.int .i64 0) ∧ wr.cell? ⟨w.heap.size, 3, none⟩ = some (.string ⟨#[]⟩) ∧ wr.cell? ⟨w.heap.size, 4, none⟩ = some (.slice none 0 0) ∧ (∀ o, wr.frozen? ⟨w.heap.size, o, none⟩ = false) := by
  refine ⟨?_, ?_, ?_, ?_, ?_, fun o => (hb.frozen (by simp)).trans (by simp [go_sem])⟩ <;> exact (hb.cell (by simp)).trans (by simp [go_sem])
/-- the head of l6Copy's loop -/
structure CopyAt (w wr : World) (k n x : Int) (s : ByteArray) (a : Option Addr) (len cap : Nat) (a' : Option Addr) (cap' : Nat) (lr : List AT) : Prop where
  v4 : wr.cell? ⟨w.heap.size, 4, none⟩ = some (.slice a len cap)
  r0 : wr.cell? ⟨w.heap.size + 1, 0, none⟩ = some (.int .i64 0)
  r1 : wr.cell? ⟨w.heap.size + 1, 1, none⟩ = some (.int .i64 0)
  r2 : wr.cell? ⟨w.heap.size + 1, 2, none⟩ = some (.int .i64 0)
  r3 : wr.cell? ⟨w.heap.size + 1, 3, none⟩ = some (.string ⟨#[]⟩)
  r4 : wr.cell? ⟨w.heap.size + 1, 4, none⟩ = some (.slice none 0 0)
  rf : ∀ o, wr.frozen? ⟨w.heap.size + 1, o, none⟩ = false
  o0 : wr.cell? ⟨w.heap.size + 2, 0, none⟩ = some (.int .i64 k)
  o1 : wr.cell? ⟨w.heap.size + 2, 1, none⟩ = some (.int .i64 n)
  o2 : wr.cell? ⟨w.heap.size + 2, 2, none⟩ = some (.int .i64 x)
  o3 : wr.cell? ⟨w.heap.size + 2, 3, none⟩ = some (.string s)
  o4 : wr.cell? ⟨w.heap.size + 2, 4, none⟩ = some (.slice a' lr.length cap')
  of : ∀ o, wr.frozen? ⟨w.heap.size + 2, o, none⟩ = false
  own : OwnL wr (w.heap.size + 3) a' cap' lr
  nd : ((a'.map (·.block)).toList ++ AT.blksL lr).Nodup
  below : Below w.heap.size w wr
  sz : w.heap.size + 3 ≤ wr.heap.size
theorem CopyAt.keep {w wr w' : World} {k n x : Int} {s : ByteArray} {a : Option Addr} {len cap : Nat} {a' : Option Addr} {cap' : Nat} {lr : List AT} (h : CopyAt w wr k n x s a len cap a' cap' lr) (hb : Below wr.heap.size wr w') : CopyAt w w' k n x s a len cap a' cap' lr where
  v4 := keep_below hb h.v4
  r0 := keep_below hb h.r0
  r1 := keep_below hb h.r1
  r2 := keep_below hb h.r2
  r3 := keep_below hb h.r3
  r4 := keep_below hb h.r4
  rf o := by have := h.sz; rw [frozen_blk' (hb.block _ (by omega))]; exact h.rf o
  o0 := keep_below hb h.o0
  o1 := keep_below hb h.o1
  o2 := keep_below hb h.o2
  o3 := keep_below hb h.o3
  o4 := keep_below hb h.o4
  of o := by have := h.sz; rw [frozen_blk' (hb.block _ (by omega))]; exact h.of o
  own := h.own.blw hb
  nd := h.nd
  below := h.below.trans (hb.mono h.below.size)
  sz := by have := h.sz; have := hb.size; omega
/-- an append to the row, and the field set anew -/
theorem CopyAt.push {w W w3 : World} {k n x : Int} {s : ByteArray} {a : Option Addr} {len cap : Nat} {a' : Option Addr} {cap' gg cap2 : Nat} {lr : List AT} {T : AT} (h : CopyAt w W k n x s a len cap a' cap' lr) (hT : T.Own W (w.heap.size + 3)) (hTn : T.blks.Nodup) (hdis : ∀ k ∈ T.blks, k ∉ (a'.map (·.block)).toList ++ AT.blksL lr)
    (hown : w3.ownsRow (w.heap.size + 3) 28 5 (.slice (some ⟨gg, 0, none⟩) (lr.length + 1) cap2) (lr.length + 1) (cellsL lr ++ T.cells)) (hgrow : W.grownBy w3 (Value.slice a' lr.length cap').ownBlock) (hat : (Value.slice a' lr.length cap').ownBlock = some gg ∨ gg = W.heap.size) :
    CopyAt w (w3.setCell ⟨w.heap.size + 2, 4, none⟩ (.slice (some ⟨gg, 0, none⟩) (lr.length + 1) cap2)) k n x s a len cap (some ⟨gg, 0, none⟩) cap2 (lr ++ [T]) ∧ w3.frozen? ⟨w.heap.size + 2, 4, none⟩ = false ∧ w3.cell? ⟨w.heap.size + 2, 4, none⟩ = some (.slice a' lr.length cap') := by
  have hz := h.sz
  obtain ⟨hnew, hnd3⟩ := row_push h.own h.nd hT hTn hdis hown hgrow hat
  have hblk : ∀ b, b < w.heap.size + 3 → w3.heap[b]? = W.heap[b]? := fun b hb => hgrow.block b (by omega) (fun e => by have := h.own.row.lt b e.symm; omega)
  have hc : ∀ b o v, b < w.heap.size + 3 → W.cell? ⟨b, o, none⟩ = some v → w3.cell? ⟨b, o, none⟩ = some v := fun b o v hb hv => by rw [World.cell?_of_block (hblk b hb)]; exact hv
  have hf : ∀ b o, b < w.heap.size + 3 → w3.frozen? ⟨b, o, none⟩ = W.frozen? ⟨b, o, none⟩ := fun b o hb => frozen_blk' (hblk b hb)
  have hset : ∀ b o v, (b ≠ w.heap.size + 2 ∨ o ≠ 4) → w3.cell? ⟨b, o, none⟩ = some v → (w3.setCell ⟨w.heap.size + 2, 4, none⟩ (.slice (some ⟨gg, 0, none⟩) (lr.length + 1) cap2)).cell? ⟨b, o, none⟩ = some v := fun b o v hbo hv => by
    rw [World.cell?_setCell_other _ _ _ _ (fun e => by injection e with e1 e2; omega)]; exact hv
  have h4 := hc _ _ _ (by omega) h.o4
  have hgg : w.heap.size + 3 ≤ gg := (hnew.row.lt gg rfl).1
  have hl : (lr ++ [T]).length = lr.length + 1 := by simp
  refine ⟨{
    v4 := hset _ _ _ (by omega) (hc _ _ _ (by omega) h.v4)
    r0 := hset _ _ _ (by omega) (hc _ _ _ (by omega) h.r0)
    r1 := hset _ _ _ (by omega) (hc _ _ _ (by omega) h.r1)
    r2 := hset _ _ _ (by omega) (hc _ _ _ (by omega) h.r2)
    r3 := hset _ _ _ (by omega) (hc _ _ _ (by omega) h.r3)
    r4 := hset _ _ _ (by omega) (hc _ _ _ (by omega) h.r4)
    rf := fun o => by have := hf (w.heap.size + 1) o (by omega); rw [h.rf o] at this; simp [go_sem, this]
    o0 := hset _ _ _ (by omega) (hc _ _ _ (by omega) h.o0)
    o1 := hset _ _ _ (by omega) (hc _ _ _ (by omega) h.o1)
    o2 := hset _ _ _ (by omega) (hc _ _ _ (by omega) h.o2)
    o3 := hset _ _ _ (by omega) (hc _ _ _ (by omega) h.o3)
    o4 := by rw [hl]; exact World.cell?_setCell_same _ _ _ h4
    of := fun o => by have := hf (w.heap.size + 2) o (by omega); rw [h.of o] at this; simp [go_sem, this]
    own := (AT.Own.setg' (T := .mk 0 0 0 [] (some ⟨gg, 0, none⟩) cap2 (lr ++ [T])) hnew.own (fun hm => by have := (hnew.lt _ hm).1; omega)).l
    nd := hnd3
    below := bset (h.below.trans (below_push hgrow (fun k hk => by have := (h.own.row.lt k hk).1; omega) (Below.refl _ _) h.below.size)) (by omega)
    sz := by have := hgrow.size; simp [World.setCell]; omega }, ?_, h4⟩
  rw [hf _ _ (by omega)]; exact h.of 4
theorem CopyAt.start (w : World) (k n x : Int) (s : ByteArray) (a : Option Addr) (len cap : Nat) :
    CopyAt w ((((w.alloc (.cells #[.int .i64 k, .int .i64 n, .int .i64 x, .string s, .slice a len cap] 28)).alloc (.cells #[.int .i64 0, .int .i64 0, .int .i64 0, .string ⟨#[]⟩, .slice none 0 0] 28)).alloc (.cells #[.int .i64 k, .int .i64 n, .int .i64 x, .string s, .slice (some ⟨w.heap.size + 3, 0, none⟩) 0 0] 28)).alloc (.cells #[] 28)) k n x s a len cap (some ⟨w.heap.size + 3, 0, none⟩) 0 [] where
  v4 := by simp [go_sem]
  r0 := by simp [go_sem]
  r1 := by simp [go_sem]
  r2 := by simp [go_sem]
  r3 := by simp [go_sem]
  r4 := by simp [go_sem]
  rf o := by simp [go_sem]
  o0 := by simp [go_sem]
  o1 := by simp [go_sem]
  o2 := by simp [go_sem]
  o3 := by simp [go_sem]
  o4 := by simp [go_sem]
  of o := by simp [go_sem]
  own := by
    have := emptyRow (((w.alloc (.cells #[.int .i64 k, .int .i64 n, .int .i64 x, .string s, .slice a len cap] 28)).alloc (.cells #[.int .i64 0, .int .i64 0, .int .i64 0, .string ⟨#[]⟩, .slice none 0 0] 28)).alloc (.cells #[.int .i64 k, .int .i64 n, .int .i64 x, .string s, .slice (some ⟨w.heap.size + 3, 0, none⟩) 0 0] 28)) (w.heap.size + 3) (by simp)
    simpa using this
  nd := by simp [AT.blksL]
  below := (boxes3 w _ _ _).alloc (by simp; omega) _
  sz := by simp
set_option maxHeartbeats 1000000 in
theorem l6Copy_of (k n x : Int) (s : List UInt8) (a : Option Addr) (cap : Nat) (l : List AT) (ih : ∀ t ∈ l, ∀ (w : World) (N : Nat), t.In w N → N ≤ w.heap.size → Calls Try.prog 70 #[t.val] w (FreshV w t.pt)) (hl : l.length ≤ 1048576) (w : World) (N : Nat) (h : Lv w N a cap l) (hN : N ≤ w.heap.size) :
    Calls Try.prog 70 #[(AT.mk k n x s a cap l).val] w (FreshV w (AT.mk k n x s a cap l).pt) := by
  obtain ⟨i0, hi, hz0, hz1, hz2⟩ := info_parts valInfo
  have H := Lib.hid h
  have IH := Lib.hid ih
  clear h ih
  have HST := Lib.hid (CopyAt.start w k n x ⟨s.toArray⟩ a l.length cap)
  show Calls Try.prog 70 #[.agg #[.int .i64 k, .int .i64 n, .int .i64 x, .string ⟨s.toArray⟩, .slice a l.length cap]] w _
  go_enter Try.func70, Try.ntmps70
  go_wp2
  go_loopw [4] (fun i wr => ∃ (lr : List AT) (a' : Option Addr) (cap' : Nat), i = .int .i64 lr.length ∧ lr.length ≤ l.length ∧ AT.ptL lr = (AT.ptL l).take lr.length ∧ CopyAt w wr k n x ⟨s.toArray⟩ a l.length cap a' cap' lr) (fun i _ => l.length - (intOf i).toNat)
  case atStart => exact ⟨[], _, _, rfl, Nat.zero_le _, by simp [AT.ptL], HST.out⟩
  case round =>
    obtain ⟨lr, a', cap', rfl, hlr, hpt, hca⟩ := hrel
    have HCA := Lib.hid hca
    have HP := Lib.hid hpt
    have hv4 := hca.v4
    have hsz := hca.sz
    clear hpt
    by_cases hlt : lr.length < l.length
    · obtain ⟨b, o, rfl, hbN, hC⟩ := H.out.cell lr.length hlt
      have hC := hC.keep (hca.below.block b (by omega))
      have hc := fun w' hw => IH.out l[lr.length] (List.getElem_mem hlt) w' N ((H.out.sub _ (List.getElem_mem hlt)).blw hw hN)
      have HPt : Hid ((AT.ptL l).take (lr.length + 1) = (AT.ptL l).take lr.length ++ [(l[lr.length]).pt]) := Lib.hid (by
        rw [List.take_succ_eq_append_getElem (by simpa using hlt)]; simp [AT.ptL_eq])
      obtain ⟨T, hT⟩ : ∃ T, T = l[lr.length] := ⟨_, rfl⟩
      rw [← hT] at hC hc HPt
      clear hT
      obtain ⟨c0, c1, c2, c3, c4⟩ := hC
      have HC := Lib.hid hc
      clear hc hca
      go_wp2_with fail
      refine (HC.out wr HCA.out.below (by have := HCA.out.below.size; omega)).mono ?_
      rintro e w2 ⟨T', hT', rfl, hOT, hNT, hb2⟩
      have hCA2 := HCA.out.keep hb2
      have hdis : ∀ k ∈ T'.blks, k ∉ (a'.map (·.block)).toList ++ AT.blksL lr := fun k hk hk2 => by
        have h1 := (hOT.lt k hk).1
        have h2 := (HCA.out.own.lt k hk2).2
        omega
      have HX := Lib.hid hT'
      have HOT := Lib.hid (hOT.base (B' := w.heap.size + 3) HCA.out.sz)
      have HNT := Lib.hid hNT
      have HDI := Lib.hid hdis
      have HCA3 := Lib.hid (hCA2.keep (vbox w2 (.cells #[.int .i64 T'.k, .int .i64 T'.n, .int .i64 T'.x, .string ⟨T'.s.toArray⟩, .slice T'.a T'.l.length T'.cap] 28)))
      have HCA4 := Lib.hid ((hCA2.keep (vbox w2 (.cells #[.int .i64 T'.k, .int .i64 T'.n, .int .i64 T'.x, .string ⟨T'.s.toArray⟩, .slice T'.a T'.l.length T'.cap] 28))).keep (vbox _ (.cells #[.int .i64 T'.k, .int .i64 T'.n, .int .i64 T'.x, .string ⟨T'.s.toArray⟩, .slice T'.a T'.l.length T'.cap] 28)))
      have ho4 := HCA3.out.o4
      have hsz2 : w.heap.size + 3 ≤ w2.heap.size := hCA2.sz
      clear hT' hOT hNT hb2 hCA2 hdis hv4 c0 c1 c2 c3 c4
      go_wp2_with (refine wpList_append_lies _ (by rfl) _ _ _ (by rfl) (w.heap.size + 3) 28 i0 _ 5 64 Try.underlying26 hi hz0 hz1 hz2 rfl (by omega) _ lr.length _ (by rfl) HCA4.out.own.row ⟨w2.heap.size + 1, 0, none⟩ 1 1 T'.cells (by rfl) (by rfl) ?news (cells_one T') (by omega) (by unfold maxLen; omega) (by omega) (by simp; omega) (w2.heap.size + 2) (by simp) ?_)
      case news =>
        have := news_of_cells (w2.alloc (.cells #[.int .i64 T'.k, .int .i64 T'.n, .int .i64 T'.x, .string ⟨T'.s.toArray⟩, .slice T'.a T'.l.length T'.cap] 28)) T'
        simpa using this
      intro gg cap2 w3 hown3 hgrow hat hlt3
      have hbW : Below w2.heap.size w2 ((w2.alloc (.cells #[.int .i64 T'.k, .int .i64 T'.n, .int .i64 T'.x, .string ⟨T'.s.toArray⟩, .slice T'.a T'.l.length T'.cap] 28)).alloc (.cells #[.int .i64 T'.k, .int .i64 T'.n, .int .i64 T'.x, .string ⟨T'.s.toArray⟩, .slice T'.a T'.l.length T'.cap] 28)) := boxes2 w2 _ _
      obtain ⟨hnew, hf4, hc4⟩ := HCA4.out.push (HOT.out.blw hbW) HNT.out HDI.out hown3 hgrow (by simpa using hat)
      have HNEW := Lib.hid hnew
      have HPT : Hid (AT.ptL (lr ++ [T']) = (AT.ptL l).take (lr.length + 1)) := Lib.hid (by
        rw [AT.ptL_eq, List.map_append, ← AT.ptL_eq, HP.out, List.map_singleton, HX.out, HPt.out])
      clear hown3 hgrow hat hlt3 hbW hnew ho4
      go_wp2
      go_roundw
      case rel => exact ⟨lr ++ [T'], some ⟨gg, 0, none⟩, cap2, by rw [List.length_append]; go_num, by rw [List.length_append, List.length_singleton]; omega, by rw [List.length_append, List.length_singleton]; exact HPT.out, HNEW.out⟩
      case measure => simp [intOf]; omega
    · obtain heq : lr.length = l.length := by omega
      have q0 := hca.o0
      have q1 := hca.o1
      have q2 := hca.o2
      have q3 := hca.o3
      have q4 := hca.o4
      have r0 := hca.r0
      have r1 := hca.r1
      have r2 := hca.r2
      have r3 := hca.r3
      have r4 := hca.r4
      have rf := hca.rf
      have HE := Lib.hid heq
      clear hca heq
      go_wp2
      refine bodyPost_ret (v := .agg #[.int .i64 k, .int .i64 n, .int .i64 x, .string ⟨s.toArray⟩, .slice a' lr.length cap']) (by simp [results, Try.results70, go_sem, r0, r1, r2, r3, r4]) rfl ⟨.mk k n x s a' cap' lr, ?_, rfl, ?_, ?_, ?_⟩
      · simp only [AT.pt]
        rw [HP.out, List.take_of_length_le (by rw [AT.ptL_length]; have := HE.out; omega)]
      · refine AT.Own.base (B := w.heap.size + 3) ?_ (by omega)
        exact AT.Own.set (AT.Own.set (AT.Own.set (AT.Own.set (AT.Own.set HCA.out.own.own (by omega)) (by omega)) (by omega)) (by omega)) (by omega)
      · exact HCA.out.nd
      · exact bset (bset (bset (bset (bset HCA.out.below (by omega)) (by omega)) (by omega)) (by omega)) (by omega)
theorem l6Copy_any (T : AT) : T.pt.sz ≤ 1048576 → ∀ (w : World) (N : Nat), T.In w N → N ≤ w.heap.size → Calls Try.prog 70 #[T.val] w (FreshV w T.pt) := by
  induction T using AT.ind with
  | h k n x s a cap l ih =>
    intro hsz w N hin hN
    have e1 : (AT.mk k n x s a cap l).pt.sz = s.length + (l.length + PT.szL (AT.ptL l)) := by simp [AT.pt, PT.sz]
    have hss : ∀ t ∈ l, t.pt.sz ≤ 1048576 := fun t ht => by have := szL_ge ht; omega
    exact l6Copy_of k n x s a cap l (fun t ht => ih t ht (hss t ht)) (by omega) w N hin.lv hN
theorem l6All_any (l : List AT) (hsz : l.length + PT.szL (AT.ptL l) ≤ 1048576) (w : World) (N : Nat) (a : Option Addr) (cap : Nat) (h : Lv w N a cap l) (hN : N ≤ w.heap.size) : Calls Try.prog 121 #[.slice a l.length cap] w (FreshL w (AT.ptL l)) :=
  l6All_of l (fun t ht => l6Copy_any t (by have := szL_ge ht; omega)) (by omega) w N a cap h hN
theorem listval_spec (l : List AT) (hsz : l.length + PT.szL (AT.ptL l) ≤ 1048576) (w : World) (N : Nat) (a : Option Addr) (cap : Nat) (h : Lv w N a cap l) (hN : N ≤ w.heap.size) : Calls Try.prog 65 #[.slice a l.length cap] w (FreshV w (.mk 9 0 0 [] (AT.ptL l))) := by
  have hc := l6All_any l hsz (w.alloc (.cells #[.int .i64 0, .int .i64 0, .int .i64 0, .string ⟨#[]⟩, .slice none 0 0] 28)) N a cap (h.below (vbox _ _) hN) (by simp; omega)
  have HC := Lib.hid hc
  clear hc h
  go_enter Try.func65, Try.ntmps65
  go_wp2_with fail
  refine HC.out.mono ?_
  rintro e w1 ⟨a', cap', l', hp, rfl, ho, hn, hb⟩
  have hz := hb.size
  simp only [World.size_alloc] at hz
  obtain ⟨q0, q1, q2, q3, q4, qf⟩ := zbox5 w hb
  have HB := Lib.hid ((vbox w _).trans (hb.mono (by simp)))
  have HO := Lib.hid ho
  have HN := Lib.hid hn
  have HP := Lib.hid hp
  clear hb ho hn hp
  go_wp2
  refine bodyPost_ret (v := .agg #[.int .i64 9, .int .i64 0, .int .i64 0, .string ⟨#[]⟩, .slice a' l'.length cap']) (by simp [results, Try.results65, go_sem, q0, q1, q2, q3, q4]) rfl ⟨.mk 9 0 0 [] a' cap' l', ?_, rfl, ?_, ?_, ?_⟩
  · simp only [AT.pt]; rw [HP.out]
  · refine AT.Own.base (B := w.heap.size + 1) ?_ (by omega)
    have ho' : OwnL w1 (w.heap.size + 1) a' cap' l' := by simpa using HO.out
    exact AT.Own.set (AT.Own.set (AT.Own.set (AT.Own.set (AT.Own.set ho'.own (by omega)) (by omega)) (by omega)) (by omega)) (by omega)
  · exact HN.out
  · exact bset (bset (bset (bset (bset HB.out (Nat.le_refl _)) (Nat.le_refl _)) (Nat.le_refl _)) (Nat.le_refl _)) (Nat.le_refl _)
end Go.Proofs.Ytdjnkcoepmackaa
