import Derived.Test.YtdjnkcoepmackaaG30
import Derived.Test.YtdjnkcoepmackaaG0
import Derived.Test.YtdjnkcoepmackaaG4
import Derived.Test.YtdjnkcoepmackaaG9
import Derived.Test.YtdjnkcoepmackaaG25
import Derived.Test.YtdjnkcoepmackaaG8
import Derived.Test.YtdjnkcoepmackaaG12
/- Steps and paths that the model draws. -/
namespace Go.Proofs.Ytdjnkcoepmackaa
open Go.RowKit
set_option maxRecDepth 100000
theorem step_draw (w : World) (B : Nat) (hC : Cur w B) : Calls Try.prog 153 #[.pointer (some ⟨B, 0, none⟩)] w (fun e w' => ∃ (n : Int) (q : Bool), -1 ≤ n ∧ n ≤ 3 ∧ e = .returned (.agg #[.int .i64 n, .bool q]) ∧ Only B w w' ∧ Cur w' B) := by
  have hl := hC.lt
  go_enter Try.func153, Try.ntmps153
  go_wp2_with fail
  refine (below_any _ B 4 (hC.alloc _) (by decide)).mono ?_
  rintro e w1 ⟨x, ⟨hx0, hx1⟩, rfl, ho1, hc1⟩
  go_wp2_with fail
  refine (below_any w1 B 8 hc1 (by decide)).mono ?_
  rintro e w2 ⟨y, ⟨hy0, hy1⟩, rfl, ho2, hc2⟩
  have hq : 0 ≤ y.tdiv 7 ∧ y.tdiv 7 ≤ 1 := by rw [Int.tdiv_eq_ediv_of_nonneg hy0]; omega
  have hO := (((Only.refl B w).alloc (.cells #[.int .i64 0, .bool false] 105)).trans ho1).trans ho2
  have hsz : w.heap.size < w2.heap.size := by have h1 := ho1.size; have h2 := ho2.size; simp at h1; omega
  have hzb : w2.heap[w.heap.size]? = some (.cells #[.int .i64 0, .bool false] 105 (0, 0)) := by
    rw [ho2.block _ (by have h1 := ho1.size; simp at h1; omega) (by omega), ho1.block _ (by simp) (by omega)]
    exact heap_alloc_new w _
  clear ho1 ho2 hc1
  go_wp2_with fail
  refine (once_any w2 B 5 hc2 (by decide)).mono ?_
  rintro e w3 ⟨q, rfl, ho3, hc3⟩
  have hzc : w3.heap[w.heap.size]? = some (.cells #[.int .i64 0, .bool false] 105 (0, 0)) := by rw [ho3.block _ hsz (by omega)]; exact hzb
  have b0 : w3.cell? ⟨w.heap.size, 0, none⟩ = some (.int .i64 0) := by simp [World.cell?, hzc]
  have b1 : w3.cell? ⟨w.heap.size, 1, none⟩ = some (.bool false) := by simp [World.cell?, hzc]
  have bf : ∀ o, w3.frozen? ⟨w.heap.size, o, none⟩ = false := fun o => by simp [World.frozen?, hzc]
  have hO3 := hO.trans ho3
  clear ho3 hO hzb hzc hc2
  go_wp2
  refine bodyPost_ret (v := .agg #[.int .i64 (x - y.tdiv 7), .bool q]) (by simp [results, Try.results153, go_sem, b0, b1]) rfl ⟨x - y.tdiv 7, q, by omega, by omega, rfl, ?_, ?_⟩
  · exact (hO3.setNew (Nat.le_refl _) _).setNew (Nat.le_refl _) _
  · exact (hc3.setNew hl _).setNew hl _
theorem SR.Own.onlyB {w w' : World} {B K : Nat} {P : SR} (h : P.Own w K) (ho : Only B w w') (hB : B < K) : P.Own w' K := h.kept fun k hk => ho.block k (h.lt k hk).2 (by have := (h.lt k hk).1; omega)
/-- a path that is drawn -/
def PathDraw (B : Nat) (w : World) (e : Ending) (w' : World) : Prop := ∃ P : SR, e = .returned P.val ∧ P.Own w' w.heap.size ∧ P.l.length ≤ 1048576 ∧ Only B w w' ∧ Cur w' B
theorem path_draw (w : World) (B : Nat) (T : AT) (N : Nat) (hC : Cur w B) (hT : T.In w N) (hN : N ≤ w.heap.size) (hc : T.pt.cnt ≤ 1000000) : Calls Try.prog 107 #[.pointer (some ⟨B, 0, none⟩), T.val] w (PathDraw B w) := by
  have hBl := hC.lt
  obtain ⟨i0, hi, hz0, hz1, hz2⟩ := info_parts stepInfo
  have hCA := hC.alloc (.cells #[.int .i64 T.k, .int .i64 T.n, .int .i64 T.x, .string ⟨T.s.toArray⟩, .slice T.a T.l.length T.cap] 28)
  have hap := allpaths_any T (w.alloc (.cells #[.int .i64 T.k, .int .i64 T.n, .int .i64 T.x, .string ⟨T.s.toArray⟩, .slice T.a T.l.length T.cap] 28)) N (hT.blw (vbox w _) hN) (by simp; omega) (by omega)
  have HCN := Lib.hid hc
  clear hT hc hN hC
  show Calls Try.prog 107 #[.pointer (some ⟨B, 0, none⟩), .agg #[.int .i64 T.k, .int .i64 T.n, .int .i64 T.x, .string ⟨T.s.toArray⟩, .slice T.a T.l.length T.cap]] w _
  go_enter Try.func107, Try.ntmps107
  go_wp2_with fail
  refine hap.mono ?_
  rintro e w2 ⟨g, cap, lr, hl, rfl, ho, hn, hb⟩
  have hlen : lr.length = T.pt.cnt := by have := congrArg List.length hl; rw [List.length_map, paths_len] at this; exact this
  have hpos : 0 < T.pt.cnt := by obtain ⟨_, _, _, _, _, _, _⟩ := T; simp [AT.pt, PT.cnt]
  have hpos2 : (0 : Int) < lr.length := by omega
  have HLE : Hid (∀ P ∈ lr, P.l.length ≤ 1000000) := Lib.hid (fun P hP => by
    have h1 : P.l ∈ T.pt.paths [] := by rw [← hl]; exact List.mem_map.2 ⟨P, hP, rfl⟩
    have h2 := paths_bound T.pt [] P.l h1
    have h3 := deep_le_cnt T.pt
    have := HCN.out; simp at h2; omega)
  have hO2 : Only B w w2 := ((Only.of_below (B := B) (vbox w _)).then_below hb (by simp))
  have hc2 := hCA.below hb (by simp; omega)
  have hb2 : w.heap.size < w2.heap.size := by have := hb.size; simp at this; omega
  have ho := ho.base (B' := w.heap.size + 1) (by simp)
  clear hap hb hn hl hCA hpos hlen
  go_wp2_with fail
  refine (below_any w2 B lr.length hc2 hpos2).mono ?_
  rintro e w3 ⟨x, ⟨hx0, hx1⟩, rfl, ho3, hc3⟩
  obtain ⟨j, rfl⟩ : ∃ j : Nat, x = j := ⟨x.toNat, by omega⟩
  have hj : j < lr.length := by omega
  obtain ⟨P, hP⟩ : ∃ P, P = lr[j] := ⟨_, rfl⟩
  have hPm : P ∈ lr := by rw [hP]; exact List.getElem_mem hj
  have k0 : w3.cell? ⟨g, j, none⟩ = some (.slice P.a P.l.length P.cap) := by
    have hgl := ho.lt g (by simp)
    have := ho.row.cellAt (g := g) j (by simpa using hj)
    have h5 : (cellsP lr)[j]? = some (.slice P.a P.l.length P.cap) := by rw [hP]; simp [cellsP, hj, SR.val]
    exact ho3.cell (p := ⟨g, j, none⟩) (by show g ≠ B; omega) (this.trans h5)
  have hPl := HLE.out P hPm
  have hPO := (ho.sub P hPm).onlyB ho3 (by omega)
  have hO3 := hO2.trans ho3
  have hb3 : w.heap.size < w3.heap.size := by have := ho3.size; omega
  clear ho hO2 hc2 ho3 HLE hPm hpos2
  clear hP
  go_wp2_with fail
  refine (once_any w3 B 4 hc3 (by decide)).mono ?_
  rintro e w4 ⟨q, rfl, ho4, hc4⟩
  have hPO4 := Lib.hid (hPO.onlyB ho4 (by omega))
  have hO4 := Lib.hid (hO3.trans ho4)
  have hb4 : w.heap.size < w4.heap.size := by have := ho4.size; omega
  clear hPO hO3 ho4 hc3 hb3
  cases q
  · go_wp2
    go_ret
    exact ⟨P, rfl, hPO4.out.base (by omega), by omega, hO4.out, hc4⟩
  · go_wp2_with fail
    refine (step_draw w4 B hc4).mono ?_
    rintro e w5 ⟨n, q, hn0, hn1, rfl, ho5, hc5⟩
    have hPO5 := Lib.hid (hPO4.out.onlyB ho5 (by omega))
    have hO5 := Lib.hid (hO4.out.trans ho5)
    have hb5 : w.heap.size < w5.heap.size := by have := ho5.size; omega
    clear hc4 ho5 hPO4 hO4
    have HX := Lib.hid hPl
    go_wp2_with (refine wpList_append_lies _ (by rfl) _ _ _ (by rfl) (w.heap.size + 1) 105 i0 _ 2 16 Try.underlying48 hi hz0 hz1 hz2 rfl (by omega) _ P.l.length (stv P.l) (by rfl) (own_alloc' hPO5.out) ⟨w5.heap.size, 0, none⟩ 1 1 [.int .i64 n, .bool q] (by rfl) (by rfl) (World.news_of_block (cs := #[.int .i64 n, .bool q]) (t := 105) (fr := (0, 0)) (heap_alloc_new w5 _)) (by simp [Value.oneCell']) (by omega) (by have := HX.out; unfold maxLen; omega) (by have := HX.out; omega) (by simp; omega) (w5.heap.size + 1) (by simp) ?_)
    intro gg cap2 w6 hown6 hgrow hat hlt6
    have hb6 : Below (w.heap.size + 1) w5 w6 := below_push hgrow (fun k hk => ((hPO5.out).lt k (by simpa [SR.blks, ownBlock_slice] using hk)).1) (vbox w5 _) hb5
    have HF : Hid (PathDraw B w (.returned (.slice (some ⟨gg, 0, none⟩) (P.l.length + 1) cap2)) w6) := Lib.hid ⟨⟨some ⟨gg, 0, none⟩, cap2, P.l ++ [(n, q)]⟩, by simp [SR.val], (show OwnS w6 (w.heap.size + 1) (some ⟨gg, 0, none⟩) cap2 (P.l ++ [(n, q)]) by unfold OwnS; rw [sv_append, List.length_append, List.length_singleton]; simpa [sv_cons] using hown6).base (by omega), by simp; omega, hO5.out.then_below hb6 (by omega), hc5.below hb6 (by omega)⟩
    clear hb6 hown6 hgrow hat hlt6
    go_wp2
    go_ret
    exact HF.out
end Go.Proofs.Ytdjnkcoepmackaa
/- A tree, a path and a tree that the model draws: DrawPutAt. -/
namespace Go.Proofs.Ytdjnkcoepmackaa
open Go.RowKit
set_option maxRecDepth 100000
def PutDraw (N : Nat) (w : World) (e : Ending) (w' : World) : Prop := ∃ (T U : AT) (P : SR), e = .returned (.tuple #[.agg #[.int .i64 T.k, .int .i64 T.n, .int .i64 T.x, .string ⟨T.s.toArray⟩, .slice T.a T.l.length T.cap], .slice P.a P.l.length P.cap, .agg #[.int .i64 U.k, .int .i64 U.n, .int .i64 U.x, .string ⟨U.s.toArray⟩, .slice U.a U.l.length U.cap]]) ∧ T.Own w' (w.heap.size + 2) ∧ U.Own w' (w.heap.size + 2) ∧ P.Own w' (w.heap.size + 2) ∧ T.blks.Nodup ∧ U.blks.Nodup ∧ (T.pt.Wf ∧ T.pt.sz ≤ N) ∧ (U.pt.Wf ∧ U.pt.sz ≤ N) ∧ P.l.length ≤ 1048576 ∧ Below w.heap.size w w'
/-- a tree in its box and a path, two boxes of results -/
structure Q2 (w wr : World) (Va : Nat) (T : AT) (P : SR) : Prop where
  va : VC wr Va T.k T.n T.x ⟨T.s.toArray⟩ T.a T.l.length T.cap
  tO : T.Own wr (w.heap.size + 3)
  pO : P.Own wr (w.heap.size + 3)
  z1 : ZB wr w.heap.size
  z2 : ZB wr (w.heap.size + 1)
  bel : Below w.heap.size w wr
  c : Cur wr (w.heap.size + 2)
  cv : w.heap.size + 2 < Va
theorem Q2.keep {w wr w' : World} {Va : Nat} {T : AT} {P : SR} (h : Q2 w wr Va T P) (ho : Only (w.heap.size + 2) wr w') (hc : Cur w' (w.heap.size + 2)) : Q2 w w' Va T P := by
  have h1 := h.cv
  have h2 := h.c.lt
  refine ⟨h.va.eqb (ho.block Va (vc_lt h.va) (by omega)), h.tO.only ho (fun hm => by have := (h.tO.lt _ hm).1; omega), h.pO.onlyB ho (by omega), h.z1.only ho (by omega), h.z2.only ho (by omega), h.bel.trans (ho.below w.heap.size (by omega) (by omega)), hc, h1⟩
theorem leaf_q {w wr : World} {Va : Nat} {T : AT} {P : SR} (h : Q2 w wr Va T P) : Calls Try.prog 89 #[.pointer (some ⟨w.heap.size + 2, 0, none⟩), .int .i64 0] wr fun e w4 => ∃ U : AT, e = .returned (.agg #[.int .i64 U.k, .int .i64 U.n, .int .i64 U.x, .string ⟨U.s.toArray⟩, .slice U.a U.l.length U.cap]) ∧ Hid (Q2 w w4 Va T P ∧ U.Own w4 (w.heap.size + 2) ∧ U.blks.Nodup ∧ U.pt.Wf ∧ U.pt.sz ≤ 1000) :=
  (draw_zero wr _ h.c).mono fun e w4 hp => by
    obtain ⟨U, hr, hOT, hNT, hWT, ho4, hc4⟩ := hp.tree (N := 1000) (Nat.le_refl _)
    have h2 := h.c.lt
    exact ⟨U, hr, Lib.hid ⟨h.keep ho4 hc4, hOT.base (by omega), hNT, hWT.1, hWT.2⟩⟩
theorem SR.Own.setlt {w : World} {K b o : Nat} {u : Value} {P : SR} (h : P.Own w K) (hb : b < K) : P.Own (w.setCell ⟨b, o, none⟩ u) K :=
  h.onlyB ((Only.refl b w).setCell o u) hb
theorem put_out {w w6 : World} {Va : Nat} {T U : AT} {P : SR} (h : Q2 w w6 Va T P) (hT : T.blks.Nodup ∧ T.pt.Wf ∧ T.pt.sz ≤ 70000) (hl : P.l.length ≤ 1048576) (hU : U.Own w6 (w.heap.size + 2) ∧ U.blks.Nodup ∧ U.pt.Wf ∧ U.pt.sz ≤ 1000) (u0 u1 u2 u3 u4 v0 v1 v2 v3 v4 : Value) :
    PutDraw 70000 w (.returned (.tuple #[.agg #[.int .i64 T.k, .int .i64 T.n, .int .i64 T.x, .string ⟨T.s.toArray⟩, .slice T.a T.l.length T.cap], .slice P.a P.l.length P.cap, .agg #[.int .i64 U.k, .int .i64 U.n, .int .i64 U.x, .string ⟨U.s.toArray⟩, .slice U.a U.l.length U.cap]])) ((((((((((w6.setCell ⟨w.heap.size, 0, none⟩ u0).setCell ⟨w.heap.size, 1, none⟩ u1).setCell ⟨w.heap.size, 2, none⟩ u2).setCell ⟨w.heap.size, 3, none⟩ u3).setCell ⟨w.heap.size, 4, none⟩ u4).setCell ⟨w.heap.size + 1, 0, none⟩ v0).setCell ⟨w.heap.size + 1, 1, none⟩ v1).setCell ⟨w.heap.size + 1, 2, none⟩ v2).setCell ⟨w.heap.size + 1, 3, none⟩ v3).setCell ⟨w.heap.size + 1, 4, none⟩ v4) := by
  have h1 : w.heap.size < w.heap.size + 2 := by omega
  have h2 : w.heap.size + 1 < w.heap.size + 2 := by omega
  have hT0 := h.tO.base (B' := w.heap.size + 2) (by omega)
  have hP0 := h.pO.base (B' := w.heap.size + 2) (by omega)
  have hU0 := hU.1
  refine ⟨T, U, P, rfl, ?_, ?_, ?_, hT.1, hU.2.1, hT.2, ⟨hU.2.2.1, by have := hU.2.2.2; omega⟩, hl, ?_⟩
  · exact (((((((((hT0.set h1).set h1).set h1).set h1).set h1).set h2).set h2).set h2).set h2).set h2
  · exact (((((((((hU0.set h1).set h1).set h1).set h1).set h1).set h2).set h2).set h2).set h2).set h2
  · exact (((((((((hP0.setlt h1).setlt h1).setlt h1).setlt h1).setlt h1).setlt h2).setlt h2).setlt h2).setlt h2).setlt h2
  · exact bset (bset (bset (bset (bset (bset (bset (bset (bset (bset h.bel (Nat.le_refl _)) (Nat.le_refl _)) (Nat.le_refl _)) (Nat.le_refl _)) (Nat.le_refl _)) (by omega)) (by omega)) (by omega)) (by omega)) (by omega)
theorem PutDraw.drew {N : Nat} {w w' : World} {e : Ending} (h : PutDraw N w e w') : PutDraw N w e w'.drew := by
  obtain ⟨T, U, P, he, hT, hU, hP, h1, h2, h3, h4, h5, hb⟩ := h
  exact ⟨T, U, P, he, hT.kept (fun _ _ => rfl), hU.kept (fun _ _ => rfl), hP.drew, h1, h2, h3, h4, h5, hb.drew⟩
set_option maxHeartbeats 1000000 in
theorem drawputat_any (a : Option Addr) (len cap : Nat) (w : World) (hC : CodeAt w a len) (hl : len ≤ 1048576) : Calls Try.prog 42 #[.slice a len cap] w (PutDraw 70000 w) := by
  have hC2 := hC.below (boxes2 w (.cells #[.int .i64 0, .int .i64 0, .int .i64 0, .string ⟨#[]⟩, .slice none 0 0] 28) (.cells #[.int .i64 0, .int .i64 0, .int .i64 0, .string ⟨#[]⟩, .slice none 0 0] 28))
  go_enter Try.func42, Try.ntmps42
  go_wp2_with fail
  refine (new_any a len cap _ hC2 hl).mono ?_
  rintro e w1 ⟨rfl, hb, hc, hz1⟩
  have hs1 : ((w.alloc (.cells #[.int .i64 0, .int .i64 0, .int .i64 0, .string ⟨#[]⟩, .slice none 0 0] 28)).alloc (.cells #[.int .i64 0, .int .i64 0, .int .i64 0, .string ⟨#[]⟩, .slice none 0 0] 28)).heap.size = w.heap.size + 2 := by simp
  have hsz := hb.size
  rw [hs1] at hc hsz
  go_wp2_with fail
  refine (val_any w1 (w.heap.size + 2) hc).mono ?_
  rintro e w2 ⟨T, hr, hOT, hNT, hWT, ho, hc2⟩
  change e = .returned (.agg #[.int .i64 T.k, .int .i64 T.n, .int .i64 T.x, .string ⟨T.s.toArray⟩, .slice T.a T.l.length T.cap]) at hr
  subst hr
  have hl1 := hc.lt
  have hos := ho.size
  have hbv := vbox w2 (.cells #[.int .i64 T.k, .int .i64 T.n, .int .i64 T.x, .string ⟨T.s.toArray⟩, .slice T.a T.l.length T.cap] 28)
  have hpd := path_draw (w2.alloc (.cells #[.int .i64 T.k, .int .i64 T.n, .int .i64 T.x, .string ⟨T.s.toArray⟩, .slice T.a T.l.length T.cap] 28)) (w.heap.size + 2) T w2.heap.size (hc2.alloc _) (hOT.in.blw hbv (Nat.le_refl _)) hbv.size (by have := cnt_le_sz T.pt; have := hWT.2; omega)
  go_wp2_with fail
  refine hpd.mono ?_
  rintro e w4 ⟨P, rfl, hOP, hPl, ho4, hc4⟩
  have hz0 := ZB.new w
  have hQ : Q2 w w4 w2.heap.size T P := by
    have hs4 := ho4.size
    simp at hs4
    have hA0 : VC (w2.alloc (.cells #[.int .i64 T.k, .int .i64 T.n, .int .i64 T.x, .string ⟨T.s.toArray⟩, .slice T.a T.l.length T.cap] 28)) w2.heap.size T.k T.n T.x ⟨T.s.toArray⟩ T.a T.l.length T.cap := ⟨by simp [go_sem], by simp [go_sem], by simp [go_sem], by simp [go_sem], by simp [go_sem]⟩
    have hZ1 : ZB w1 w.heap.size := (hz0.blw (vbox _ _)).blw hb
    have hZ2 : ZB w1 (w.heap.size + 1) := by
      have := (ZB.new (w.alloc (.cells #[.int .i64 0, .int .i64 0, .int .i64 0, .string ⟨#[]⟩, .slice none 0 0] 28))).blw hb
      simpa using this
    exact {
      va := hA0.eqb (ho4.block w2.heap.size (by simp) (by omega))
      tO := ((hOT.blw hbv).base (by omega)).only ho4 (fun hm => by have := (hOT.lt _ hm).1; omega)
      pO := hOP.base (by simp; omega)
      z1 := ((hZ1.only ho (by omega)).blw hbv).only ho4 (by omega)
      z2 := ((hZ2.only ho (by omega)).blw hbv).only ho4 (by omega)
      bel := ((((boxes2 w _ _).trans (hb.mono (by simp; omega))).trans (ho.below w.heap.size (by omega) (by omega))).trans (hbv.mono (by omega))).trans (ho4.below w.heap.size (by omega) (by simp; omega))
      c := hc4
      cv := by omega }
  have HQ := Lib.hid hQ
  have HT := Lib.hid (And.intro hNT hWT)
  have HPL := Lib.hid hPl
  obtain ⟨c0, c1, c2, c3, c4⟩ := hQ.va
  clear hQ hz0 hPl hOP ho4 hc4 hpd hbv hos hl1 hWT hNT hOT ho hc2 hc hz1 hsz hs1 hb hC2 hC
  generalize w2.heap.size = Va at *
  go_wp2_with fail
  go_region_law ((go_simp; go_at_call 89; refine (leaf_q (HQ.out.keep (Only.refl _ w4).drew HQ.out.c.drew)).mono ?_; rintro e w6 ⟨U, rfl, HU⟩; obtain ⟨e0, e1, e2, e3, e4⟩ := HU.out.1.va; obtain ⟨q0, q1, q2, q3, q4, qf⟩ := HU.out.1.z1.cells; obtain ⟨r0, r1, r2, r3, r4, rf⟩ := HU.out.1.z2.cells; dsimp only))
  all_goals
    go_wp2
    refine bodyPost_ret (v := .tuple #[.agg #[.int .i64 T.k, .int .i64 T.n, .int .i64 T.x, .string ⟨T.s.toArray⟩, .slice T.a T.l.length T.cap], .slice P.a P.l.length P.cap, .agg #[.int .i64 U.k, .int .i64 U.n, .int .i64 U.x, .string ⟨U.s.toArray⟩, .slice U.a U.l.length U.cap]]) (by simp [results, Try.results42, go_sem, q0, q1, q2, q3, q4, r0, r1, r2, r3, r4]) rfl ?_
    exact put_out HU.out.1 HT.out HPL.out HU.out.2 _ _ _ _ _ _ _ _ _ _
end Go.Proofs.Ytdjnkcoepmackaa
/- What is put at a path stands there; what stood there put back gives the tree again; counts. Plain. -/
namespace Go.Proofs.Ytdjnkcoepmackaa
open Go.RowKit
theorem cntL_set : ∀ (l : List PT) (j : Nat) (z v : PT), l[j]? = some v → PT.cntL (l.set j z) + v.cnt = PT.cntL l + z.cnt
  | [], _, _, _, h => by simp at h
  | t :: l, 0, z, v, h => by simp at h; subst h; simp only [List.set_cons_zero, PT.cntL]; omega
  | t :: l, j + 1, z, v, h => by
    have := cntL_set l j z v (by simpa using h)
    simp only [List.set_cons_succ, PT.cntL]; omega
theorem set_back : ∀ (l : List PT) (j : Nat) (z v : PT), l[j]? = some v → (l.set j z).set j v = l
  | [], _, _, _, h => by simp at h
  | t :: l, 0, z, v, h => by simp at h; subst h; rfl
  | t :: l, j + 1, z, v, h => by
    have := set_back l j z v (by simpa using h)
    simp only [List.set_cons_succ, this]
theorem put_back : ∀ (p : List St) {t x y : PT}, PT.putO p t x = some y → ∃ u, PT.at' p t = some u ∧ PT.at' p y = some x ∧ PT.putO p y u = some t ∧ y.cnt + u.cnt = t.cnt + x.cnt
  | [], t, x, y, h => by injection h with h; subst h; exact ⟨t, rfl, rfl, rfl, by omega⟩
  | s :: p, t, x, y, h => by
    obtain ⟨j, hj, h1⟩ := Option.bind_eq_some_iff.1 h
    obtain ⟨v, hv, h2⟩ := Option.bind_eq_some_iff.1 h1
    obtain ⟨z, hz, rfl⟩ := Option.map_eq_some_iff.1 h2
    obtain ⟨u, e1, e2, e3, e4⟩ := put_back p hz
    obtain ⟨k, n, a, b, l⟩ := t
    have hj' : plc k l.length s = some j := hj
    have hv' : l[j]? = some v := hv
    have hlt : j < l.length := by
      rcases Nat.lt_or_ge j l.length with h | h
      · exact h
      · rw [List.getElem?_eq_none h] at hv'; cases hv'
    have hz' : (l.set j z)[j]? = some z := by simp [hlt]
    refine ⟨u, ?_, ?_, ?_, ?_⟩
    · simp only [PT.at', PT.step, PT.k, PT.l, hj', Option.bind_some, hv']; exact e1
    · simp only [PT.setL, PT.at', PT.step, PT.k, PT.l, List.length_set, hj', Option.bind_some, hz']; exact e2
    · simp only [PT.setL, PT.putO, PT.k, PT.l, List.length_set, hj', Option.bind_some, hz', e3, Option.map_some, set_back l j z v hv']
    · have := cntL_set l j z v hv'
      simp only [PT.setL, PT.cnt]; omega
theorem put_none : ∀ (p : List St) {t x : PT}, PT.putO p t x = none → PT.at' p t = none
  | [], t, x, h => by cases h
  | s :: p, t, x, h => by
    cases hj : plc t.k t.l.length s with
    | none => simp only [PT.at', PT.step, hj]; rfl
    | some j =>
      cases hv : t.l[j]? with
      | none => simp only [PT.at', PT.step, hj, Option.bind_some, hv]; rfl
      | some v =>
        have h1 : (PT.putO p v x).map (fun y => t.setL j y) = none := by
          have := h
          simp only [PT.putO, hj, Option.bind_some, hv] at this
          exact this
        have h2 : PT.putO p v x = none := by cases hh : PT.putO p v x with
          | none => rfl
          | some z => rw [hh] at h1; cases h1
        simp only [PT.at', PT.step, hj, Option.bind_some, hv]
        exact put_none p h2
/-- a tree of one's own in its box -/
def Bx (W : World) (b : Nat) (T : AT) : Prop := VC W b T.k T.n T.x ⟨T.s.toArray⟩ T.a T.l.length T.cap ∧ T.Own W 0
theorem Bx.step {W W' : World} {b : Nat} {T : AT} (h : Bx W b T) (hb : Below W.heap.size W W') : Bx W' b T := ⟨h.1.blw hb, h.2.blw hb⟩
theorem Bx.lt {W : World} {b : Nat} {T : AT} (h : Bx W b T) : b < W.heap.size := cell_lt h.1.c0
theorem Bx.new {W : World} {T : AT} {K : Nat} {t : TypeId} (h : T.Own W K) : Bx (W.alloc (.cells #[.int .i64 T.k, .int .i64 T.n, .int .i64 T.x, .string ⟨T.s.toArray⟩, .slice T.a T.l.length T.cap] t)) W.heap.size T :=
  ⟨⟨by simp [go_sem], by simp [go_sem], by simp [go_sem], by simp [go_sem], by simp [go_sem]⟩, (h.base (Nat.zero_le _)).blw (vbox W _)⟩
theorem Bx.in {W : World} {b : Nat} {T : AT} (h : Bx W b T) : T.In W W.heap.size := h.2.in
end Go.Proofs.Ytdjnkcoepmackaa
/- sameVal of the laws: two trees are the same. -/
namespace Go.Proofs.Ytdjnkcoepmackaa
open Go.RowKit
set_option maxRecDepth 100000
set_option maxHeartbeats 4000000 in
set_option maxRecDepth 100000 in
theorem same_law (T : AT) : T.pt.Wf → ∀ (U : AT) (w : World) (N : Nat), U.pt.Wf → T.In w N → U.In w N → N ≤ w.heap.size → Calls Try.prog 31 #[T.val, U.val] w fun e w' => e = .returned (.bool (T.pt.same U.pt)) ∧ Below w.heap.size w w' := by
  induction T using AT.ind with
  | h k n x s a cap l ih =>
    intro hwf U w N hwf2 hin hin2 hN
    obtain ⟨k2, n2, x2, s2, b, cap2, m⟩ := U
    have hll : l.length ≤ 9223372036854775807 := by
      cases hwf with
      | mk hk hn hx hs hl sub => rw [AT.ptL_length] at hl; exact hl
    have hml : m.length ≤ 9223372036854775807 := by
      cases hwf2 with
      | mk hk hn hx hs hl sub => rw [AT.ptL_length] at hl; exact hl
    have hc := fun (t : AT) (ht : t ∈ l) (u : AT) (hu : u ∈ m) (w1 : World) (hb : Below w.heap.size w w1) => ih t ht (hwf.sub' t.pt (by rw [AT.ptL_eq]; exact List.mem_map_of_mem ht)) u w1 N (hwf2.sub' u.pt (by rw [AT.ptL_eq]; exact List.mem_map_of_mem hu)) ((hin.lv.sub t ht).blw hb hN) ((hin2.lv.sub u hu).blw hb hN) (Nat.le_trans hN hb.size)
    have H := Lib.hid hin.lv
    have H2 := Lib.hid hin2.lv
    have HC := Lib.hid hc
    have hsame : ∀ B, (AT.mk k n x s a cap l).pt.same (AT.mk k2 n2 x2 s2 b cap2 m).pt = B ↔ ((k == k2 && n == n2 && x == x2 && s == s2 && l.length == m.length) && PT.sameL (AT.ptL l) (AT.ptL m)) = B := fun B => by rw [ptsame_eq]; rfl
    have HS := Lib.hid hsame
    clear hc ih hin hin2 hwf hwf2 hsame
    show Calls Try.prog 31 #[.agg #[.int .i64 k, .int .i64 n, .int .i64 x, .string ⟨s.toArray⟩, .slice a l.length cap], .agg #[.int .i64 k2, .int .i64 n2, .int .i64 x2, .string ⟨s2.toArray⟩, .slice b m.length cap2]] w _
    by_cases hf : k = k2 ∧ n = n2 ∧ x = x2 ∧ s = s2 ∧ l.length = m.length
    · obtain ⟨rfl, rfl, rfl, rfl, hlen⟩ := hf
      have HS2 : Hid (∀ B, PT.sameL (AT.ptL l) (AT.ptL m) = B → (AT.mk k n x s a cap l).pt.same (AT.mk k n x s b cap2 m).pt = B) := Lib.hid (fun B h => (HS.out B).2 (by simp [hlen, h]))
      have HL := Lib.hid hlen
      rw [← hlen]
      clear hlen HS
      go_enter Try.func31, Try.ntmps31
      go_wp2
      go_loopw [5] (fun i wr => ∃ i' : Nat, i = .int .i64 i' ∧ i' ≤ l.length ∧ PT.sameL ((AT.ptL l).take i') ((AT.ptL m).take i') = true ∧ Below (w.heap.size + 1 + 1) ((w.alloc (.cells #[.int .i64 k, .int .i64 n, .int .i64 x, .string ⟨s.toArray⟩, .slice a l.length cap] 28)).alloc (.cells #[.int .i64 k, .int .i64 n, .int .i64 x, .string ⟨s.toArray⟩, .slice b l.length cap2] 28)) wr) (fun i _ => l.length - (intOf i).toNat)
      case atStart => exact ⟨0, rfl, Nat.zero_le _, by simp [PT.sameL], Below.refl _ _⟩
      case round =>
        obtain ⟨i', rfl, hi', hsm, hb⟩ := hrel
        obtain ⟨f4, g4⟩ := box55 w k n x k n x _ _ a b _ _ cap cap2 28 hb
        have hBw : Below w.heap.size w wr := (two' _ _ _).trans (hb.mono (by omega))
        have HSM := Lib.hid hsm
        have HB := Lib.hid hb
        clear hsm hb
        by_cases hlt : i' < l.length
        · obtain ⟨c, o, rfl, hcN, hC⟩ := H.out.cell i' hlt
          have hlt2 : i' < m.length := by rw [← HL.out]; exact hlt
          obtain ⟨c2, o2, rfl, hcN2, hC2⟩ := H2.out.cell i' hlt2
          have hC := hC.keep (hBw.block c (by omega))
          have hC2 := hC2.keep (hBw.block c2 (by omega))
          have hc := fun (w1 : World) (hb1 : Below wr.heap.size wr w1) => HC.out l[i'] (List.getElem_mem hlt) m[i'] (List.getElem_mem hlt2) w1 (hBw.trans (hb1.mono hBw.size))
          have HCC := Lib.hid hc
          have e1 : i' < (AT.ptL l).length := by rw [AT.ptL_length]; exact hlt
          have e2 : i' < (AT.ptL m).length := by rw [AT.ptL_length]; exact hlt2
          have hst := sameL_split (AT.ptL l) (AT.ptL m) i' e1 e2
          have hst2 := sameL_false (AT.ptL l) (AT.ptL m) i' e1 e2
          rw [ptL_get l i' hlt, ptL_get m i' hlt2] at hst hst2
          obtain ⟨V, hV⟩ : ∃ V, V = l[i'] := ⟨_, rfl⟩
          obtain ⟨V2, hV2⟩ : ∃ V2, V2 = m[i'] := ⟨_, rfl⟩
          rw [← hV] at hC HCC hst hst2
          rw [← hV2] at hC2 HCC hst hst2
          have HST := Lib.hid hst
          have HST2 := Lib.hid hst2
          obtain ⟨c0, c1, c2, c3, c4⟩ := hC
          obtain ⟨d0, d1, d2, d3, d4⟩ := hC2
          have HBw := Lib.hid hBw
          have hi0 : (0 : Int) ≤ i' := by omega
          have hi1 : (i' : Int) < l.length := by omega
          clear hV hV2 hst hst2 hc e1 e2 hBw
          go_wp2_with fail
          go_still_tail 10, (by kernel_rfl)
          go_wp2_with fail
          refine (HCC.out _ ((Below.refl _ _).drew)).mono ?_
          rintro e w2 ⟨rfl, hb2⟩
          have HB2 := Lib.hid (Below.trans ((Below.refl wr.heap.size wr).drew) hb2)
          have hz := HBw.out.size
          clear hb2
          cases hv : V.pt.same V2.pt
          · have HV := Lib.hid hv
            clear hv
            go_wp2
            go_ret
            exact ⟨by rw [HS2.out false (HST2.out HV.out)]; rfl, HBw.out.trans (HB2.out.mono hz)⟩
          · have HV := Lib.hid hv
            clear hv
            go_wp2
            go_roundw
            case rel => exact ⟨i' + 1, by go_num, by omega, by rw [HST.out, HSM.out, HV.out]; rfl, HB.out.trans (HB2.out.mono (by have := HB.out.size; simp at this; omega))⟩
            case measure => simp [intOf]; omega
        · have hi2 : i' = l.length := by omega
          subst hi2
          have HBw := Lib.hid hBw
          clear hBw
          have HT : Hid (PT.sameL (AT.ptL l) (AT.ptL m) = true) := Lib.hid (by
            have := HSM.out
            rw [List.take_of_length_le (by simp), List.take_of_length_le (by simp [HL.out])] at this
            exact this)
          go_wp2
          go_ret
          exact ⟨by rw [HS2.out true HT.out]; rfl, HBw.out⟩
    · have hfalse : (k == k2 && n == n2 && x == x2 && s == s2 && l.length == m.length) = false := by
        rw [Bool.eq_false_iff]
        intro h
        simp only [Bool.and_eq_true, beq_iff_eq] at h
        exact hf ⟨h.1.1.1.1, h.1.1.1.2, h.1.1.2, h.1.2, h.2⟩
      have HR : Hid ((AT.mk k n x s a cap l).pt.same (AT.mk k2 n2 x2 s2 b cap2 m).pt = false) := Lib.hid ((HS.out false).2 (by rw [hfalse]; rfl))
      clear hfalse HS H H2 HC
      rcases hd_cases hf with h0 | ⟨rfl, h1⟩ | ⟨rfl, rfl, h2⟩ | ⟨rfl, rfl, rfl, h3, h4⟩ | ⟨rfl, rfl, rfl, rfl, h5, h6⟩
      all_goals clear hf
      all_goals
        go_enter Try.func31, Try.ntmps31
        go_wp2
        go_ret
        exact ⟨by rw [HR.out]; rfl, two' _ _ _⟩
--.
end Go.Proofs.Ytdjnkcoepmackaa
