import Derived.Test.YtdjnkcoepmackaaG10
import Derived.Test.YtdjnkcoepmackaaG7
import Derived.Test.YtdjnkcoepmackaaG3
import Derived.Test.YtdjnkcoepmackaaG1
import Derived.Test.YtdjnkcoepmackaaG0
import Derived.Lib.Hide
import Derived.ProofKit
import Derived.Laws.Cover1
/- DrawLessVal: two trees out of the code. -/
namespace Go.Proofs.Ytdjnkcoepmackaa
open Go.RowKit
set_option maxRecDepth 100000
/-- two trees drawn, the second in its box Vb -/
structure P2 (w W : World) (Va Vb : Nat) (T : AT) (k n x : Int) (s : List UInt8) (a : Option Addr) (cap : Nat) (l : List AT) : Prop where
  va : VC W Va T.k T.n T.x ⟨T.s.toArray⟩ T.a T.l.length T.cap
  vb : VC W Vb k n x ⟨s.toArray⟩ a l.length cap
  bf : ∀ o, W.frozen? ⟨Vb, o, none⟩ = false
  tO : T.Own W (w.heap.size + 3)
  tN : T.blks.Nodup
  tlt : ∀ k ∈ T.blks, k < Va
  own : OwnL W (Va + 1) a cap l
  nd : ((a.map (·.block)).toList ++ AT.blksL l).Nodup
  nv : Vb ∉ (a.map (·.block)).toList ++ AT.blksL l
  z1 : ZB W w.heap.size
  z2 : ZB W (w.heap.size + 1)
  bel : Below w.heap.size w W
  c : Cur W (w.heap.size + 2)
  cv : w.heap.size + 2 < Va
  vv : Va < Vb
theorem P2.keep {w W W' : World} {Va Vb : Nat} {T : AT} {k n x : Int} {s : List UInt8} {a : Option Addr} {cap : Nat} {l : List AT} (h : P2 w W Va Vb T k n x s a cap l) (ho : Only (w.heap.size + 2) W W') (hc : Cur W' (w.heap.size + 2)) : P2 w W' Va Vb T k n x s a cap l := by
  have h1 := h.cv
  have h2 := h.vv
  have hT : AT.Own W (Va + 1) (.mk 0 0 0 [] a cap l) := h.own.own
  have ea := ho.block Va (vc_lt h.va) (by omega)
  have eb := ho.block Vb (vc_lt h.vb) (by omega)
  exact { h with
    va := h.va.eqb ea
    vb := h.vb.eqb eb
    bf := fun o => by rw [frozen_blk' eb]; exact h.bf o
    tO := h.tO.only ho (fun hk => by have := (h.tO.lt _ hk).1; omega)
    own := (hT.only ho (fun hk => by have := (hT.lt _ hk).1; omega)).l
    z1 := h.z1.only ho (by omega)
    z2 := h.z2.only ho (by omega)
    bel := h.bel.trans (ho.below w.heap.size (by omega) h.bel.size)
    c := hc }
def TreePair (N : Nat) (w : World) (e : Ending) (w' : World) : Prop := ∃ T U : AT, e = .returned (.tuple #[.agg #[.int .i64 T.k, .int .i64 T.n, .int .i64 T.x, .string ⟨T.s.toArray⟩, .slice T.a T.l.length T.cap], .agg #[.int .i64 U.k, .int .i64 U.n, .int .i64 U.x, .string ⟨U.s.toArray⟩, .slice U.a U.l.length U.cap]]) ∧ (T.Own w' (w.heap.size + 2) ∧ U.Own w' (w.heap.size + 2)) ∧ (T.blks.Nodup ∧ U.blks.Nodup) ∧ ((T.pt.Wf ∧ T.pt.sz ≤ N) ∧ U.pt.Wf ∧ U.pt.sz ≤ N) ∧ Below w.heap.size w w'
def put10 (W : World) (g : Nat) (u0 u1 u2 u3 u4 v0 v1 v2 v3 v4 : Value) : World := (((((((((W.setCell ⟨g, 0, none⟩ u0).setCell ⟨g, 1, none⟩ u1).setCell ⟨g, 2, none⟩ u2).setCell ⟨g, 3, none⟩ u3).setCell ⟨g, 4, none⟩ u4).setCell ⟨g + 1, 0, none⟩ v0).setCell ⟨g + 1, 1, none⟩ v1).setCell ⟨g + 1, 2, none⟩ v2).setCell ⟨g + 1, 3, none⟩ v3).setCell ⟨g + 1, 4, none⟩ v4
theorem AT.Own.put10 {W : World} {g : Nat} {T : AT} (h : T.Own W (g + 2)) (u0 u1 u2 u3 u4 v0 v1 v2 v3 v4 : Value) : T.Own (put10 W g u0 u1 u2 u3 u4 v0 v1 v2 v3 v4) (g + 2) :=
  ((((((((((h.set (by omega)).set (by omega)).set (by omega)).set (by omega)).set (by omega)).set (by omega)).set (by omega)).set (by omega)).set (by omega)).set (by omega))
theorem pair_out {w W : World} {N : Nat} {T U : AT} (hT : T.Own W (w.heap.size + 2)) (hU : U.Own W (w.heap.size + 2)) (hN : T.blks.Nodup ∧ U.blks.Nodup) (hW : (T.pt.Wf ∧ T.pt.sz ≤ N) ∧ U.pt.Wf ∧ U.pt.sz ≤ N) (hB : Below w.heap.size w W) (u0 u1 u2 u3 u4 v0 v1 v2 v3 v4 : Value) :
    TreePair N w (.returned (.tuple #[.agg #[.int .i64 T.k, .int .i64 T.n, .int .i64 T.x, .string ⟨T.s.toArray⟩, .slice T.a T.l.length T.cap], .agg #[.int .i64 U.k, .int .i64 U.n, .int .i64 U.x, .string ⟨U.s.toArray⟩, .slice U.a U.l.length U.cap]])) (put10 W w.heap.size u0 u1 u2 u3 u4 v0 v1 v2 v3 v4) :=
  ⟨T, U, rfl, ⟨hT.put10 _ _ _ _ _ _ _ _ _ _, hU.put10 _ _ _ _ _ _ _ _ _ _⟩, hN, hW, by
    unfold put10
    refine bset (bset (bset (bset (bset (bset (bset (bset (bset (bset hB ?_) ?_) ?_) ?_) ?_) ?_) ?_) ?_) ?_) ?_ <;> omega⟩
theorem wrap_int (z : Int) : isInt (IntKind.i64.wrap z) := by
  unfold isInt IntKind.wrap
  simp only [show IntKind.i64.bits = 64 from rfl, show IntKind.i64.signed = true from rfl]
  have h1 := Int.emod_nonneg z (show (2 ^ 64 : Int) ≠ 0 by decide)
  have h2 := Int.emod_lt_of_pos z (show (0 : Int) < 2 ^ 64 by decide)
  split <;> simp_all <;> omega
theorem turn_n {Y : AT} {n : Int} {N : Nat} (hW : Y.pt.Wf) (hs : Y.pt.sz ≤ N) (hn : isInt n) : (AT.mk Y.k n Y.x Y.s Y.a Y.cap Y.l).pt.Wf ∧ (AT.mk Y.k n Y.x Y.s Y.a Y.cap Y.l).pt.sz ≤ N := by
  cases Y with
  | mk k n0 x s a cap l =>
    refine ⟨?_, hs⟩
    cases hW with
    | mk hk _ hx hs hl sub => exact .mk hk hn hx hs hl sub
theorem turn_l {Y T0 : AT} {g : Option Addr} {c N : Nat} (hW : Y.pt.Wf) (hs : Y.pt.sz ≤ N) (hN : N ≤ 1000000) (hT : T0.pt.Wf) (ht : T0.pt.sz ≤ 1000) : (AT.mk Y.k Y.n Y.x Y.s g c (Y.l ++ [T0])).pt.Wf ∧ (AT.mk Y.k Y.n Y.x Y.s g c (Y.l ++ [T0])).pt.sz ≤ N + 1001 := by
  cases Y with
  | mk k n x s a cap l =>
    have hs' : s.length + ((AT.ptL l).length + PT.szL (AT.ptL l)) ≤ N := hs
    have e2 : AT.ptL (l ++ [T0]) = AT.ptL l ++ [T0.pt] := by rw [AT.ptL_eq, AT.ptL_eq, List.map_append, List.map_singleton]
    cases hW with
    | mk hk hn hx hs2 hl sub =>
      refine ⟨.mk hk hn hx hs2 ?_ ?_, ?_⟩
      · show (AT.ptL (l ++ [T0])).length ≤ _
        rw [e2, List.length_append, List.length_singleton]; omega
      · show ∀ t ∈ AT.ptL (l ++ [T0]), t.Wf
        rw [e2]
        intro t ht
        rcases List.mem_append.1 ht with ht | ht
        · exact sub t ht
        · obtain rfl : t = T0.pt := by simpa using ht
          exact hT
      · show s.length + ((AT.ptL (l ++ [T0])).length + PT.szL (AT.ptL (l ++ [T0]))) ≤ _
        rw [e2, szL_snoc, List.length_append, List.length_singleton]; omega
theorem TreePair.drew {N : Nat} {w W : World} {e : Ending} (h : TreePair N w e W) : TreePair N w e W.drew := by
  obtain ⟨T, U, h1, ⟨h2, h3⟩, h4, h5, h6⟩ := h
  exact ⟨T, U, h1, ⟨h2.drew, h3.drew⟩, h4, h5, Below.drew h6⟩
theorem AT.Own.set5 {W : World} {B g : Nat} {T : AT} (h : T.Own W B) (hg : g ∉ T.blks) (u0 u1 u2 u3 u4 : Value) : T.Own (((((W.setCell ⟨g, 0, none⟩ u0).setCell ⟨g, 1, none⟩ u1).setCell ⟨g, 2, none⟩ u2).setCell ⟨g, 3, none⟩ u3).setCell ⟨g, 4, none⟩ u4) B :=
  ((((h.setg' hg).setg' hg).setg' hg).setg' hg).setg' hg
theorem P2.grow {w w6 w7 W : World} {Va Vb gg cap2 : Nat} {T U : AT} {k n x : Int} {s : List UInt8} {a : Option Addr} {cap : Nat} {l : List AT} (h : P2 w w6 Va Vb T k n x s a cap l) (hT : U.Own w6 (Va + 1)) (hN : U.blks.Nodup) (hdis : ∀ k ∈ U.blks, k ∉ (a.map (·.block)).toList ++ AT.blksL l) (hVU : Vb ∉ U.blks) (hbW : Below w6.heap.size w6 W)
    (hown : w7.ownsRow (Va + 1) 28 5 (.slice (some ⟨gg, 0, none⟩) (l.length + 1) cap2) (l.length + 1) (cellsL l ++ U.cells)) (hgrow : W.grownBy w7 (Value.slice a l.length cap).ownBlock) (hat : (Value.slice a l.length cap).ownBlock = some gg ∨ gg = W.heap.size) :
    (VC w7 Vb k n x ⟨s.toArray⟩ a l.length cap ∧ (∀ o, w7.frozen? ⟨Vb, o, none⟩ = false) ∧ Vb < w7.heap.size) ∧ P2 w (w7.setCell ⟨Vb, 4, none⟩ (.slice (some ⟨gg, 0, none⟩) (l.length + 1) cap2)) Va Vb T k n x s (some ⟨gg, 0, none⟩) cap2 (l ++ [U]) := by
  have h1 := h.cv
  have h2 := h.vv
  have hlt := vc_lt h.vb
  obtain ⟨hnew, hnd⟩ := row_push (h.own.blw hbW) h.nd (hT.blw hbW) hN hdis hown hgrow hat
  have hb7 : Below (Va + 1) w6 w7 := below_push hgrow (fun k hk => (h.own.row.lt k hk).1) hbW (by omega)
  have hnv := h.nv
  rw [ownBlock_slice] at hgrow hat
  have hne : ∀ k, a.map (·.block) = some k → Vb ≠ k := fun k hk e => hnv (by rw [hk, e]; simp)
  have e : w7.heap[Vb]? = w6.heap[Vb]? := (hgrow.block Vb (by have := hbW.size; omega) (fun e => hne _ e.symm rfl)).trans (hbW.block Vb hlt)
  have hV7 := h.vb.eqb e
  have bf7 : ∀ o, w7.frozen? ⟨Vb, o, none⟩ = false := fun o => by rw [frozen_blk' e]; exact h.bf o
  have hl7 := vc_lt hV7
  refine ⟨⟨hV7, bf7, hl7⟩, ?_⟩
  have hnvv : Vb ∉ gg :: AT.blksL (l ++ [U]) := by
    rw [AT.blksL_append, AT.blksL_one]
    intro hm
    rcases List.mem_cons.1 hm with hm | hm
    · rcases hat with hat | hat
      · exact hne _ hat hm
      · have := hbW.size; omega
    · rcases List.mem_append.1 hm with hm | hm
      · exact hnv (List.mem_append.2 (.inr hm))
      · exact hVU hm
  obtain ⟨v0, v1, v2, v3, v4⟩ := hV7
  have hT2 : AT.Own w7 (Va + 1) (.mk 0 0 0 [] (some ⟨gg, 0, none⟩) cap2 (l ++ [U])) := hnew.own
  have hlT : ∀ k ∈ T.blks, k < Va := h.tlt
  have z1l := h.z1.lt
  have z2l := h.z2.lt
  have hs7 := hb7.size
  exact {
    va := (h.va.eqb (hb7.block Va (by omega))).eqb (set_other (by omega) (by omega))
    vb := by rw [List.length_append, List.length_singleton]; exact ⟨by simp [go_sem, v0], by simp [go_sem, v1], by simp [go_sem, v2], by simp [go_sem, v3], by simp [go_sem, v4]⟩
    bf := fun o => by simp [go_sem, bf7]
    tO := (h.tO.kept (fun k hk => hb7.block k (by have := hlT k hk; omega))).setg' (fun hk => by have := hlT _ hk; omega)
    tN := h.tN
    tlt := hlT
    own := (hT2.setg' (by simpa [AT.blks] using hnvv)).l
    nd := by simpa using hnd
    nv := by simpa using hnvv
    z1 := (set_other (by omega) (by omega)).trans ((hb7.block _ (by omega)).trans h.z1)
    z2 := (set_other (by omega) (by omega)).trans ((hb7.block _ (by omega)).trans h.z2)
    bel := bset (h.bel.trans (hb7.mono (by omega))) (by omega)
    c := Cur.setNew (h.c.below hb7 (by omega)) (by simp; omega) _
    cv := h1
    vv := h2 }
theorem leaf_p2 {w wr : World} {Va Vb : Nat} {T : AT} {k n x : Int} {s : List UInt8} {a : Option Addr} {cap : Nat} {l : List AT} (h : P2 w wr Va Vb T k n x s a cap l) : Calls Try.prog 89 #[.pointer (some ⟨w.heap.size + 2, 0, none⟩), .int .i64 0] wr fun e w4 => ∃ U : AT, e = .returned (.agg #[.int .i64 U.k, .int .i64 U.n, .int .i64 U.x, .string ⟨U.s.toArray⟩, .slice U.a U.l.length U.cap]) ∧ Hid (P2 w w4 Va Vb T k n x s a cap l ∧ U.Own w4 (Va + 1) ∧ U.blks.Nodup ∧ U.pt.Wf ∧ U.pt.sz ≤ 1000 ∧ (∀ k ∈ U.blks, k ∉ (a.map (·.block)).toList ++ AT.blksL l) ∧ Vb ∉ U.blks) ∧ w4.cell? ⟨Vb, 4, none⟩ = some (.slice a l.length cap) ∧ Vb < w4.heap.size := by
  refine (draw_zero wr _ h.c).mono ?_
  intro e w4 hp
  obtain ⟨U, hr, hOT, hNT, hWT, ho4, hc4⟩ := hp.tree (N := 1000) (Nat.le_refl _)
  have hk := h.keep ho4 hc4
  have hV := vc_lt h.vb
  have hz := h.vv
  exact ⟨U, hr, Lib.hid ⟨hk, hOT.base (by omega), hNT, hWT.1, hWT.2, fun k hk1 hk2 => by
    have h1 := (hOT.lt k hk1).1
    have h2 := (h.own.lt k hk2).2
    omega, fun hk1 => by have := (hOT.lt Vb hk1).1; omega⟩, hk.vb.c4, vc_lt hk.vb⟩
set_option maxHeartbeats 4000000 in
theorem drawless_any (a : Option Addr) (len cap : Nat) (w : World) (hC : CodeAt w a len) (hl : len ≤ 1048576) : Calls Try.prog 20 #[.slice a len cap] w (TreePair 100000 w) := by
  have hC2 := hC.below (boxes2 w (.cells #[.int .i64 0, .int .i64 0, .int .i64 0, .string ⟨#[]⟩, .slice none 0 0] 28) (.cells #[.int .i64 0, .int .i64 0, .int .i64 0, .string ⟨#[]⟩, .slice none 0 0] 28))
  go_enter Try.func20, Try.ntmps20
  go_wp2_with fail
  refine (new_any a len cap _ hC2 hl).mono ?_
  rintro e w1 ⟨rfl, hb, hc, hz1⟩
  have hs1 : ((w.alloc (.cells #[.int .i64 0, .int .i64 0, .int .i64 0, .string ⟨#[]⟩, .slice none 0 0] 28)).alloc (.cells #[.int .i64 0, .int .i64 0, .int .i64 0, .string ⟨#[]⟩, .slice none 0 0] 28)).heap.size = w.heap.size + 2 := by simp
  have hsz := hb.size
  rw [hs1] at hc hsz
  go_wp2_with fail
  refine (any_val w1 (w.heap.size + 2) hc).mono ?_
  rintro e w2 ⟨T, hr, hOT, hNT, hWT, ho, hc2⟩
  change e = .returned (.agg #[.int .i64 T.k, .int .i64 T.n, .int .i64 T.x, .string ⟨T.s.toArray⟩, .slice T.a T.l.length T.cap]) at hr
  subst hr
  have hcp := fun (W : World) (hb : Below w2.heap.size w2 W) => l6Copy_any T (by have := hWT.2; omega) W w2.heap.size (hOT.in.blw hb (Nat.le_refl _)) hb.size
  go_wp2_with fail
  refine (hcp _ (vbox w2 _)).mono ?_
  rintro e w3 ⟨Y, hY, rfl, hOY, hNY, hb3⟩
  go_wp2_with fail
  have hz0 := ZB.new w
  have hP : P2 w (w3.alloc (.cells #[.int .i64 Y.k, .int .i64 Y.n, .int .i64 Y.x, .string ⟨Y.s.toArray⟩, .slice Y.a Y.l.length Y.cap] 28)) w2.heap.size w3.heap.size T Y.k Y.n Y.x Y.s Y.a Y.cap Y.l := by
    have hbv := vbox w3 (.cells #[.int .i64 Y.k, .int .i64 Y.n, .int .i64 Y.x, .string ⟨Y.s.toArray⟩, .slice Y.a Y.l.length Y.cap] 28)
    have hba := vbox w2 (.cells #[.int .i64 T.k, .int .i64 T.n, .int .i64 T.x, .string ⟨T.s.toArray⟩, .slice T.a T.l.length T.cap] 28)
    have hb3' : Below (w2.heap.size + 1) (w2.alloc (.cells #[.int .i64 T.k, .int .i64 T.n, .int .i64 T.x, .string ⟨T.s.toArray⟩, .slice T.a T.l.length T.cap] 28)) w3 := by simpa using hb3
    have hs3 := hb3'.size
    simp at hs3
    have hos := ho.size
    have hA0 : VC (w2.alloc (.cells #[.int .i64 T.k, .int .i64 T.n, .int .i64 T.x, .string ⟨T.s.toArray⟩, .slice T.a T.l.length T.cap] 28)) w2.heap.size T.k T.n T.x ⟨T.s.toArray⟩ T.a T.l.length T.cap := ⟨by simp [go_sem], by simp [go_sem], by simp [go_sem], by simp [go_sem], by simp [go_sem]⟩
    have hZ1 : ZB w1 w.heap.size := (hz0.blw (vbox _ _)).blw hb
    have hZ2 : ZB w1 (w.heap.size + 1) := by
      have := (ZB.new (w.alloc (.cells #[.int .i64 0, .int .i64 0, .int .i64 0, .string ⟨#[]⟩, .slice none 0 0] 28))).blw hb
      simpa using this
    exact {
      va := (hA0.blw hb3).blw hbv
      vb := ⟨by simp [go_sem], by simp [go_sem], by simp [go_sem], by simp [go_sem], by simp [go_sem]⟩
      bf := fun o => by simp [go_sem]
      tO := (((hOT.blw hba).blw hb3).blw hbv).base (by omega)
      tN := hNT
      tlt := fun k hk => (hOT.lt k hk).2
      own := ((hOY.base (by simp)).blw hbv).l'
      nd := by cases Y; exact hNY
      nv := by
        have : w3.heap.size ∉ Y.blks := fun hk => by have := (hOY.lt _ hk).2; omega
        cases Y; exact this
      z1 := ((((hZ1.only ho (by omega)).blw hba).blw hb3).blw hbv)
      z2 := ((((hZ2.only ho (by omega)).blw hba).blw hb3).blw hbv)
      bel := (((((boxes2 w _ _).trans (hb.mono (by simp; omega))).trans (ho.below w.heap.size (by omega) (by omega))).trans (hba.mono (by omega))).trans (hb3'.mono (by omega))).trans (hbv.mono (by omega))
      c := (((hc2.alloc _).below hb3' (by omega)).alloc _)
      cv := by omega
      vv := by omega }
  have HP := Lib.hid hP
  have HWT := Lib.hid hWT
  have HY := Lib.hid (hY : Y.pt = T.pt)
  clear hP hWT hY hz0 hOT hNT hOY hNY hb3 hcp ho hc2 hc hz1 hsz hs1 hb hC2 hC
  generalize w2.heap.size = Va at *
  generalize w3.heap.size = Vb at *
  refine (below_any _ _ 4 HP.out.c (by decide)).mono ?_
  rintro e w5 ⟨y, ⟨hy0, hy1⟩, rfl, ho5, hc5⟩
  have HA := Lib.hid (HP.out.keep ho5 hc5)
  clear ho5 hc5 HP
  have hyc : y = 0 ∨ y = 1 ∨ y = 2 ∨ y = 3 := by omega
  rcases hyc with rfl | rfl | rfl | rfl
  · go_wp2_with fail
    refine (any_val w5 (w.heap.size + 2) HA.out.c).mono ?_
    rintro e w6 ⟨U, hr, hOU, hNU, hWU, ho6, hc6⟩
    change e = .returned (.agg #[.int .i64 U.k, .int .i64 U.n, .int .i64 U.x, .string ⟨U.s.toArray⟩, .slice U.a U.l.length U.cap]) at hr
    subst hr
    have HB := Lib.hid (HA.out.keep ho6 hc6)
    have HOU := Lib.hid (hOU.base (show w.heap.size + 2 ≤ w5.heap.size by have := vc_lt HA.out.vb; have := HA.out.cv; have := HA.out.vv; omega))
    have HVU : Hid (Vb ∉ U.blks) := Lib.hid (fun hk => by have := (hOU.lt _ hk).1; have := vc_lt HA.out.vb; omega)
    have HNU := Lib.hid hNU
    have HWU := Lib.hid hWU
    clear hOU hNU hWU ho6 hc6 HA
    obtain ⟨c0, c1, c2, c3, c4⟩ := HB.out.va
    obtain ⟨d0, d1, d2, d3, d4⟩ := HB.out.vb
    obtain ⟨q0, q1, q2, q3, q4, qf⟩ := HB.out.z1.cells
    obtain ⟨r0, r1, r2, r3, r4, rf⟩ := HB.out.z2.cells
    have bf := HB.out.bf
    have h1 := HB.out.cv
    have h2 := HB.out.vv
    have h3 := vc_lt HB.out.vb
    go_wp2
    go_region
    all_goals
      go_wp2
      refine bodyPost_ret (v := .tuple #[.agg #[.int .i64 T.k, .int .i64 T.n, .int .i64 T.x, .string ⟨T.s.toArray⟩, .slice T.a T.l.length T.cap], .agg #[.int .i64 U.k, .int .i64 U.n, .int .i64 U.x, .string ⟨U.s.toArray⟩, .slice U.a U.l.length U.cap]]) (by simp [results, Try.results20, go_sem, q0, q1, q2, q3, q4, r0, r1, r2, r3, r4]) rfl ?_
      refine (pair_out ((HB.out.tO.base (by omega)).set5 (fun hk => by have := HB.out.tlt _ hk; omega) _ _ _ _ _) (HOU.out.set5 HVU.out _ _ _ _ _) ⟨HB.out.tN, HNU.out⟩ ⟨⟨HWT.out.1, by have := HWT.out.2; omega⟩, HWU.out.1, by have := HWU.out.2; omega⟩ ?_ _ _ _ _ _ _ _ _ _ _).drew
      refine bset (bset (bset (bset (bset HB.out.bel ?_) ?_) ?_) ?_) ?_ <;> omega
  · have hlen : Y.l.length ≤ 1000000 := by
      have h1 := HWT.out.2
      rw [← HY.out] at h1
      cases Y
      simp [AT.pt, PT.sz, AT.ptL_eq] at h1
      simp [AT.l]
      omega
    obtain ⟨d0, d1, d2, d3, d4⟩ := HA.out.vb
    have h1 := HA.out.cv
    have h2 := HA.out.vv
    obtain ⟨i0, hi, hz0, hz1, hz2⟩ := info_parts valInfo
    go_wp2_with fail
    go_region_law ((first
      | (refine step_append_lies _ (by rfl) _ _ _ (by rfl) (Va + 1) 28 i0 _ 5 64 Try.underlying26 hi hz0 hz1 hz2 rfl (by omega) _ Y.l.length _ (by rfl) (own_heap HT0.out.1.own.row (fun k hk => ((vbox w6 _).block k (HT0.out.1.own.row.lt k hk).2))) ⟨w6.heap.size, 0, none⟩ 1 1 T0.cells (by rfl) (by rfl) (news_of_cells w6 T0) (cells_one T0) (by omega) (by unfold maxLen; omega) (by omega) (by simp; omega) (w6.heap.size + 1) (by simp) ?_; intro gg0 cap0 w7 hown hgrow hat hlt5; obtain ⟨⟨⟨e0, e1, e2, e3, e4⟩, f5, l5⟩, hD⟩ := HT0.out.1.grow HT0.out.2.1 HT0.out.2.2.1 HT0.out.2.2.2.2.2.1 HT0.out.2.2.2.2.2.2 (vbox w6 _) hown hgrow (by simpa using hat))
      | (go_simp; go_at_call 89; refine (leaf_p2 (HA.out.keep (Only.refl _ w5).drew HA.out.c.drew)).mono ?_; rintro e w6 ⟨T0, rfl, HT0, g4, hlV0⟩; dsimp only)))
    all_goals
      have HB := Lib.hid hD
      have HU := Lib.hid (And.intro HT0.out.2.2.2.1 HT0.out.2.2.2.2.1)
      clear hD hown hgrow hat hlt5 g4 hlV0 HT0 d0 d1 d2 d3 d4 e0 e1 e2 e3 e4 f5 l5 hi hz0 hz1 hz2 HA h1 h2
      have hlen9 : (Y.l ++ [T0]).length = Y.l.length + 1 := by simp
      generalize (w7.setCell ⟨Vb, 4, none⟩ (.slice (some ⟨gg0, 0, none⟩) (Y.l.length + 1) cap0)) = w8 at *
      obtain ⟨c0, c1, c2, c3, c4⟩ := HB.out.va
      obtain ⟨d0, d1, d2, d3, d4⟩ := HB.out.vb
      obtain ⟨q0, q1, q2, q3, q4, qf⟩ := HB.out.z1.cells
      obtain ⟨r0, r1, r2, r3, r4, rf⟩ := HB.out.z2.cells
      have bf := HB.out.bf
      have h1 := HB.out.cv
      have h2 := HB.out.vv
      have h3 := vc_lt HB.out.vb
      rw [hlen9] at d4
      have HL9 := Lib.hid hlen9
      clear hlen9
      go_wp2
      go_region
      all_goals
        go_wp2
        refine bodyPost_ret (v := .tuple #[.agg #[.int .i64 T.k, .int .i64 T.n, .int .i64 T.x, .string ⟨T.s.toArray⟩, .slice T.a T.l.length T.cap], .agg #[.int .i64 Y.k, .int .i64 Y.n, .int .i64 Y.x, .string ⟨Y.s.toArray⟩, .slice (some ⟨gg0, 0, none⟩) (Y.l.length + 1) cap0]]) (by simp [results, Try.results20, go_sem, q0, q1, q2, q3, q4, r0, r1, r2, r3, r4]) rfl ?_
        have hU9 : AT.Own w8 (w.heap.size + 2) (.mk Y.k Y.n Y.x Y.s (some ⟨gg0, 0, none⟩) cap0 (Y.l ++ [T0])) := (HB.out.own.base (by omega)).own
        have ht9 := turn_l (g := some ⟨gg0, 0, none⟩) (c := cap0) (by rw [HY.out]; exact HWT.out.1 : Y.pt.Wf) (by rw [HY.out]; exact HWT.out.2 : Y.pt.sz ≤ 80000) (by decide) HU.out.1 HU.out.2
        have hf : ∀ u0 u1 u2 u3 u4 v0 v1 v2 v3 v4 : Value, TreePair 100000 w (.returned (.tuple #[.agg #[.int .i64 T.k, .int .i64 T.n, .int .i64 T.x, .string ⟨T.s.toArray⟩, .slice T.a T.l.length T.cap], .agg #[.int .i64 Y.k, .int .i64 Y.n, .int .i64 Y.x, .string ⟨Y.s.toArray⟩, .slice (some ⟨gg0, 0, none⟩) (Y.l ++ [T0]).length cap0]])) (put10 w8 w.heap.size u0 u1 u2 u3 u4 v0 v1 v2 v3 v4) := fun u0 u1 u2 u3 u4 v0 v1 v2 v3 v4 => pair_out (N := 100000) (HB.out.tO.base (by omega)) hU9 ⟨HB.out.tN, HB.out.nd⟩ ⟨⟨HWT.out.1, by have := HWT.out.2; omega⟩, ht9.1, by have := ht9.2; omega⟩ HB.out.bel u0 u1 u2 u3 u4 v0 v1 v2 v3 v4
        simp only [HL9.out] at hf
        exact (hf _ _ _ _ _ _ _ _ _ _).drew
  · have HB := HA
    clear HA
    obtain ⟨n2, hw⟩ : ∃ n2, IntKind.i64.wrap (Y.n + 2) = n2 := ⟨_, rfl⟩
    have HN2 : Hid (isInt n2) := Lib.hid (by rw [← hw]; exact wrap_int _)
    obtain ⟨c0, c1, c2, c3, c4⟩ := HB.out.va
    obtain ⟨d0, d1, d2, d3, d4⟩ := HB.out.vb
    obtain ⟨q0, q1, q2, q3, q4, qf⟩ := HB.out.z1.cells
    obtain ⟨r0, r1, r2, r3, r4, rf⟩ := HB.out.z2.cells
    have bf := HB.out.bf
    have h1 := HB.out.cv
    have h2 := HB.out.vv
    have h3 := vc_lt HB.out.vb
    go_wp2
    go_region
    all_goals
      go_wp2
      refine bodyPost_ret (v := .tuple #[.agg #[.int .i64 T.k, .int .i64 T.n, .int .i64 T.x, .string ⟨T.s.toArray⟩, .slice T.a T.l.length T.cap], .agg #[.int .i64 Y.k, .int .i64 n2, .int .i64 Y.x, .string ⟨Y.s.toArray⟩, .slice Y.a Y.l.length Y.cap]]) (by simp [results, Try.results20, go_sem, q0, q1, q2, q3, q4, r0, r1, r2, r3, r4]) rfl ?_
      have ht9 := turn_n (n := n2) (by rw [HY.out]; exact HWT.out.1 : Y.pt.Wf) (by rw [HY.out]; exact HWT.out.2 : Y.pt.sz ≤ 80000) HN2.out
      have hU9 : AT.Own w5 (Va + 1) (.mk Y.k n2 Y.x Y.s Y.a Y.cap Y.l) := HB.out.own.own
      have hU8 := (hU9.setg' (g := Vb) (o := 1) (u := .int .i64 n2) HB.out.nv).base (show w.heap.size + 2 ≤ Va + 1 by omega)
      have hT8 := (HB.out.tO.setg' (g := Vb) (o := 1) (u := .int .i64 n2) (fun hk => by have := HB.out.tlt _ hk; omega)).base (show w.heap.size + 2 ≤ w.heap.size + 3 by omega)
      exact (pair_out (N := 100000) hT8 hU8 ⟨HB.out.tN, HB.out.nd⟩ ⟨⟨HWT.out.1, by have := HWT.out.2; omega⟩, ht9.1, by have := ht9.2; omega⟩ (bset HB.out.bel (by omega)) _ _ _ _ _ _ _ _ _ _).drew
  · have HB := HA
    clear HA
    obtain ⟨c0, c1, c2, c3, c4⟩ := HB.out.va
    obtain ⟨d0, d1, d2, d3, d4⟩ := HB.out.vb
    obtain ⟨q0, q1, q2, q3, q4, qf⟩ := HB.out.z1.cells
    obtain ⟨r0, r1, r2, r3, r4, rf⟩ := HB.out.z2.cells
    have bf := HB.out.bf
    have h1 := HB.out.cv
    have h2 := HB.out.vv
    have h3 := vc_lt HB.out.vb
    go_wp2
    go_region
    all_goals
      go_wp2
      refine bodyPost_ret (v := .tuple #[.agg #[.int .i64 T.k, .int .i64 T.n, .int .i64 T.x, .string ⟨T.s.toArray⟩, .slice T.a T.l.length T.cap], .agg #[.int .i64 Y.k, .int .i64 Y.n, .int .i64 Y.x, .string ⟨Y.s.toArray⟩, .slice Y.a Y.l.length Y.cap]]) (by simp [results, Try.results20, go_sem, q0, q1, q2, q3, q4, r0, r1, r2, r3, r4]) rfl ?_
      exact (pair_out (U := Y) (HB.out.tO.base (by omega)) (by
        have := HB.out.own.base (B' := w.heap.size + 2) (by omega)
        cases Y; exact this.own) ⟨HB.out.tN, by cases Y; exact HB.out.nd⟩ ⟨⟨HWT.out.1, by have := HWT.out.2; omega⟩, by rw [HY.out]; exact HWT.out.1, by rw [HY.out]; have := HWT.out.2; omega⟩ HB.out.bel _ _ _ _ _ _ _ _ _ _).drew
end Go.Proofs.Ytdjnkcoepmackaa
/- When two trees are the same (plain), and two stacks. -/
namespace Go.Proofs.Ytdjnkcoepmackaa
mutual
def PT.same : PT → PT → Bool
  | .mk k n x s l, .mk k' n' x' s' l' => (k == k' && n == n' && x == x' && s == s' && l.length == l'.length) && PT.sameL l l'
def PT.sameL : List PT → List PT → Bool
  | t :: l, u :: m => t.same u && PT.sameL l m
  | _, _ => true
end
/-- the fields, and the number of elements -/
def AT.hd (t u : AT) : Bool := t.k == u.k && t.n == u.n && t.x == u.x && t.s == u.s && t.l.length == u.l.length
theorem ptsame_eq (t u : AT) : t.pt.same u.pt = (t.hd u && PT.sameL (AT.ptL t.l) (AT.ptL u.l)) := by
  cases t; cases u
  simp [AT.pt, PT.same, AT.hd, AT.k, AT.n, AT.x, AT.s, AT.l]
theorem ptsame_refl (t : PT) : t.same t = true := by
  induction t using PT.ind with
  | h k n x s l ih =>
    have : PT.sameL l l = true := by
      induction l with
      | nil => rfl
      | cons t l ihl => simp only [PT.sameL, ih t (by simp), ihl (fun u hu => ih u (by simp [hu])), Bool.and_self]
    simp [PT.same, this]
theorem ptsame_true {t u : PT} (h : t.same u = true) : t = u := by
  induction t using PT.ind generalizing u with
  | h k n x s l ih =>
    obtain ⟨k', n', x', s', m⟩ := u
    simp only [PT.same, Bool.and_eq_true, beq_iff_eq] at h
    obtain ⟨⟨⟨⟨⟨rfl, rfl⟩, rfl⟩, rfl⟩, hl⟩, hs⟩ := h
    have : l = m := by
      induction l generalizing m with
      | nil => cases m with
        | nil => rfl
        | cons u m => simp at hl
      | cons t l ihl =>
        cases m with
        | nil => simp at hl
        | cons u m =>
          simp only [PT.sameL, Bool.and_eq_true] at hs
          rw [ih t (by simp) hs.1, ihl (fun u hu => ih u (by simp [hu])) m hs.2 (by simpa using hl)]
    rw [this]
theorem ptsame_iff {t u : PT} : t.same u = true ↔ t = u := ⟨ptsame_true, fun h => h ▸ ptsame_refl _⟩
/-- two lists of trees of one length: the first i pairs, the pair i -/
theorem sameL_split (l m : List PT) (i : Nat) (h1 : i < l.length) (h2 : i < m.length) : PT.sameL (l.take (i + 1)) (m.take (i + 1)) = (PT.sameL (l.take i) (m.take i) && (l[i]).same m[i]) := by
  induction l generalizing m i with
  | nil => simp at h1
  | cons t l ih =>
    cases m with
    | nil => simp at h2
    | cons u m =>
      cases i with
      | zero => simp [PT.sameL]
      | succ i =>
        simp only [List.take_succ_cons, PT.sameL, List.getElem_cons_succ]
        rw [ih m i (by simpa using h1) (by simpa using h2), Bool.and_assoc]
theorem sameL_false (l m : List PT) (i : Nat) (h1 : i < l.length) (h2 : i < m.length) (h : (l[i]).same m[i] = false) : PT.sameL l m = false := by
  induction l generalizing m i with
  | nil => simp at h1
  | cons t l ih =>
    cases m with
    | nil => simp at h2
    | cons u m =>
      cases i with
      | zero => simp at h; simp [PT.sameL, h]
      | succ i => simp only [PT.sameL]; rw [ih m i (by simpa using h1) (by simpa using h2) (by simpa using h), Bool.and_false]
end Go.Proofs.Ytdjnkcoepmackaa
/- The order of trees (plain): what a comparison returns, by kind, numbers, bytes, elements. -/
namespace Go.Proofs.Ytdjnkcoepmackaa
open Go.RowKit
def cmpI (a b : Int) : Int := if a < b then -1 else if b < a then 1 else 0
def cmpS (s t : List UInt8) : Int := if Op.bytesLess s t then -1 else if s = t then 0 else 1
def orI (a b : Int) : Int := if a = 0 then b else a
def byV (l r : Bool) : Int := if l then -1 else if r then 1 else 0
def plainV (_k n x m y : Int) : Int := orI (cmpI n m) (cmpI x y)
def numV (k n x m y : Int) : Int :=
  if (k == 4 && fltOk n x && fltOk m y) = true then byV (lessF n x m y) (lessF m y n x)
  else if (k == 6 && decOk n x && decOk m y) = true then byV (lessB n x m y) (lessB m y n x) else plainV k n x m y
/-- a way to compare two values' numbers, of one kind -/
abbrev Num := Int → Int → Int → Int → Int → Int
def hdV (f : Num) (k n x : Int) (s : List UInt8) (k' n' x' : Int) (s' : List UInt8) : Int := orI (cmpI k k') (orI (f k n x n' x') (cmpS s s'))
mutual
def PT.cmp (f : Num) : PT → PT → Int
  | .mk k n x s l, .mk k' n' x' s' l' => orI (hdV f k n x s k' n' x' s') (PT.cmpL f l l')
def PT.cmpL (f : Num) : List PT → List PT → Int
  | [], [] => 0
  | [], _ :: _ => -1
  | _ :: _, [] => 1
  | t :: l, u :: m => orI (t.cmp f u) (PT.cmpL f l m)
end
/-- -1, 0 or 1 -/
def Sgn (a : Int) : Prop := a = -1 ∨ a = 0 ∨ a = 1
theorem orI_zero (b : Int) : orI 0 b = b := rfl
theorem orI_ne {a : Int} (h : a ≠ 0) (b : Int) : orI a b = a := if_neg h
theorem sgn_cmpI (a b : Int) : Sgn (cmpI a b) := by unfold cmpI Sgn; split <;> (try split) <;> omega
theorem sgn_cmpS (a b : List UInt8) : Sgn (cmpS a b) := by unfold cmpS Sgn; split <;> (try split) <;> omega
theorem sgn_or {a b : Int} (h : Sgn a) (k : Sgn b) : Sgn (orI a b) := by unfold orI; split <;> assumption
theorem sgn_byV (l r : Bool) : Sgn (byV l r) := by cases l <;> cases r <;> simp [byV, Sgn]
theorem sgn_plain (k n x m y : Int) : Sgn (plainV k n x m y) := sgn_or (sgn_cmpI _ _) (sgn_cmpI _ _)
theorem sgn_num (k n x m y : Int) : Sgn (numV k n x m y) := by
  unfold numV; split
  · exact sgn_byV _ _
  · split
    · exact sgn_byV _ _
    · exact sgn_plain _ _ _ _ _
theorem cmpI_zero {a b : Int} : cmpI a b = 0 ↔ a = b := by unfold cmpI; split <;> (try split) <;> omega
theorem cmpI_anti (a b : Int) : cmpI b a = -cmpI a b := by unfold cmpI; repeat' split <;> omega
theorem cmpI_neg {a b : Int} : cmpI a b < 0 ↔ a < b := by unfold cmpI; split <;> (try split) <;> omega
theorem or_zero {a b : Int} : orI a b = 0 ↔ a = 0 ∧ b = 0 := by unfold orI; split <;> omega
theorem or_neg {a b : Int} : orI a b < 0 ↔ a < 0 ∨ (a = 0 ∧ b < 0) := by unfold orI; split <;> omega
theorem or_anti {a b a' b' : Int} (h : a' = -a) (k : a = 0 → b' = -b) : orI a' b' = -orI a b := by
  unfold orI
  by_cases h0 : a = 0
  · rw [if_pos (by omega), if_pos h0]; exact k h0
  · rw [if_neg (by omega), if_neg h0]; exact h
theorem bl_irrefl (s : List UInt8) : Op.bytesLess s s = false := by
  induction s with
  | nil => rfl
  | cons a s ih => simp [Op.bytesLess, ih]
theorem bl_tri (s t : List UInt8) : s ≠ t → Op.bytesLess s t = !Op.bytesLess t s := by
  induction s generalizing t with
  | nil => cases t with
    | nil => intro h; exact absurd rfl h
    | cons b t => intro _; rfl
  | cons a s ih =>
    cases t with
    | nil => intro _; rfl
    | cons b t =>
      intro h
      simp only [Op.bytesLess]
      by_cases hab : a = b
      · subst hab
        have : s ≠ t := fun e => h (by rw [e])
        simp [ih t this]
      · have hba : b ≠ a := fun e => hab e.symm
        rcases UInt8.lt_or_lt_of_ne hab with hl | hl
        · have hn : ¬ b < a := UInt8.lt_asymm hl
          simp [hl, hn, hab, hba]
        · have hn : ¬ a < b := UInt8.lt_asymm hl
          simp [hl, hn, hab, hba]
theorem bl_trans (s t u : List UInt8) : Op.bytesLess s t = true → Op.bytesLess t u = true → Op.bytesLess s u = true := by
  induction s generalizing t u with
  | nil => cases t with
    | nil => intro h; cases h
    | cons b t => cases u with
      | nil => intro _ h; cases h
      | cons c u => intro _ _; rfl
  | cons a s ih =>
    cases t with
    | nil => intro h; cases h
    | cons b t => cases u with
      | nil => intro _ h; cases h
      | cons c u =>
        simp only [Op.bytesLess, Bool.or_eq_true, decide_eq_true_eq, Bool.and_eq_true, beq_iff_eq]
        rintro (h1 | ⟨rfl, h1⟩) (h2 | ⟨rfl, h2⟩)
        · exact .inl (UInt8.lt_trans h1 h2)
        · exact .inl h1
        · exact .inl h2
        · exact .inr ⟨rfl, ih t u h1 h2⟩
theorem cmpS_zero {s t : List UInt8} : cmpS s t = 0 ↔ s = t := by
  unfold cmpS
  by_cases h : s = t
  · subst h; rw [bl_irrefl]; simp
  · cases hb : Op.bytesLess s t <;> simp [h]
theorem cmpS_anti (s t : List UInt8) : cmpS t s = -cmpS s t := by
  by_cases h : s = t
  · subst h; simp [cmpS, bl_irrefl]
  · have h2 : t ≠ s := fun e => h e.symm
    have := bl_tri s t h
    unfold cmpS
    cases hb : Op.bytesLess t s <;> simp [this, hb, h, h2]
theorem cmpS_neg {s t : List UInt8} : cmpS s t < 0 ↔ Op.bytesLess s t = true := by
  unfold cmpS
  cases hb : Op.bytesLess s t
  · by_cases h : s = t <;> simp [h]
  · simp
theorem lessF_anti {n x N X : Int} : ¬ (lessF n x N X = true ∧ lessF N X n x = true) := by
  rintro ⟨h, k⟩
  simp only [lessF, Bool.and_eq_true] at h k
  exact less_anti ⟨h.2, k.2⟩
theorem byV_anti {l r : Bool} (h : ¬ (l = true ∧ r = true)) : byV r l = -byV l r := by cases l <;> cases r <;> simp_all [byV]
theorem plain_anti (k n x m y : Int) : plainV k m y n x = -plainV k n x m y := or_anti (cmpI_anti _ _) (fun _ => cmpI_anti _ _)
theorem num_anti (k n x m y : Int) : numV k m y n x = -numV k n x m y := by
  unfold numV
  rw [show (k == 4 && fltOk m y && fltOk n x) = (k == 4 && fltOk n x && fltOk m y) by rw [Bool.and_assoc, Bool.and_assoc, Bool.and_comm (fltOk m y)], show (k == 6 && decOk m y && decOk n x) = (k == 6 && decOk n x && decOk m y) by rw [Bool.and_assoc, Bool.and_assoc, Bool.and_comm (decOk m y)]]
  split
  · exact byV_anti lessF_anti
  · split
    · exact byV_anti less_anti
    · exact plain_anti _ _ _ _ _
theorem plain_zero {k n x m y : Int} : plainV k n x m y = 0 ↔ n = m ∧ x = y := by unfold plainV; rw [or_zero, cmpI_zero, cmpI_zero]
theorem plain_refl (k n x : Int) : plainV k n x n x = 0 := plain_zero.2 ⟨rfl, rfl⟩
theorem byV_refl {l : Bool} (h : ¬ (l = true ∧ l = true)) : byV l l = 0 := by cases l <;> simp_all [byV]
theorem num_refl (k n x : Int) : numV k n x n x = 0 := by
  unfold numV; split
  · exact byV_refl lessF_anti
  · split
    · exact byV_refl less_anti
    · exact plain_refl _ _ _
/-- of numbers that the values of the kind may have, two are alike only if they are one -/
theorem num_zero {k n x m y : Int} (h : numV k n x m y = 0) : n = m ∧ x = y := by
  unfold numV at h
  split at h
  · rename_i hc
    simp only [Bool.and_eq_true] at hc
    have ht := lessF_tri hc.1.2 hc.2
    by_cases hq : n = m ∧ x = y
    · exact hq
    · have := ht.2 hq
      cases h1 : lessF n x m y <;> cases h2 : lessF m y n x <;> simp_all [byV]
  · split at h
    · rename_i hc
      simp only [Bool.and_eq_true] at hc
      have ht := less_tri hc.1.2 hc.2
      by_cases hq : n = m ∧ x = y
      · exact hq
      · have := ht.2 hq
        cases h1 : lessB n x m y <;> cases h2 : lessB m y n x <;> simp_all [byV]
    · exact plain_zero.1 h
/-- what is asked of a way to compare numbers -/
structure NumOk (f : Num) : Prop where
  sgn : ∀ k n x m y, Sgn (f k n x m y)
  anti : ∀ k n x m y, f k m y n x = -f k n x m y
  zero : ∀ k n x m y, f k n x m y = 0 → n = m ∧ x = y
  refl : ∀ k n x, f k n x n x = 0
theorem numOk : NumOk numV := ⟨sgn_num, num_anti, fun _ _ _ _ _ => num_zero, num_refl⟩
theorem plainOk : NumOk plainV := ⟨sgn_plain, plain_anti, fun _ _ _ _ _ => plain_zero.1, plain_refl⟩
theorem hd_sgn {f : Num} (hf : NumOk f) (k n x : Int) (s : List UInt8) (k' n' x' : Int) (s' : List UInt8) : Sgn (hdV f k n x s k' n' x' s') := sgn_or (sgn_cmpI _ _) (sgn_or (hf.sgn _ _ _ _ _) (sgn_cmpS _ _))
theorem hd_anti {f : Num} (hf : NumOk f) (k n x : Int) (s : List UInt8) (k' n' x' : Int) (s' : List UInt8) : hdV f k' n' x' s' k n x s = -hdV f k n x s k' n' x' s' := by
  refine or_anti (cmpI_anti _ _) fun h => ?_
  obtain rfl := cmpI_zero.1 h
  exact or_anti (hf.anti _ _ _ _ _) (fun _ => cmpS_anti _ _)
theorem hd_zero {f : Num} (hf : NumOk f) {k n x : Int} {s : List UInt8} {k' n' x' : Int} {s' : List UInt8} : hdV f k n x s k' n' x' s' = 0 ↔ k = k' ∧ n = n' ∧ x = x' ∧ s = s' := by
  unfold hdV
  rw [or_zero, or_zero, cmpI_zero, cmpS_zero]
  constructor
  · rintro ⟨rfl, h, rfl⟩
    obtain ⟨rfl, rfl⟩ := hf.zero _ _ _ _ _ h
    exact ⟨rfl, rfl, rfl, rfl⟩
  · rintro ⟨rfl, rfl, rfl, rfl⟩
    exact ⟨rfl, hf.refl _ _ _, rfl⟩
theorem cmp_sgn {f : Num} (hf : NumOk f) (t u : PT) : Sgn (t.cmp f u) := by
  induction t using PT.ind generalizing u with
  | h k n x s l ih =>
    obtain ⟨k', n', x', s', m⟩ := u
    simp only [PT.cmp]
    refine sgn_or (hd_sgn hf _ _ _ _ _ _ _ _) ?_
    induction l generalizing m with
    | nil => cases m <;> simp [PT.cmpL, Sgn]
    | cons t l ihl =>
      cases m with
      | nil => simp [PT.cmpL, Sgn]
      | cons u m => exact sgn_or (ih t (by simp) u) (ihl (fun u hu => ih u (by simp [hu])) m)
theorem cmpL_sgn {f : Num} (hf : NumOk f) (l m : List PT) : Sgn (PT.cmpL f l m) := by
  induction l generalizing m with
  | nil => cases m <;> simp [PT.cmpL, Sgn]
  | cons t l ihl =>
    cases m with
    | nil => simp [PT.cmpL, Sgn]
    | cons u m => exact sgn_or (cmp_sgn hf t u) (ihl m)
theorem cmp_anti {f : Num} (hf : NumOk f) (t u : PT) : u.cmp f t = -t.cmp f u := by
  induction t using PT.ind generalizing u with
  | h k n x s l ih =>
    obtain ⟨k', n', x', s', m⟩ := u
    simp only [PT.cmp]
    refine or_anti (hd_anti hf _ _ _ _ _ _ _ _) fun _ => ?_
    induction l generalizing m with
    | nil => cases m <;> simp [PT.cmpL]
    | cons t l ihl =>
      cases m with
      | nil => simp [PT.cmpL]
      | cons u m => exact or_anti (ih t (by simp) u) (fun _ => ihl (fun u hu => ih u (by simp [hu])) m)
theorem cmp_zero {f : Num} (hf : NumOk f) {t u : PT} : t.cmp f u = 0 ↔ t = u := by
  induction t using PT.ind generalizing u with
  | h k n x s l ih =>
    obtain ⟨k', n', x', s', m⟩ := u
    have hl : PT.cmpL f l m = 0 ↔ l = m := by
      induction l generalizing m with
      | nil => cases m <;> simp [PT.cmpL]
      | cons t l ihl =>
        cases m with
        | nil => simp [PT.cmpL]
        | cons u m =>
          simp only [PT.cmpL]
          rw [or_zero, ih t (by simp), ihl (fun u hu => ih u (by simp [hu])) m, List.cons.injEq]
    simp only [PT.cmp]
    rw [or_zero, hd_zero hf, hl, PT.mk.injEq]
    constructor
    · rintro ⟨⟨a, b, c, d⟩, e⟩; exact ⟨a, b, c, d, e⟩
    · rintro ⟨a, b, c, d, e⟩; exact ⟨⟨a, b, c, d⟩, e⟩
theorem cmp_refl {f : Num} (hf : NumOk f) (t : PT) : t.cmp f t = 0 := (cmp_zero hf).2 rfl
/-- is less -/
def PT.less (t u : PT) : Bool := decide (t.cmp numV u < 0)
theorem less_asym (t u : PT) : ¬ (t.less u = true ∧ u.less t = true) := by
  unfold PT.less
  rw [cmp_anti numOk t u]
  simp only [decide_eq_true_eq]
  omega
theorem less_one (t u : PT) : (t.less u || u.less t) = !t.same u := by
  have hs := cmp_sgn numOk t u
  have hz := cmp_zero numOk (t := t) (u := u)
  unfold PT.less
  rw [cmp_anti numOk t u]
  cases h : t.same u
  · have : t ≠ u := fun e => by rw [e, ptsame_refl] at h; cases h
    have h0 : t.cmp numV u ≠ 0 := fun e => this (hz.1 e)
    unfold Sgn at hs
    simp; omega
  · have h0 := hz.2 (ptsame_true h)
    simp [h0]
/-- lists of trees: the first i pairs are the same, the pair i is not -/
theorem cmpL_at (f : Num) (l m : List PT) (i : Nat) (h1 : i < l.length) (h2 : i < m.length) (h : l.take i = m.take i) (hf : NumOk f) (hne : (l[i]).cmp f m[i] ≠ 0) : PT.cmpL f l m = (l[i]).cmp f m[i] := by
  induction l generalizing m i with
  | nil => simp at h1
  | cons t l ih =>
    cases m with
    | nil => simp at h2
    | cons u m =>
      cases i with
      | zero => exact orI_ne hne _
      | succ i =>
        simp only [List.take_succ_cons, List.cons.injEq] at h
        obtain ⟨rfl, h⟩ := h
        simp only [PT.cmpL, cmp_refl hf, orI_zero]
        exact ih m i (by simpa using h1) (by simpa using h2) h (by simpa using hne)
theorem cmpL_end (f : Num) (l m : List PT) (hf : NumOk f) (h : l.take (min l.length m.length) = m.take (min l.length m.length)) : PT.cmpL f l m = cmpI l.length m.length := by
  induction l generalizing m with
  | nil => cases m with
    | nil => rfl
    | cons u m => simp only [PT.cmpL, cmpI, List.length_nil, List.length_cons]; rw [if_pos (by omega)]
  | cons t l ih =>
    cases m with
    | nil => simp only [PT.cmpL, cmpI, List.length_nil, List.length_cons]; rw [if_neg (by omega), if_pos (by omega)]
    | cons u m =>
      simp only [List.length_cons, Nat.add_min_add_right, List.take_succ_cons, List.cons.injEq] at h
      obtain ⟨rfl, h⟩ := h
      simp only [PT.cmpL, cmp_refl hf, orI_zero]
      rw [ih m h]
      unfold cmpI
      simp only [List.length_cons]
      repeat' split <;> omega
end Go.Proofs.Ytdjnkcoepmackaa
/- The library's cmp: Compare at int and string, Or at int. -/
namespace Go.Proofs.Ytdjnkcoepmackaa
open Go.RowKit
set_option maxRecDepth 100000
theorem nan_int (x : Int) (w : World) : Calls Try.prog 159 #[.int .i64 x] w fun e w' => e = .returned (.bool false) ∧ w = w' := by
  go_enter Try.func159, Try.ntmps159
  go_wp2
  go_ret
  exact ⟨rfl, rfl⟩
theorem compare_int (x y : Int) (w : World) : Calls Try.prog 126 #[.int .i64 x, .int .i64 y] w fun e w' => e = .returned (.int .i64 (cmpI x y)) ∧ w = w' := by
  have hn := fun z => nan_int z w
  rcases Int.lt_trichotomy x y with h | h | h
  · have hv : cmpI x y = -1 := if_pos h
    rw [hv]
    clear hv
    go_enter Try.func126, Try.ntmps126
    go_wp2_with (go_at_call 159; refine (hn _).mono ?_; rintro e w' ⟨rfl, rfl⟩)
    go_ret
    exact ⟨rfl, rfl⟩
  · subst h
    have hv : cmpI x x = 0 := cmpI_zero.2 rfl
    rw [hv]
    clear hv
    go_enter Try.func126, Try.ntmps126
    go_wp2_with (go_at_call 159; refine (hn _).mono ?_; rintro e w' ⟨rfl, rfl⟩)
    go_ret
    exact ⟨rfl, rfl⟩
  · have hv : cmpI x y = 1 := by unfold cmpI; rw [if_neg (by omega), if_pos h]
    rw [hv]
    have h2 : ¬ x < y := by omega
    clear hv
    go_enter Try.func126, Try.ntmps126
    go_wp2_with (go_at_call 159; refine (hn _).mono ?_; rintro e w' ⟨rfl, rfl⟩)
    go_ret
    exact ⟨rfl, rfl⟩
theorem nan_str (s : ByteArray) (w : World) : Calls Try.prog 184 #[.string s] w fun e w' => e = .returned (.bool false) ∧ w = w' := by
  have h : (s.toList == s.toList) = true := by simp
  have h2 : (s.toList != s.toList) = false := by simp
  go_enter Try.func184, Try.ntmps184
  go_wp2
  go_ret
  exact ⟨by simp, rfl⟩
theorem compare_str (s t : List UInt8) (w : World) : Calls Try.prog 158 #[.string ⟨s.toArray⟩, .string ⟨t.toArray⟩] w fun e w' => e = .returned (.int .i64 (cmpS s t)) ∧ w = w' := by
  have hn := fun z => nan_str z w
  cases h : Op.bytesLess s t
  · by_cases he : s = t
    · subst he
      have hv : cmpS s s = 0 := cmpS_zero.2 rfl
      rw [hv]
      have heq : (s == s) = true := by simp
      clear hv
      go_enter Try.func158, Try.ntmps158
      go_wp2_with (go_at_call 184; refine (hn _).mono ?_; rintro e w' ⟨rfl, rfl⟩)
      go_ret
      exact ⟨rfl, rfl⟩
    · have hv : cmpS s t = 1 := by unfold cmpS; rw [h]; simp [he]
      rw [hv]
      have heq : (s == t) = false := by simpa using he
      clear hv he
      go_enter Try.func158, Try.ntmps158
      go_wp2_with (go_at_call 184; refine (hn _).mono ?_; rintro e w' ⟨rfl, rfl⟩)
      go_ret
      exact ⟨rfl, rfl⟩
  · have hv : cmpS s t = -1 := by unfold cmpS; rw [h]; rfl
    rw [hv]
    clear hv
    go_enter Try.func158, Try.ntmps158
    go_wp2_with (go_at_call 184; refine (hn _).mono ?_; rintro e w' ⟨rfl, rfl⟩)
    go_ret
    exact ⟨rfl, rfl⟩
theorem or_int (a b : Int) (w : World) (g cap : Nat) (c0 : w.cell? ⟨g, 0, none⟩ = some (.int .i64 a)) (c1 : w.cell? ⟨g, 1, none⟩ = some (.int .i64 b)) : Calls Try.prog 127 #[.slice (some ⟨g, 0, none⟩) 2 cap] w fun e w' => e = .returned (.int .i64 (orI a b)) ∧ w = w' := by
  by_cases ha : a = 0
  · subst ha
    rw [orI_zero]
    by_cases hb : b = 0
    · subst hb
      go_enter Try.func127, Try.ntmps127
      go_wp2
      go_loopw [8] (fun i wr => wr = w ∧ (i = .int .i64 0 ∨ i = .int .i64 1 ∨ i = .int .i64 2)) (fun i _ => 2 - (intOf i).toNat)
      case atStart => exact ⟨rfl, .inl rfl⟩
      case round =>
        obtain ⟨rfl, rfl | rfl | rfl⟩ := hrel
        · go_wp2
          go_roundw
          case rel => exact ⟨trivial, .inr (.inl rfl)⟩
          case measure => simp [intOf]
        · go_wp2
          go_roundw
          case rel => exact ⟨trivial, .inr (.inr rfl)⟩
          case measure => simp [intOf]
        · go_wp2
          go_ret
          exact ⟨rfl, rfl⟩
    · go_enter Try.func127, Try.ntmps127
      go_wp2
      go_loopw [8] (fun i wr => wr = w ∧ (i = .int .i64 0 ∨ i = .int .i64 1)) (fun i _ => 2 - (intOf i).toNat)
      case atStart => exact ⟨rfl, .inl rfl⟩
      case round =>
        obtain ⟨rfl, rfl | rfl⟩ := hrel
        · go_wp2
          go_roundw
          case rel => exact ⟨trivial, .inr rfl⟩
          case measure => simp [intOf]
        · go_wp2
          go_ret
          exact ⟨rfl, rfl⟩
  · rw [orI_ne ha]
    go_enter Try.func127, Try.ntmps127
    go_wp2
    go_loopw [8] (fun i wr => wr = w ∧ i = .int .i64 0) (fun i _ => 2 - (intOf i).toNat)
    case atStart => exact ⟨rfl, rfl⟩
    case round =>
      obtain ⟨rfl, rfl⟩ := hrel
      go_wp2
      go_ret
      exact ⟨rfl, rfl⟩
end Go.Proofs.Ytdjnkcoepmackaa
