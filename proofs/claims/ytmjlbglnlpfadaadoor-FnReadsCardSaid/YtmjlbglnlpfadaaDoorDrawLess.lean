/- What the model's draw of two decimal numbers returns. -/
import Derived.Test.YtmjlbglnlpfadaaDoorDrawDec
import Derived.Deep.RegionHeld3
namespace Go.Proofs.YtmjlbglnlpfadaaDoor
open Go.RowKit
theorem Box.mk {w : World} {r : Nat} {n x : Int} (h0 : w.cell? ⟨r, 0, none⟩ = some (.int .i64 n)) (h1 : w.cell? ⟨r, 1, none⟩ = some (.int .i64 x)) (h2 : w.frozen? ⟨r, 0, none⟩ = false) (h3 : w.frozen? ⟨r, 1, none⟩ = false) : Box w r n x := ⟨h0, h1, h2, h3⟩
theorem Box.drew {w : World} {r : Nat} {n x : Int} (h : Box w r n x) : Box w.drew r n x := h
theorem Cur.drew {w : World} {B : Nat} (h : Cur w B) : Cur w.drew B := h
theorem far_set {W : World} {p : Addr} {q : Nat} {n x : Int} (h : Box W q n x) (hp : p.block ≠ q) (u : Value) : (W.setCell p u).cell? ⟨q, 0, none⟩ = W.cell? ⟨q, 0, none⟩ ∧ (W.setCell p u).cell? ⟨q, 1, none⟩ = W.cell? ⟨q, 1, none⟩ :=
  ⟨World.cell?_setCell_other _ _ _ _ (fun e => hp (by rw [e])), World.cell?_setCell_other _ _ _ _ (fun e => hp (by rw [e]))⟩
theorem two_cells {W : World} {r : Nat} {a b : Value} (h0 : W.cell? ⟨r, 0, none⟩ = some a) (h1 : W.cell? ⟨r, 1, none⟩ = some b) (u v : Value) : ((W.setCell ⟨r, 0, none⟩ u).setCell ⟨r, 1, none⟩ v).cell? ⟨r, 0, none⟩ = some u ∧ ((W.setCell ⟨r, 0, none⟩ u).setCell ⟨r, 1, none⟩ v).cell? ⟨r, 1, none⟩ = some v := by
  have e : (W.setCell ⟨r, 0, none⟩ u).cell? ⟨r, 1, none⟩ = some b := (World.cell?_setCell_other W ⟨r, 0, none⟩ ⟨r, 1, none⟩ u (by simp)).trans h1
  exact ⟨(World.cell?_setCell_other _ ⟨r, 1, none⟩ ⟨r, 0, none⟩ v (by simp)).trans (World.cell?_setCell_same _ _ _ h0), World.cell?_setCell_same _ _ _ e⟩
theorem far_cell (W : World) {p q : Addr} (hp : p.block ≠ q.block) (u : Value) : (W.setCell p u).cell? q = W.cell? q := World.cell?_setCell_other _ _ _ _ (fun e => hp (by rw [e]))
theorem four_set {W : World} {r q : Nat} {n x m y : Int} (hr : Box W r n x) (hq : Box W q m y) (hne : r ≠ q) (a b c d : Value) :
    ((((W.setCell ⟨r, 0, none⟩ a).setCell ⟨r, 1, none⟩ b).setCell ⟨q, 0, none⟩ c).setCell ⟨q, 1, none⟩ d).cell? ⟨r, 0, none⟩ = some a ∧ ((((W.setCell ⟨r, 0, none⟩ a).setCell ⟨r, 1, none⟩ b).setCell ⟨q, 0, none⟩ c).setCell ⟨q, 1, none⟩ d).cell? ⟨r, 1, none⟩ = some b ∧
      ((((W.setCell ⟨r, 0, none⟩ a).setCell ⟨r, 1, none⟩ b).setCell ⟨q, 0, none⟩ c).setCell ⟨q, 1, none⟩ d).cell? ⟨q, 0, none⟩ = some c ∧ ((((W.setCell ⟨r, 0, none⟩ a).setCell ⟨r, 1, none⟩ b).setCell ⟨q, 0, none⟩ c).setCell ⟨q, 1, none⟩ d).cell? ⟨q, 1, none⟩ = some d := by
  obtain ⟨e0, e1⟩ := two_cells hr.1 hr.2.1 a b
  have f0 : ((W.setCell ⟨r, 0, none⟩ a).setCell ⟨r, 1, none⟩ b).cell? ⟨q, 0, none⟩ = some (.int .i64 m) := by rw [far_cell _ hne, far_cell _ hne]; exact hq.1
  have f1 : ((W.setCell ⟨r, 0, none⟩ a).setCell ⟨r, 1, none⟩ b).cell? ⟨q, 1, none⟩ = some (.int .i64 y) := by rw [far_cell _ hne, far_cell _ hne]; exact hq.2.1
  obtain ⟨g0, g1⟩ := two_cells f0 f1 c d
  exact ⟨by rw [far_cell _ hne.symm, far_cell _ hne.symm]; exact e0, by rw [far_cell _ hne.symm, far_cell _ hne.symm]; exact e1, g0, g1⟩
theorem four_below {N : Nat} {w W : World} (h : Below N w W) {p q r s : Addr} (hp : N ≤ p.block) (hq : N ≤ q.block) (hr : N ≤ r.block) (hs : N ≤ s.block) (a b c d : Value) : Below N w ((((W.setCell p a).setCell q b).setCell r c).setCell s d) :=
  (((h.setCell hp a).setCell hq b).setCell hr c).setCell hs d
def TwoDraw (w : World) (e : Ending) (w' : World) : Prop := ∃ n x N X : Int, decOk n x = true ∧ isInt N ∧ e = .returned (.tuple #[.agg #[.int .i64 n, .int .i64 x], .agg #[.int .i64 N, .int .i64 X]]) ∧ Below w.heap.size w w'
set_option maxRecDepth 100000 in
set_option maxHeartbeats 2000000 in
theorem drawlessdec_any (a : Option Addr) (len cap : Nat) (w : World) (hC : CodeAt w a len) (hl : len ≤ 1048576) : Calls Tryd.prog 19 #[.slice a len cap] w (TwoDraw w) := by
  obtain ⟨W0, hW⟩ : ∃ W0 : World, W0 = (w.alloc (.cells #[.int .i64 0, .int .i64 0] 25)).alloc (.cells #[.int .i64 0, .int .i64 0] 25) := ⟨_, rfl⟩
  have hs0 : W0.heap.size = w.heap.size + 2 := by rw [hW]; simp
  have hBW : Below w.heap.size w W0 := by rw [hW]; exact ((Below.refl _ _).alloc (Nat.le_refl _) _).alloc (by simp) _
  have hC2 : CodeAt W0 a len := hC.below hBW
  have P0 : Box W0 w.heap.size 0 0 := by
    rw [hW]
    exact (box_new w 0 0 25).below (N := w.heap.size + 1) (by have := (Below.refl _ (w.alloc (.cells #[.int .i64 0, .int .i64 0] 25))).alloc (Nat.le_refl _) (.cells #[.int .i64 0, .int .i64 0] 25); simpa using this) (by omega)
  have Q0 : Box W0 (w.heap.size + 1) 0 0 := by
    rw [hW]
    have := box_new (w.alloc (.cells #[.int .i64 0, .int .i64 0] 25)) 0 0 25
    rwa [show (w.alloc (.cells #[.int .i64 0, .int .i64 0] 25)).heap.size = w.heap.size + 1 by simp] at this
  go_enter Tryd.func19, Tryd.ntmps19
  go_wp2_with fail
  rw [← hW]
  clear hW
  refine (new_any a len cap W0 hC2 hl).mono ?_
  rintro e w1 ⟨rfl, hb, hc, hz⟩
  have P1 := P0.below hb (by omega)
  have Q1 := Q0.below hb (by omega)
  have hB1 : Below w.heap.size w w1 := hBW.trans (hb.mono (by omega))
  rw [hs0] at hc hz
  rw [hs0]
  clear P0 Q0 hBW hC2
  go_wp2_with fail
  refine (l4draw_any w1 (w.heap.size + 2) hc).mono ?_
  rintro e w2 ⟨n, x, hv, rfl, ho2, hc2⟩
  have hz2 : w1.heap.size ≤ w2.heap.size := ho2.size
  have P2 := (P1.only ho2 (by omega)).below ((Below.refl w2.heap.size w2).alloc (Nat.le_refl _) (.cells #[.int .i64 n, .int .i64 x] 25)) (by omega)
  have Q2 := (Q1.only ho2 (by omega)).below ((Below.refl w2.heap.size w2).alloc (Nat.le_refl _) (.cells #[.int .i64 n, .int .i64 x] 25)) (by omega)
  have D2 := box_new w2 n x 25
  have hB2 := (hB1.trans (ho2.below w.heap.size (by omega) hB1.size)).alloc (B := w.heap.size) (by omega) (.cells #[.int .i64 n, .int .i64 x] 25)
  have hvd := Lib.hid hv
  have hv1 := Lib.hid (any_of hv)
  clear hv P1 Q1 hc
  go_wp2_with fail
  refine (once_any _ (w.heap.size + 2) 3 (hc2.alloc _) (by decide)).mono ?_
  rintro e w3 ⟨b, rfl, ho3, hc3⟩
  have P3 := P2.only ho3 (by omega)
  have Q3 := Q2.only ho3 (by omega)
  have D3 := D2.only ho3 (by omega)
  have hB3 : Below w.heap.size w w3 := hB2.trans (ho3.below w.heap.size (by omega) (by simp; omega))
  have hz3 : w2.heap.size < w3.heap.size := by have := ho3.size; simp at this; omega
  clear P2 Q2 D2 hB2 hB1 ho2 hc2 ho3 hb
  cases b
  · go_wp2_with fail
    obtain ⟨d0, d1, d2, d3⟩ := D3
    go_region_with ((first | (go_at_call 24; refine (l4any_any _ (w.heap.size + 2) hc3.drew).mono ?_; rintro e w4 ⟨N, X, hv2, rfl, ho4, hc4⟩; obtain ⟨d0', d1', d2', d3'⟩ := Box.only (Box.drew (Box.mk d0 d1 d2 d3)) ho4 (by omega); have P4 := (P3.drew).only ho4 (by omega); have Q4 := (Q3.drew).only ho4 (by omega); obtain ⟨p0, p1, p2, p3⟩ := P4; obtain ⟨q0, q1, q2, q3⟩ := Q4; have hv2 := Lib.hid hv2)))
    all_goals
      go_wp2
      obtain ⟨e0, e1, f0, f1⟩ := four_set (Box.mk p0 p1 p2 p3) (Box.mk q0 q1 q2 q3) (by omega) (.int .i64 n) (.int .i64 x) (.int .i64 N) (.int .i64 X)
      refine bodyPost_ret (v := .tuple #[.agg #[.int .i64 n, .int .i64 x], .agg #[.int .i64 N, .int .i64 X]]) (by simp [results, Tryd.results19, go_sem, e0, e1, f0, f1]) rfl ⟨n, x, N, X, hvd.out, hv2.out.1, rfl, ?_⟩
      exact four_below ((Below.drew hB3).trans (ho4.below w.heap.size (by omega) (by show _ ≤ w3.heap.size; omega))) (by show _ ≤ _; simp) (by show _ ≤ _; simp) (by show _ ≤ _; simp) (by show _ ≤ _; simp) _ _ _ _
  · obtain ⟨d0, d1, d2, d3⟩ := D3
    obtain ⟨e0, e1, f0, f1⟩ := four_set P3 Q3 (by omega) (.int .i64 n) (.int .i64 x) (.int .i64 n) (.int .i64 x)
    obtain ⟨p0, p1, p2, p3⟩ := P3
    obtain ⟨q0, q1, q2, q3⟩ := Q3
    go_wp2_with fail
    go_region
    all_goals
      go_wp2
      refine bodyPost_ret (v := .tuple #[.agg #[.int .i64 n, .int .i64 x], .agg #[.int .i64 n, .int .i64 x]]) (by simp [results, Tryd.results19, go_sem, e0, e1, f0, f1]) rfl ⟨n, x, n, x, hvd.out, hv1.out.1, rfl, ?_⟩
      exact Below.drew (four_below hB3 (by show _ ≤ _; simp) (by show _ ≤ _; simp) (by show _ ≤ _; simp) (by show _ ≤ _; simp) _ _ _ _)
end Go.Proofs.YtmjlbglnlpfadaaDoor
