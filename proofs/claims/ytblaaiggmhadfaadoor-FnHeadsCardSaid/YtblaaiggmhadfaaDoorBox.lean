/- Boxes of two ints: what they read as, that they stay. -/
import Derived.Test.YtblaaiggmhadfaaDoorCur
import Derived.Deep.RegionHeld3
namespace Go.Proofs.YtblaaiggmhadfaaDoor
open Go.RowKit
theorem Only.setNew {B : Nat} {w W : World} (h : Only B w W) {p : Addr} (hp : w.heap.size ≤ p.block) (u : Value) : Only B w (W.setCell p u) :=
  ⟨h.os, h.tape, h.output, by simpa [World.setCell] using h.size, fun k hk hB => (Below.heap_setCell _ _ _ _ (by omega)).trans (h.block k hk hB)⟩
theorem Cur.setNew {B : Nat} {W : World} (h : Cur W B) {p : Addr} (hp : B < p.block) (u : Value) : Cur (W.setCell p u) B :=
  h.below ((Below.refl (B + 1) W).setCell (by omega) u) (by omega)
theorem Only.frozen {B : Nat} {w w' : World} (h : Only B w w') {p : Addr} (hp : p.block ≠ B) (hlt : p.block < w.heap.size) : w'.frozen? p = w.frozen? p := World.frozen?_of_block (w := w) (h.block p.block hlt hp)
/-- A box of two ints of the caller's own: what it reads as, that it may be written. -/
def Box (W : World) (r : Nat) (n x : Int) : Prop := W.cell? ⟨r, 0, none⟩ = some (.int .i64 n) ∧ W.cell? ⟨r, 1, none⟩ = some (.int .i64 x) ∧ W.frozen? ⟨r, 0, none⟩ = false ∧ W.frozen? ⟨r, 1, none⟩ = false
theorem box_new (w : World) (n x : Int) (T : TypeId) : Box (w.alloc (.cells #[.int .i64 n, .int .i64 x] T)) w.heap.size n x :=
  ⟨by simp [go_sem], by simp [go_sem], by simp [go_sem], by simp [go_sem]⟩
theorem Box.only {w W : World} {B r : Nat} {n x : Int} (h : Box w r n x) (ho : Only B w W) (hr : r ≠ B) : Box W r n x := by
  obtain ⟨h0, h1, h2, h3⟩ := h
  have hlt := cell_lt h0
  exact ⟨ho.cell hr h0, ho.cell hr h1, (ho.frozen (p := ⟨r, 0, none⟩) hr hlt).trans h2, (ho.frozen (p := ⟨r, 1, none⟩) hr hlt).trans h3⟩
theorem Box.below {w W : World} {N r : Nat} {n x : Int} (h : Box w r n x) (hb : Below N w W) (hr : r < N) : Box W r n x := by
  obtain ⟨h0, h1, h2, h3⟩ := h
  exact ⟨(hb.cell (p := ⟨r, 0, none⟩) hr).trans h0, (hb.cell (p := ⟨r, 1, none⟩) hr).trans h1, (hb.frozen (p := ⟨r, 0, none⟩) hr).trans h2, (hb.frozen (p := ⟨r, 1, none⟩) hr).trans h3⟩
theorem two_set {W : World} {r : Nat} {n x : Int} (h : Box W r n x) (u v : Value) : ((W.setCell ⟨r, 0, none⟩ u).setCell ⟨r, 1, none⟩ v).cell? ⟨r, 0, none⟩ = some u ∧ ((W.setCell ⟨r, 0, none⟩ u).setCell ⟨r, 1, none⟩ v).cell? ⟨r, 1, none⟩ = some v := by
  obtain ⟨h0, h1, _, _⟩ := h
  have e : (W.setCell ⟨r, 0, none⟩ u).cell? ⟨r, 1, none⟩ = some (.int .i64 x) := (World.cell?_setCell_other W ⟨r, 0, none⟩ ⟨r, 1, none⟩ u (by simp)).trans h1
  exact ⟨(World.cell?_setCell_other _ ⟨r, 1, none⟩ ⟨r, 0, none⟩ v (by simp)).trans (World.cell?_setCell_same _ _ _ h0), World.cell?_setCell_same _ _ _ e⟩
theorem two_set_alloc {W : World} {r : Nat} {n x : Int} (h : Box W r n x) (u v : Value) (o : Obj) : (((W.setCell ⟨r, 0, none⟩ u).setCell ⟨r, 1, none⟩ v).alloc o).cell? ⟨r, 0, none⟩ = some u ∧ (((W.setCell ⟨r, 0, none⟩ u).setCell ⟨r, 1, none⟩ v).alloc o).cell? ⟨r, 1, none⟩ = some v := by
  obtain ⟨e0, e1⟩ := two_set h u v
  exact ⟨by rw [World.cell?_alloc_some _ _ _ (by rw [e0]; rfl)]; exact e0, by rw [World.cell?_alloc_some _ _ _ (by rw [e1]; rfl)]; exact e1⟩
theorem Box.mk {w : World} {r : Nat} {n x : Int} (h0 : w.cell? ⟨r, 0, none⟩ = some (.int .i64 n)) (h1 : w.cell? ⟨r, 1, none⟩ = some (.int .i64 x)) (h2 : w.frozen? ⟨r, 0, none⟩ = false) (h3 : w.frozen? ⟨r, 1, none⟩ = false) : Box w r n x := ⟨h0, h1, h2, h3⟩
theorem Box.drew {w : World} {r : Nat} {n x : Int} (h : Box w r n x) : Box w.drew r n x := h
theorem Cur.drew {w : World} {B : Nat} (h : Cur w B) : Cur w.drew B := h
theorem far_set {W : World} {p : Addr} {q : Nat} {n x : Int} (h : Box W q n x) (hp : p.block ≠ q) (u : Value) : (W.setCell p u).cell? ⟨q, 0, none⟩ = W.cell? ⟨q, 0, none⟩ ∧ (W.setCell p u).cell? ⟨q, 1, none⟩ = W.cell? ⟨q, 1, none⟩ :=
  ⟨World.cell?_setCell_other _ _ _ _ (fun e => hp (by rw [e])), World.cell?_setCell_other _ _ _ _ (fun e => hp (by rw [e]))⟩
theorem two_cells {W : World} {r : Nat} {a b : Value} (h0 : W.cell? ⟨r, 0, none⟩ = some a) (h1 : W.cell? ⟨r, 1, none⟩ = some b) (u v : Value) : ((W.setCell ⟨r, 0, none⟩ u).setCell ⟨r, 1, none⟩ v).cell? ⟨r, 0, none⟩ = some u ∧ ((W.setCell ⟨r, 0, none⟩ u).setCell ⟨r, 1, none⟩ v).cell? ⟨r, 1, none⟩ = some v := by
  have e : (W.setCell ⟨r, 0, none⟩ u).cell? ⟨r, 1, none⟩ = some b := (World.cell?_setCell_other W ⟨r, 0, none⟩ ⟨r, 1, none⟩ u (by simp)).trans h1
  exact ⟨(World.cell?_setCell_other _ ⟨r, 1, none⟩ ⟨r, 0, none⟩ v (by simp)).trans (World.cell?_setCell_same _ _ _ h0), World.cell?_setCell_same _ _ _ e⟩
theorem far_cell (W : World) {p q : Addr} (hp : p.block ≠ q.block) (u : Value) : (W.setCell p u).cell? q = W.cell? q := World.cell?_setCell_other _ _ _ _ (fun e => hp (by rw [e]))
theorem four_set {W : World} {r q : Nat} {n x m y : Int} (hr : Box W r n x) (hq : Box W q m y) (hne : r ≠ q) (a b c d : Value) :
    ((((W.setCell ⟨r, 0, none⟩ a).setCell ⟨r, 1, none⟩ b).setCell ⟨q, 0, none⟩ c).setCell ⟨q, 1, none⟩ d).cell? ⟨r, 0, none⟩ = some a ∧ ((((W.setCell ⟨r, 0, none⟩ a).setCell ⟨r, 1, none⟩ b).setCell ⟨q, 0, none⟩ c).setCell ⟨q, 1, none⟩ d).cell? ⟨r, 1, none⟩ = some b ∧
      ((((W.setCell ⟨r, 0, none⟩ a).setCell ⟨r, 1, none⟩ b).setCell ⟨q, 0, none⟩ c).setCell ⟨q, 1, none⟩ d).cell? ⟨q, 0, none⟩ = some c ∧ ((((W.setCell ⟨r, 0, none⟩ a).setCell ⟨r, 1, none⟩ b).setCell ⟨q, 0, none⟩ c).setCell ⟨q, 1, none⟩ d).cell? ⟨q, 1, none⟩ = some d := by
  obtain ⟨e0, e1⟩ := two_cells hr.1 hr.2.1 a b
  have f0 : ((W.setCell ⟨r, 0, none⟩ a).setCell ⟨r, 1, none⟩ b).cell? ⟨q, 0, none⟩ = some (.int .i64 m) := by rw [far_cell _ hne, far_cell _ hne]; exact hq.1
  have f1 : ((W.setCell ⟨r, 0, none⟩ a).setCell ⟨r, 1, none⟩ b).cell? ⟨q, 1, none⟩ = some (.int .i64 y) := by rw [far_cell _ hne, far_cell _ hne]; exact hq.2.1
  obtain ⟨g0, g1⟩ := two_cells f0 f1 c d
  exact ⟨by rw [far_cell _ hne.symm, far_cell _ hne.symm]; exact e0, by rw [far_cell _ hne.symm, far_cell _ hne.symm]; exact e1, g0, g1⟩
theorem four_below {N : Nat} {w W : World} (h : Below N w W) {p q r s : Addr} (hp : N ≤ p.block) (hq : N ≤ q.block) (hr : N ≤ r.block) (hs : N ≤ s.block) (a b c d : Value) : Below N w ((((W.setCell p a).setCell q b).setCell r c).setCell s d) :=
  (((h.setCell hp a).setCell hq b).setCell hr c).setCell hs d
end Go.Proofs.YtblaaiggmhadfaaDoor
