/- Trees in rows of one's own: each element slice is a row of its own, all rows differ. -/
import Derived.Test.YtgfebmnlcihpnaaDoorTree
import Derived.Test.YtgfebmnlcihpnaaDoorFresh
namespace Go.Proofs.YtgfebmnlcihpnaaDoor
open Go.RowKit
/-- the cells of a list of trees -/
def cellsL (l : List AT) : List Value := l.flatMap AT.cells
@[simp] theorem cellsL_nil : cellsL [] = [] := rfl
theorem cellsL_append (l m : List AT) : cellsL (l ++ m) = cellsL l ++ cellsL m := by simp [cellsL]
theorem cellsL_one (T : AT) : cellsL [T] = T.cells := by simp [cellsL]
theorem cellsL_length (l : List AT) : (cellsL l).length = l.length * 5 := by
  induction l with
  | nil => rfl
  | cons t l ih => simp only [cellsL, List.flatMap_cons, List.length_append, AT.cells_length] at *; simp only [List.length_cons]; omega
theorem cellsL_get (l : List AT) (j c : Nat) (hj : j < l.length) (hc : c < 5) : (cellsL l)[j * 5 + c]? = (l[j]).cells[c]? := by
  induction l generalizing j with
  | nil => simp at hj
  | cons t l ih =>
    show (t.cells ++ cellsL l)[j * 5 + c]? = _
    cases j with
    | zero =>
      rw [List.getElem?_append_left (by rw [AT.cells_length]; omega)]
      simp
    | succ j =>
      rw [List.getElem?_append_right (by rw [AT.cells_length]; omega), AT.cells_length]
      have := ih j (by simpa using hj)
      rw [show (j + 1) * 5 + c - 5 = j * 5 + c by omega, this]
      simp
theorem cellsL_ext (l m : List AT) (hl : l.length = m.length) (h : ∀ j (h1 : j < l.length) (h2 : j < m.length), (l[j]).cells = (m[j]).cells) : cellsL l = cellsL m := by
  induction l generalizing m with
  | nil => cases m with
    | nil => rfl
    | cons t m => simp at hl
  | cons t l ih =>
    cases m with
    | nil => simp at hl
    | cons u m =>
      show t.cells ++ cellsL l = u.cells ++ cellsL m
      rw [show t.cells = u.cells from h 0 (by simp) (by simp), ih m (by simpa using hl) (fun j h1 h2 => h (j + 1) (by simpa using h1) (by simpa using h2))]
theorem set_five (xs zs : List Value) (p : Nat) (v0 v1 v2 v3 v4 : Value) (hx : xs.length = p) (hz : 5 ≤ zs.length) :
    (((((xs ++ zs).set p v0).set (p + 1) v1).set (p + 2) v2).set (p + 3) v3).set (p + 4) v4 = xs ++ [v0, v1, v2, v3, v4] ++ zs.drop 5 := by
  subst hx
  match zs, hz with
  | z0 :: z1 :: z2 :: z3 :: z4 :: r, _ =>
    simp [List.set_append]
/-- each element slice is a row of the caller's own, in blocks from B on -/
inductive AT.Own (w : World) (B : Nat) : AT → Prop
  | mk {k n x : Int} {s : List UInt8} {a : Option Addr} {cap : Nat} {l : List AT} (hrow : w.ownsRow B 26 5 (.slice a l.length cap) l.length (cellsL l)) (hsub : ∀ t ∈ l, AT.Own w B t) : AT.Own w B (.mk k n x s a cap l)
structure OwnL (w : World) (B : Nat) (a : Option Addr) (cap : Nat) (l : List AT) : Prop where
  row : w.ownsRow B 26 5 (.slice a l.length cap) l.length (cellsL l)
  sub : ∀ t ∈ l, t.Own w B
theorem AT.Own.l {w : World} {B : Nat} {k n x : Int} {s : List UInt8} {a : Option Addr} {cap : Nat} {l : List AT} (h : AT.Own w B (.mk k n x s a cap l)) : OwnL w B a cap l := by
  cases h with
  | mk hrow hsub => exact ⟨hrow, hsub⟩
theorem AT.Own.l' {w : World} {B : Nat} {T : AT} (h : T.Own w B) : OwnL w B T.a T.cap T.l := by cases T; exact h.l
theorem OwnL.own {w : World} {B : Nat} {k n x : Int} {s : List UInt8} {a : Option Addr} {cap : Nat} {l : List AT} (h : OwnL w B a cap l) : AT.Own w B (.mk k n x s a cap l) := .mk h.row h.sub
mutual
def AT.blks : AT → List Nat
  | .mk _ _ _ _ a _ l => (a.map (·.block)).toList ++ AT.blksL l
def AT.blksL : List AT → List Nat
  | [] => []
  | t :: l => t.blks ++ AT.blksL l
end
theorem AT.blksL_append (l m : List AT) : AT.blksL (l ++ m) = AT.blksL l ++ AT.blksL m := by
  induction l with
  | nil => rfl
  | cons t l ih => simp [AT.blksL, ih]
theorem AT.blksL_one (T : AT) : AT.blksL [T] = T.blks := by simp [AT.blksL]
theorem AT.mem_blksL {l : List AT} {k : Nat} : k ∈ AT.blksL l ↔ ∃ t ∈ l, k ∈ t.blks := by
  induction l with
  | nil => simp [AT.blksL]
  | cons t l ih => simp [AT.blksL, ih]
theorem AT.blks_eq (T : AT) : T.blks = (T.a.map (·.block)).toList ++ AT.blksL T.l := by cases T; rfl
theorem own_heap {w w' : World} {B E c n : Nat} {v : Value} {xs : List Value} (h : w.ownsRow B E c v n xs) (hg : ∀ g, v.ownBlock = some g → w'.heap[g]? = w.heap[g]?) : w'.ownsRow B E c v n xs := by
  refine ⟨h.1, ?_⟩
  rcases h.2 with h | ⟨g, cap, cur, rfl, hb, hh, rest⟩
  · exact .inl h
  · exact .inr ⟨g, cap, cur, rfl, hb, (hg g rfl).trans hh, rest⟩
theorem AT.Own.kept {w w' : World} {B : Nat} {T : AT} (h : T.Own w B) (hk : ∀ k ∈ T.blks, w'.heap[k]? = w.heap[k]?) : T.Own w' B := by
  induction T using AT.ind with
  | h k n x s a cap l ih =>
    cases h with
    | mk hrow hsub =>
      refine .mk (own_heap hrow fun g hg => hk g ?_) fun t ht => ih t ht (hsub t ht) fun k hkt => hk k ?_
      · cases a with
        | none => simp [Value.ownBlock] at hg
        | some a => simp only [Value.ownBlock, Option.some.injEq] at hg; simp [AT.blks, hg]
      · simp only [AT.blks, List.mem_append]
        exact .inr (AT.mem_blksL.2 ⟨t, ht, hkt⟩)
theorem AT.Own.lt {w : World} {B : Nat} {T : AT} (h : T.Own w B) : ∀ k ∈ T.blks, B ≤ k ∧ k < w.heap.size := by
  induction T using AT.ind with
  | h k n x s a cap l ih =>
    cases h with
    | mk hrow hsub =>
      intro j hj
      simp only [AT.blks, List.mem_append] at hj
      rcases hj with hj | hj
      · cases a with
        | none => simp at hj
        | some a => simp at hj; exact hrow.lt j (by simp [Value.ownBlock, hj])
      · obtain ⟨t, ht, hjt⟩ := AT.mem_blksL.1 hj
        exact ih t ht (hsub t ht) j hjt
theorem AT.Own.blw {w w' : World} {B : Nat} {T : AT} (h : T.Own w B) (hb : Below w.heap.size w w') : T.Own w' B := h.kept fun k hk => hb.block k (h.lt k hk).2
theorem AT.Own.only {w w' : World} {B g : Nat} {T : AT} (h : T.Own w B) (ho : Only g w w') (hg : g ∉ T.blks) : T.Own w' B := h.kept fun k hk => ho.block k (h.lt k hk).2 (fun e => hg (e ▸ hk))
theorem own_base' {w : World} {B B' E c n : Nat} {v : Value} {xs : List Value} (h : w.ownsRow B E c v n xs) (hB : B' ≤ B) : w.ownsRow B' E c v n xs := by
  refine ⟨h.1, ?_⟩
  rcases h.2 with h | ⟨g, cap, cur, hv, hb, rest⟩
  · exact .inl h
  · exact .inr ⟨g, cap, cur, hv, Nat.le_trans hB hb, rest⟩
theorem AT.Own.base {w : World} {B B' : Nat} {T : AT} (h : T.Own w B) (hB : B' ≤ B) : T.Own w B' := by
  induction T using AT.ind with
  | h k n x s a cap l ih =>
    cases h with
    | mk hrow hsub => exact .mk (own_base' hrow hB) fun t ht => ih t ht (hsub t ht)
theorem own_cellL {w : World} {B : Nat} {a : Option Addr} {cap : Nat} {l : List AT} (h : w.ownsRow B 26 5 (.slice a l.length cap) l.length (cellsL l)) (j : Nat) (hj : j < l.length) :
    ∃ g, a = some ⟨g, 0, none⟩ ∧ B ≤ g ∧ g < w.heap.size ∧ CellsAt w g (0 + j * 5) l[j] := by
  rcases h.2 with ⟨_, h0⟩ | ⟨g, cap', cur, hv, hb, _⟩
  · omega
  · injection hv with h1 h2 h3
    subst h1
    have hlt := (h.lt g rfl).2
    have hc : ∀ c, c < 5 → w.cell? ⟨g, 0 + j * 5 + c, none⟩ = (l[j]).cells[c]? := fun c hc => by
      rw [Nat.zero_add, h.cellAt (j * 5 + c) (by omega), cellsL_get l j c hj hc]
    exact ⟨g, rfl, hb, hlt, (hc 0 (by omega)).trans rfl, (hc 1 (by omega)).trans rfl, (hc 2 (by omega)).trans rfl, (hc 3 (by omega)).trans rfl, (hc 4 (by omega)).trans rfl⟩
theorem own_cap {w : World} {B E c n : Nat} {a : Option Addr} {m cap : Nat} {xs : List Value} (h : w.ownsRow B E c (.slice a m cap) n xs) : m = n ∧ n ≤ cap ∧ cap ≤ maxLen := by
  rcases h.2 with ⟨h1, h0⟩ | ⟨g, cap', cur, hv, _, _, h1, h2, _⟩
  · injection h1 with e1 e2 e3
    unfold maxLen; omega
  · injection hv with e1 e2 e3
    omega
theorem AT.Own.in {w : World} {B : Nat} {T : AT} (h : T.Own w B) : T.In w w.heap.size := by
  induction T using AT.ind with
  | h k n x s a cap l ih =>
    cases h with
    | mk hrow hsub =>
      refine .mk (own_cap hrow).2.1 (fun j hj => ?_) fun t ht => ih t ht (hsub t ht)
      obtain ⟨g, ha, _, hlt, hC⟩ := own_cellL hrow j hj
      exact ⟨g, 0, ha, hlt, hC⟩
theorem OwnL.lv {w : World} {B : Nat} {a : Option Addr} {cap : Nat} {l : List AT} (h : OwnL w B a cap l) : Lv w w.heap.size a cap l :=
  (AT.Own.in (h.own (k := 0) (n := 0) (x := 0) (s := []))).lv
theorem AT.Own.set {w : World} {B g o : Nat} {u : Value} {T : AT} (h : T.Own w B) (hg : g < B) : T.Own (w.setCell ⟨g, o, none⟩ u) B :=
  h.only ((Only.refl g w).setCell o u) (fun hm => by have := (h.lt g hm).1; omega)
theorem OwnL.base {w : World} {B B' : Nat} {a : Option Addr} {cap : Nat} {l : List AT} (h : OwnL w B a cap l) (hB : B' ≤ B) : OwnL w B' a cap l := ⟨own_base' h.row hB, fun t ht => (h.sub t ht).base hB⟩
theorem bset {N B o : Nat} {w w' : World} {u : Value} (h : Below N w w') (hB : N ≤ B) : Below N w (w'.setCell ⟨B, o, none⟩ u) := h.setCell hB _
theorem keep_below {w w' : World} {p : Addr} {v : Value} (hb : Below w.heap.size w w') (h : w.cell? p = some v) : w'.cell? p = some v := (hb.cell (cell_lt h)).trans h
/-- a tree without elements -/
def AT.leaf (k n x : Int) (s : List UInt8) : AT := .mk k n x s none 0 []
theorem AT.leaf_own (w : World) (B : Nat) (k n x : Int) (s : List UInt8) : (AT.leaf k n x s).Own w B := .mk ⟨rfl, .inl ⟨rfl, rfl⟩⟩ (by simp)
end Go.Proofs.YtgfebmnlcihpnaaDoor
