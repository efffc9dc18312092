import Derived.Test.YtilgncebhgplaaaDoorRows
import Derived.Test.YtilgncebhgplaaaDoorG0
import Derived.WalkKit
import Derived.ProofKit
import Derived.Lib.SmallJoins
import Derived.Deep.Slices
import Derived.Deep.Fields
import Derived.ChangeSame
import Derived.Lib.Hide
import Derived.Outline
import Derived.StillTailTactics
/- The trees that a law is handed: what is read at the argument is a tree in memory. -/
namespace Go.Proofs.YtilgncebhgplaaaDoor
open Go.RowKit Go.Joins Go.ChangeShapes Go.WideShapes Go.Deep
theorem list_of {α : Type} {P : Nat → α → Prop} : ∀ (n : Nat), (∀ i, i < n → ∃ t, P i t) → ∃ l : List α, l.length = n ∧ ∀ i (h : i < l.length), P i l[i]
  | 0, _ => ⟨[], rfl, fun i h => absurd h (by simp)⟩
  | n + 1, h => by
    obtain ⟨l, hl, hp⟩ := list_of n (fun i hi => h i (by omega))
    obtain ⟨t, ht⟩ := h n (by omega)
    refine ⟨l ++ [t], by simp [hl], fun i hi => ?_⟩
    by_cases hil : i < l.length
    · rw [List.getElem_append_left hil]; exact hp i hil
    · have : i = n := by simp at hi; omega
      subst this
      rw [List.getElem_append_right (by omega)]
      simpa [hl] using ht
section
variable {H : Type} {enc : TypeId × Value → H} {P : Program} {w : World} {base : Nat} {spare : Nat → Bool} {held : Bool}
/-- the five one-cell fields of a struct's cells -/
theorem trod_five {t : TypeId} {f0 f1 f2 f3 f4 : Field} {cs : List Value} {fuel : Nat} {x : DataW H × List MemPlace} (hs : P.underlying t = some (.struct #[f0, f1, f2, f3, f4])) (hone : oneCellFields P #[f0, f1, f2, f3, f4] = true) (hC : P.cellsOf t = 5)
    (h : DataW.trod enc P w base spare held fuel t cs = some x) :
    ∃ (v0 v1 v2 v3 v4 : Value) (y0 y1 y2 y3 y4 : DataW H × List MemPlace) (n : Nat), fuel = n + 1 ∧ cs = [v0, v1, v2, v3, v4] ∧ DataW.trod enc P w base spare held n f0.type [v0] = some y0 ∧ DataW.trod enc P w base spare held n f1.type [v1] = some y1 ∧
      DataW.trod enc P w base spare held n f2.type [v2] = some y2 ∧ DataW.trod enc P w base spare held n f3.type [v3] = some y3 ∧ DataW.trod enc P w base spare held n f4.type [v4] = some y4 := by
  obtain ⟨xs, n, hfu, _, hcl, hlen, hg⟩ := DataW.trod_struct hs h
  have hC2 := hcl.trans hC
  obtain ⟨o0, k0⟩ := hone_of hone 0 f0 rfl
  obtain ⟨o1, k1⟩ := hone_of hone 1 f1 rfl
  obtain ⟨o2, k2⟩ := hone_of hone 2 f2 rfl
  obtain ⟨o3, k3⟩ := hone_of hone 3 f3 rfl
  obtain ⟨o4, k4⟩ := hone_of hone 4 f4 rfl
  match cs, hC2, xs, hlen with
  | [c0, c1, c2, c3, c4], _, [y0, y1, y2, y3, y4], _ =>
    exact ⟨c0, c1, c2, c3, c4, y0, y1, y2, y3, y4, n, hfu, rfl, by simpa [o0, k0] using hg 0 f0 rfl, by simpa [o1, k1] using hg 1 f1 rfl, by simpa [o2, k2] using hg 2 f2 rfl, by simpa [o3, k3] using hg 3 f3 rfl, by simpa [o4, k4] using hg 4 f4 rfl⟩
end
section
variable {H : Type} {enc : TypeId × Value → H} {W : World} {base : Nat} {spare : Nat → Bool} {held : Bool}
theorem val_cells5 : Tryd.prog.cellsOf 24 = 5 := by kernel_rfl
theorem open_list_of (fuel : Nat) (ih : ∀ m, m < fuel → ∀ cs (x : DataW H × List MemPlace), DataW.trod enc Tryd.prog W base spare held m 24 cs = some x → ∃ T : AT, cs = T.cells ∧ T.In W W.heap.size ∧ T.pt.Wf)
    (cs : List Value) (x : DataW H × List MemPlace) (h : DataW.trod enc Tryd.prog W base spare held fuel 22 cs = some x) :
    ∃ a cap l, cs = [.slice a l.length cap] ∧ Lv W W.heap.size a cap l ∧ l.length ≤ 9223372036854775807 ∧ ∀ t ∈ l, t.pt.Wf := by
  rcases DataW.trod_slice Tryd.underlying22 h with ⟨rfl, _⟩ | ⟨a, len, cap, elems, rest, n, hfu, rfl, _, _, hlc, hcm, hel, hread, _, _⟩
  · exact ⟨none, 0, [], rfl, ⟨Nat.le_refl _, fun j hj => absurd hj (by simp), by simp⟩, by simp, by simp⟩
  · rw [val_cells5] at hread
    have hsp : 0 < len → a.spot = none := by
      intro h0
      have key := hread 0 h0
      rw [List.getElem?_eq_getElem (by omega)] at key
      obtain ⟨cs', h1, h2⟩ := Option.bind_eq_some_iff.1 key
      obtain ⟨T, rfl, _, _⟩ := ih n (by omega) _ _ h2
      obtain ⟨_, _, hat⟩ := World.cells?_some h1
      simpa [Addr.add] using World.cell?_spot ((hat 0 (by omega)).trans (show T.cells[0]? = some _ from rfl))
    obtain ⟨l, hl, hp⟩ := list_of (P := fun i T => ∃ b o, a = ⟨b, o, none⟩ ∧ b < W.heap.size ∧ CellsAt W b (o + i * 5) T ∧ T.In W W.heap.size ∧ T.pt.Wf) len (fun i hi => by
      have key := hread i hi
      rw [List.getElem?_eq_getElem (by omega)] at key
      obtain ⟨cs', h1, h2⟩ := Option.bind_eq_some_iff.1 key
      obtain ⟨T, rfl, hin, hwf⟩ := ih n (by omega) _ _ h2
      obtain ⟨_, _, hat⟩ := World.cells?_some h1
      obtain ⟨b, off, spot⟩ := a
      obtain rfl : spot = none := hsp (by omega)
      have ha : ∀ j, j < 5 → W.cell? ⟨b, off + i * 5 + j, none⟩ = T.cells[j]? := fun j hj => by
        have := hat j hj
        rw [addr_add, addr_add] at this
        exact this
      refine ⟨T, b, off, rfl, cell_lt (p := ⟨b, off + i * 5 + 0, none⟩) ((ha 0 (by omega)).trans rfl), ⟨?_, ?_, ?_, ?_, ?_⟩, hin, hwf⟩
      · exact (ha 0 (by omega)).trans rfl
      · exact (ha 1 (by omega)).trans rfl
      · exact (ha 2 (by omega)).trans rfl
      · exact (ha 3 (by omega)).trans rfl
      · exact (ha 4 (by omega)).trans rfl)
    refine ⟨some a, cap, l, by rw [hl], ⟨by omega, fun j hj => ?_, fun t ht => ?_⟩, ?_, fun t ht => ?_⟩
    · obtain ⟨b, o, rfl, hb, hc, _⟩ := hp j hj
      exact ⟨b, o, rfl, hb, hc⟩
    · obtain ⟨j, hj, rfl⟩ := List.getElem_of_mem ht
      obtain ⟨b, o, _, hb, hc, hin, _⟩ := hp j hj
      exact hin
    · unfold maxLen at hcm; omega
    · obtain ⟨j, hj, rfl⟩ := List.getElem_of_mem ht
      obtain ⟨b, o, _, hb, hc, _, hwf⟩ := hp j hj
      exact hwf
set_option maxRecDepth 100000 in
theorem open_val_of (fuel : Nat) : ∀ cs (x : DataW H × List MemPlace), DataW.trod enc Tryd.prog W base spare held fuel 24 cs = some x → ∃ T : AT, cs = T.cells ∧ T.In W W.heap.size ∧ T.pt.Wf := by
  induction fuel using Nat.strongRecOn with
  | ind fuel ih =>
    intro cs x h
    obtain ⟨v0, v1, v2, v3, v4, y0, y1, y2, y3, y4, n, hfu, rfl, h0, h1, h2, h3, h4⟩ := trod_five Tryd.underlying24 (by kernel_rfl) val_cells5 h
    obtain ⟨k, hk, _, wk⟩ := DataW.trod_int Tryd.underlying3 h0
    obtain ⟨N, hN, _, wN⟩ := DataW.trod_int Tryd.underlying3 h1
    obtain ⟨X, hX, _, wX⟩ := DataW.trod_int Tryd.underlying3 h2
    obtain ⟨s, hs, _, ws⟩ := DataW.trod_string Tryd.underlying9 h3
    obtain ⟨a, cap, l, hl, hLv, hlen, hwf⟩ := open_list_of n (fun m hm => ih m (by omega)) _ _ h4
    simp only [List.cons.injEq, and_true] at hk hN hX hs hl
    subst hk hN hX hs hl
    refine ⟨.mk k N X s.data.toList a cap l, rfl, hLv.in, ?_⟩
    refine .mk (wf_le wk) (wf_le wN) (wf_le wX) ?_ (by rw [AT.ptL_length]; exact hlen) ?_
    · have : s.size = s.data.toList.length := (Array.length_toList (xs := s.data)).symm
      unfold maxLen at ws; omega
    · intro t ht
      rw [AT.ptL_eq] at ht
      obtain ⟨u, hu, rfl⟩ := List.mem_map.1 ht
      exact hwf u hu
set_option maxRecDepth 100000 in
/-- an argument that is a tree -/
theorem open_val {v : Value} {d : DataW H} {p : List MemPlace} {r : Reach} {b0 : Nat} (hv : Value.okWide Tryd.prog W r b0 24 v) (h : DataW.Trod enc Tryd.prog W base spare held 24 v d p) : ∃ T : AT, v = T.val ∧ T.In W W.heap.size ∧ T.pt.Wf := by
  obtain ⟨cs, rfl, hsz⟩ := okWide_struct Tryd.underlying24 hv
  obtain ⟨fuel, hf⟩ := h
  obtain ⟨T, hc, hin, hwf⟩ := open_val_of fuel _ _ hf
  refine ⟨T, ?_, hin, hwf⟩
  have : cs.toList = T.cells := hc
  rw [← Array.toArray_toList (xs := cs), this]
  rfl
set_option maxRecDepth 100000 in
/-- an argument that is a slice of trees -/
theorem open_vals {v : Value} {d : DataW H} {p : List MemPlace} {r : Reach} {b0 : Nat} (hv : Value.okWide Tryd.prog W r b0 22 v) (h : DataW.Trod enc Tryd.prog W base spare held 22 v d p) :
    ∃ a cap l, v = .slice a l.length cap ∧ Lv W W.heap.size a cap l ∧ l.length ≤ 9223372036854775807 ∧ ∀ t ∈ l, t.pt.Wf := by
  obtain ⟨a0, len, cap, rfl⟩ := WideShapes.okWide_slice Tryd.underlying22 hv
  obtain ⟨fuel, hf⟩ := h
  obtain ⟨a, cap, l, hc, hl, hlen, hwf⟩ := open_list_of fuel (fun m _ => open_val_of m) _ _ hf
  simp only [Value.cells, List.cons.injEq, and_true] at hc
  exact ⟨a, cap, l, hc, hl, hlen, hwf⟩
end
end Go.Proofs.YtilgncebhgplaaaDoor
/- Trees in rows of one's own: each element slice is a row of its own, all rows differ. -/
namespace Go.Proofs.YtilgncebhgplaaaDoor
open Go.RowKit
/-- the cells of a list of trees -/
def cellsL (l : List AT) : List Value := l.flatMap AT.cells
@[simp] theorem cellsL_nil : cellsL [] = [] := rfl
theorem cellsL_append (l m : List AT) : cellsL (l ++ m) = cellsL l ++ cellsL m := by simp [cellsL]
theorem cellsL_one (T : AT) : cellsL [T] = T.cells := by simp [cellsL]
theorem cellsL_length (l : List AT) : (cellsL l).length = l.length * 5 := by
  induction l with
  | nil => rfl
  | cons t l ih => simp only [cellsL, List.flatMap_cons, List.length_append, AT.cells_length] at *; simp only [List.length_cons]; omega
theorem cellsL_get (l : List AT) (j c : Nat) (hj : j < l.length) (hc : c < 5) : (cellsL l)[j * 5 + c]? = (l[j]).cells[c]? := by
  induction l generalizing j with
  | nil => simp at hj
  | cons t l ih =>
    show (t.cells ++ cellsL l)[j * 5 + c]? = _
    cases j with
    | zero =>
      rw [List.getElem?_append_left (by rw [AT.cells_length]; omega)]
      simp
    | succ j =>
      rw [List.getElem?_append_right (by rw [AT.cells_length]; omega), AT.cells_length]
      have := ih j (by simpa using hj)
      rw [show (j + 1) * 5 + c - 5 = j * 5 + c by omega, this]
      simp
theorem cellsL_ext (l m : List AT) (hl : l.length = m.length) (h : ∀ j (h1 : j < l.length) (h2 : j < m.length), (l[j]).cells = (m[j]).cells) : cellsL l = cellsL m := by
  induction l generalizing m with
  | nil => cases m with
    | nil => rfl
    | cons t m => simp at hl
  | cons t l ih =>
    cases m with
    | nil => simp at hl
    | cons u m =>
      show t.cells ++ cellsL l = u.cells ++ cellsL m
      rw [show t.cells = u.cells from h 0 (by simp) (by simp), ih m (by simpa using hl) (fun j h1 h2 => h (j + 1) (by simpa using h1) (by simpa using h2))]
theorem set_five (xs zs : List Value) (p : Nat) (v0 v1 v2 v3 v4 : Value) (hx : xs.length = p) (hz : 5 ≤ zs.length) :
    (((((xs ++ zs).set p v0).set (p + 1) v1).set (p + 2) v2).set (p + 3) v3).set (p + 4) v4 = xs ++ [v0, v1, v2, v3, v4] ++ zs.drop 5 := by
  subst hx
  match zs, hz with
  | z0 :: z1 :: z2 :: z3 :: z4 :: r, _ =>
    simp [List.set_append]
/-- each element slice is a row of the caller's own, in blocks from B on -/
inductive AT.Own (w : World) (B : Nat) : AT → Prop
  | mk {k n x : Int} {s : List UInt8} {a : Option Addr} {cap : Nat} {l : List AT} (hrow : w.ownsRow B 29 5 (.slice a l.length cap) l.length (cellsL l)) (hsub : ∀ t ∈ l, AT.Own w B t) : AT.Own w B (.mk k n x s a cap l)
structure OwnL (w : World) (B : Nat) (a : Option Addr) (cap : Nat) (l : List AT) : Prop where
  row : w.ownsRow B 29 5 (.slice a l.length cap) l.length (cellsL l)
  sub : ∀ t ∈ l, t.Own w B
theorem AT.Own.l {w : World} {B : Nat} {k n x : Int} {s : List UInt8} {a : Option Addr} {cap : Nat} {l : List AT} (h : AT.Own w B (.mk k n x s a cap l)) : OwnL w B a cap l := by
  cases h with
  | mk hrow hsub => exact ⟨hrow, hsub⟩
theorem AT.Own.l' {w : World} {B : Nat} {T : AT} (h : T.Own w B) : OwnL w B T.a T.cap T.l := by cases T; exact h.l
theorem OwnL.own {w : World} {B : Nat} {k n x : Int} {s : List UInt8} {a : Option Addr} {cap : Nat} {l : List AT} (h : OwnL w B a cap l) : AT.Own w B (.mk k n x s a cap l) := .mk h.row h.sub
mutual
def AT.blks : AT → List Nat
  | .mk _ _ _ _ a _ l => (a.map (·.block)).toList ++ AT.blksL l
def AT.blksL : List AT → List Nat
  | [] => []
  | t :: l => t.blks ++ AT.blksL l
end
theorem AT.blksL_append (l m : List AT) : AT.blksL (l ++ m) = AT.blksL l ++ AT.blksL m := by
  induction l with
  | nil => rfl
  | cons t l ih => simp [AT.blksL, ih]
theorem AT.blksL_one (T : AT) : AT.blksL [T] = T.blks := by simp [AT.blksL]
theorem AT.mem_blksL {l : List AT} {k : Nat} : k ∈ AT.blksL l ↔ ∃ t ∈ l, k ∈ t.blks := by
  induction l with
  | nil => simp [AT.blksL]
  | cons t l ih => simp [AT.blksL, ih]
theorem AT.blks_eq (T : AT) : T.blks = (T.a.map (·.block)).toList ++ AT.blksL T.l := by cases T; rfl
theorem AT.Own.kept {w w' : World} {B : Nat} {T : AT} (h : T.Own w B) (hk : ∀ k ∈ T.blks, w'.heap[k]? = w.heap[k]?) : T.Own w' B := by
  induction T using AT.ind with
  | h k n x s a cap l ih =>
    cases h with
    | mk hrow hsub =>
      refine .mk (own_heap hrow fun g hg => hk g ?_) fun t ht => ih t ht (hsub t ht) fun k hkt => hk k ?_
      · cases a with
        | none => simp [Value.ownBlock] at hg
        | some a => simp only [Value.ownBlock, Option.some.injEq] at hg; simp [AT.blks, hg]
      · simp only [AT.blks, List.mem_append]
        exact .inr (AT.mem_blksL.2 ⟨t, ht, hkt⟩)
theorem AT.Own.lt {w : World} {B : Nat} {T : AT} (h : T.Own w B) : ∀ k ∈ T.blks, B ≤ k ∧ k < w.heap.size := by
  induction T using AT.ind with
  | h k n x s a cap l ih =>
    cases h with
    | mk hrow hsub =>
      intro j hj
      simp only [AT.blks, List.mem_append] at hj
      rcases hj with hj | hj
      · cases a with
        | none => simp at hj
        | some a => simp at hj; exact hrow.lt j (by simp [Value.ownBlock, hj])
      · obtain ⟨t, ht, hjt⟩ := AT.mem_blksL.1 hj
        exact ih t ht (hsub t ht) j hjt
theorem AT.Own.blw {w w' : World} {B : Nat} {T : AT} (h : T.Own w B) (hb : Below w.heap.size w w') : T.Own w' B := h.kept fun k hk => hb.block k (h.lt k hk).2
theorem AT.Own.only {w w' : World} {B g : Nat} {T : AT} (h : T.Own w B) (ho : Only g w w') (hg : g ∉ T.blks) : T.Own w' B := h.kept fun k hk => ho.block k (h.lt k hk).2 (fun e => hg (e ▸ hk))
theorem AT.Own.base {w : World} {B B' : Nat} {T : AT} (h : T.Own w B) (hB : B' ≤ B) : T.Own w B' := by
  induction T using AT.ind with
  | h k n x s a cap l ih =>
    cases h with
    | mk hrow hsub => exact .mk (own_base' hrow hB) fun t ht => ih t ht (hsub t ht)
theorem own_cellL {w : World} {B : Nat} {a : Option Addr} {cap : Nat} {l : List AT} (h : w.ownsRow B 29 5 (.slice a l.length cap) l.length (cellsL l)) (j : Nat) (hj : j < l.length) :
    ∃ g, a = some ⟨g, 0, none⟩ ∧ B ≤ g ∧ g < w.heap.size ∧ CellsAt w g (0 + j * 5) l[j] := by
  rcases h.2 with ⟨_, h0⟩ | ⟨g, cap', cur, hv, hb, _⟩
  · omega
  · injection hv with h1 h2 h3
    subst h1
    have hlt := (h.lt g rfl).2
    have hc : ∀ c, c < 5 → w.cell? ⟨g, 0 + j * 5 + c, none⟩ = (l[j]).cells[c]? := fun c hc => by
      rw [Nat.zero_add, h.cellAt (j * 5 + c) (by omega), cellsL_get l j c hj hc]
    exact ⟨g, rfl, hb, hlt, (hc 0 (by omega)).trans rfl, (hc 1 (by omega)).trans rfl, (hc 2 (by omega)).trans rfl, (hc 3 (by omega)).trans rfl, (hc 4 (by omega)).trans rfl⟩
theorem AT.Own.in {w : World} {B : Nat} {T : AT} (h : T.Own w B) : T.In w w.heap.size := by
  induction T using AT.ind with
  | h k n x s a cap l ih =>
    cases h with
    | mk hrow hsub =>
      refine .mk (own_cap hrow).2.1 (fun j hj => ?_) fun t ht => ih t ht (hsub t ht)
      obtain ⟨g, ha, _, hlt, hC⟩ := own_cellL hrow j hj
      exact ⟨g, 0, ha, hlt, hC⟩
theorem OwnL.lv {w : World} {B : Nat} {a : Option Addr} {cap : Nat} {l : List AT} (h : OwnL w B a cap l) : Lv w w.heap.size a cap l :=
  (AT.Own.in (h.own (k := 0) (n := 0) (x := 0) (s := []))).lv
theorem AT.Own.set {w : World} {B g o : Nat} {u : Value} {T : AT} (h : T.Own w B) (hg : g < B) : T.Own (w.setCell ⟨g, o, none⟩ u) B :=
  h.only ((Only.refl g w).setCell o u) (fun hm => by have := (h.lt g hm).1; omega)
theorem OwnL.base {w : World} {B B' : Nat} {a : Option Addr} {cap : Nat} {l : List AT} (h : OwnL w B a cap l) (hB : B' ≤ B) : OwnL w B' a cap l := ⟨own_base' h.row hB, fun t ht => (h.sub t ht).base hB⟩
/-- a tree without elements -/
def AT.leaf (k n x : Int) (s : List UInt8) : AT := .mk k n x s none 0 []
theorem AT.leaf_own (w : World) (B : Nat) (k n x : Int) (s : List UInt8) : (AT.leaf k n x s).Own w B := .mk ⟨rfl, .inl ⟨rfl, rfl⟩⟩ (by simp)
end Go.Proofs.YtilgncebhgplaaaDoor
/- toVal of the exact laws: a copy of a tree in rows of its own. -/
namespace Go.Proofs.YtilgncebhgplaaaDoor
open Go.RowKit
/-- what a function that makes a tree hands on: a tree in rows of its own -/
def FreshV (w : World) (p : PT) (e : Ending) (w' : World) : Prop := ∃ T : AT, T.pt = p ∧ e = .returned T.val ∧ T.Own w' w.heap.size ∧ T.blks.Nodup ∧ Below w.heap.size w w'
def FreshL (w : World) (p : List PT) (e : Ending) (w' : World) : Prop := ∃ a cap l, AT.ptL l = p ∧ e = .returned (.slice a l.length cap) ∧ OwnL w' w.heap.size a cap l ∧ ((a.map (·.block)).toList ++ AT.blksL l).Nodup ∧ Below w.heap.size w w'
theorem three (w : World) (a b c : Obj) : Below w.heap.size w (((w.alloc a).alloc b).alloc c) := (((Below.refl w.heap.size w).alloc (Nat.le_refl _) a).alloc (by simp) b).alloc (by simp; omega) c
theorem toVal_of (k n x : Int) (s : List UInt8) (a : Option Addr) (cap : Nat) (l : List AT) (w : World) (hc : ∀ w1 : World, Below w.heap.size w w1 → Calls Tryd.prog 32 #[.slice a l.length cap] w1 (FreshL w1 (AT.ptL l))) :
    Calls Tryd.prog 11 #[(AT.mk k n x s a cap l).val] w (FreshV w (AT.mk k n x s a cap l).pt) := by
  have HC := Lib.hid hc
  clear hc
  show Calls Tryd.prog 11 #[.agg #[.int .i64 k, .int .i64 n, .int .i64 x, .string ⟨s.toArray⟩, .slice a l.length cap]] w _
  go_enter Tryd.func11, Tryd.ntmps11
  go_wp2_with fail
  have hb0 := three w (Obj.cells #[.int .i64 k, .int .i64 n, .int .i64 x, .string ⟨s.toArray⟩, .slice a l.length cap] 24) (Obj.cells #[.int .i64 0, .int .i64 0, .int .i64 0, .string ⟨#[]⟩, .slice none 0 0] 29) (Obj.cells #[.int .i64 k, .int .i64 n, .int .i64 x, .string ⟨s.toArray⟩, .slice none 0 0] 29)
  have HB0 := Lib.hid hb0
  refine (HC.out _ hb0).mono ?_
  clear hb0
  rintro e w1 ⟨a', cap', l', hp, rfl, hown, hnd, hb⟩
  have HP := Lib.hid hp
  have hown' : OwnL w1 (w.heap.size + 1 + 1 + 1) a' cap' l' := by simpa using hown
  have HO := Lib.hid hown'
  have HN := Lib.hid hnd
  have HB := Lib.hid hb
  have hsz := hb.size
  simp at hsz
  have k0 : w1.cell? ⟨w.heap.size + 2, 0, none⟩ = some (.int .i64 k) := (hb.cell (p := ⟨w.heap.size + 2, 0, none⟩) (by simp)).trans (by simp [go_sem])
  have k1 : w1.cell? ⟨w.heap.size + 2, 1, none⟩ = some (.int .i64 n) := (hb.cell (p := ⟨w.heap.size + 2, 1, none⟩) (by simp)).trans (by simp [go_sem])
  have k2 : w1.cell? ⟨w.heap.size + 2, 2, none⟩ = some (.int .i64 x) := (hb.cell (p := ⟨w.heap.size + 2, 2, none⟩) (by simp)).trans (by simp [go_sem])
  have k3 : w1.cell? ⟨w.heap.size + 2, 3, none⟩ = some (.string ⟨s.toArray⟩) := (hb.cell (p := ⟨w.heap.size + 2, 3, none⟩) (by simp)).trans (by simp [go_sem])
  have k4 : w1.cell? ⟨w.heap.size + 2, 4, none⟩ = some (.slice none 0 0) := (hb.cell (p := ⟨w.heap.size + 2, 4, none⟩) (by simp)).trans (by simp [go_sem])
  have f4 : w1.frozen? ⟨w.heap.size + 2, 4, none⟩ = false := (hb.frozen (p := ⟨w.heap.size + 2, 4, none⟩) (by simp)).trans (by simp [go_sem])
  have r0 : ∀ o, w1.frozen? ⟨w.heap.size + 1, o, none⟩ = false := fun o => (hb.frozen (p := ⟨w.heap.size + 1, o, none⟩) (by simp)).trans (by simp [go_sem])
  have q0 : w1.cell? ⟨w.heap.size + 1, 0, none⟩ = some (.int .i64 0) := (hb.cell (p := ⟨w.heap.size + 1, 0, none⟩) (by simp)).trans (by simp [go_sem])
  have q1 : w1.cell? ⟨w.heap.size + 1, 1, none⟩ = some (.int .i64 0) := (hb.cell (p := ⟨w.heap.size + 1, 1, none⟩) (by simp)).trans (by simp [go_sem])
  have q2 : w1.cell? ⟨w.heap.size + 1, 2, none⟩ = some (.int .i64 0) := (hb.cell (p := ⟨w.heap.size + 1, 2, none⟩) (by simp)).trans (by simp [go_sem])
  have q3 : w1.cell? ⟨w.heap.size + 1, 3, none⟩ = some (.string ⟨#[]⟩) := (hb.cell (p := ⟨w.heap.size + 1, 3, none⟩) (by simp)).trans (by simp [go_sem])
  have q4 : w1.cell? ⟨w.heap.size + 1, 4, none⟩ = some (.slice none 0 0) := (hb.cell (p := ⟨w.heap.size + 1, 4, none⟩) (by simp)).trans (by simp [go_sem])
  clear hp hown hown' hnd hb
  go_wp2
  refine bodyPost_ret (v := .agg #[.int .i64 k, .int .i64 n, .int .i64 x, .string ⟨s.toArray⟩, .slice a' l'.length cap']) (by simp [results, Tryd.results11, go_sem, q0, q1, q2, q3, q4]) rfl ⟨.mk k n x s a' cap' l', ?_, rfl, ?_, ?_, ?_⟩
  · simp [AT.pt, HP.out]
  · refine AT.Own.base (B := w.heap.size + 1 + 1 + 1) ?_ (by omega)
    refine AT.Own.set (AT.Own.set (AT.Own.set (AT.Own.set (AT.Own.set (AT.Own.set HO.out.own (by omega)) (by omega)) (by omega)) (by omega)) (by omega)) (by omega)
  · exact HN.out
  · exact bset (bset (bset (bset (bset (bset (HB0.out.trans (HB.out.mono (by simp; omega))) (by omega)) (by omega)) (by omega)) (by omega)) (by omega)) (by omega)
theorem valInfo : (Tryd.prog.info? 29).map (fun i => (i.zero, i.size, i.bytes)) = some (some (.agg #[.int .i64 0, .int .i64 0, .int .i64 0, .string ⟨#[]⟩, .slice none 0 0]), 5, 64) := by kernel_rfl
theorem own_put {w : World} {B g m cap : Nat} {l : List AT} {zs : List Value} (h : w.ownsRow B 29 5 (.slice (some ⟨g, 0, none⟩) m cap) m (cellsL l ++ zs)) (T : AT) (hz : 5 ≤ zs.length) :
    (((((w.setCell ⟨g, l.length * 5, none⟩ (.int .i64 T.k)).setCell ⟨g, l.length * 5 + 1, none⟩ (.int .i64 T.n)).setCell ⟨g, l.length * 5 + 2, none⟩ (.int .i64 T.x)).setCell ⟨g, l.length * 5 + 3, none⟩ (.string ⟨T.s.toArray⟩)).setCell ⟨g, l.length * 5 + 4, none⟩ (.slice T.a T.l.length T.cap)).ownsRow B 29 5 (.slice (some ⟨g, 0, none⟩) m cap) m (cellsL (l ++ [T]) ++ zs.drop 5) := by
  have h1 := (h.stored (l.length * 5) (.int .i64 T.k)).1
  have h2 := (h1.stored (l.length * 5 + 1) (.int .i64 T.n)).1
  have h3 := (h2.stored (l.length * 5 + 2) (.int .i64 T.x)).1
  have h4 := (h3.stored (l.length * 5 + 3) (.string ⟨T.s.toArray⟩)).1
  have h5 := (h4.stored (l.length * 5 + 4) (.slice T.a T.l.length T.cap)).1
  rw [set_five _ _ _ _ _ _ _ _ (cellsL_length l) hz] at h5
  rw [cellsL_append, cellsL_one]
  exact h5
theorem toValS_of (l : List AT) (ih : ∀ t ∈ l, t.pt.Wf → ∀ (w : World) (N : Nat), t.In w N → N ≤ w.heap.size → Calls Tryd.prog 11 #[t.val] w (FreshV w t.pt)) (hwf : ∀ t ∈ l, t.pt.Wf) (hl : l.length ≤ 1048576)
    (w : World) (N : Nat) (a : Option Addr) (cap : Nat) (h : Lv w N a cap l) (hN : N ≤ w.heap.size) : Calls Tryd.prog 32 #[.slice a l.length cap] w (FreshL w (AT.ptL l)) := by
  obtain ⟨i0, hi, hz0, hz1, hz2⟩ := info_parts valInfo
  have H := Lib.hid h
  have IH := Lib.hid ih
  have WF := Lib.hid hwf
  clear h ih hwf
  go_enter Tryd.func32, Tryd.ntmps32
  go_wp2_with (at_make; refine wpList_make_full _ rfl _ _ _ rfl w.heap.size 29 i0 (.agg #[.int .i64 0, .int .i64 0, .int .i64 0, .string ⟨#[]⟩, .slice none 0 0]) 5 Tryd.underlying27 hi hz0 hz1 _ _ _ _ l.length rfl rfl rfl rfl ?b2 ?b3 ?b4 ?_)
  case b2 => rw [hz2]; omega
  case b3 => unfold maxLen; omega
  case b4 => exact Nat.le_refl _
  intro w1 hown hgrow
  obtain ⟨z, hzl, hown⟩ : ∃ z : List Value, z.length = l.length * 5 ∧ w1.ownsRow w.heap.size 29 5 (.slice (some ⟨w.heap.size, 0, none⟩) l.length l.length) l.length z :=
    ⟨_, by rw [Array.length_toList, size_madeCells], hown⟩
  go_wp2
  go_loopw [4] (fun i wr => ∃ lr : List AT, i = .int .i64 lr.length ∧ lr.length ≤ l.length ∧ AT.ptL lr = (AT.ptL l).take lr.length ∧
      wr.ownsRow w.heap.size 29 5 (.slice (some ⟨w.heap.size, 0, none⟩) l.length l.length) l.length (cellsL lr ++ z.drop (lr.length * 5)) ∧
      (∀ t ∈ lr, t.Own wr (w.heap.size + 1)) ∧ (AT.blksL lr).Nodup ∧ Below w.heap.size w wr) (fun i _ => l.length - (intOf i).toNat)
  case atStart => exact ⟨[], rfl, Nat.zero_le _, by simp [AT.ptL], by simpa using hown, by simp, by simp [AT.blksL], grown_below0 hgrow (by simp)⟩
  case round =>
    obtain ⟨lr, rfl, hlr, hpt, hown', hsub, hnd, hb⟩ := hrel
    have HO := Lib.hid hown'
    have HB := Lib.hid hb
    have HS := Lib.hid hsub
    have HD := Lib.hid hnd
    have HP := Lib.hid hpt
    have hgl := (hown'.lt w.heap.size rfl).2
    clear hown hgrow hpt hnd hsub
    by_cases hlt : lr.length < l.length
    · obtain ⟨b, o, rfl, hbN, hC⟩ := H.out.cell lr.length hlt
      have hC := hC.keep (hb.block b (by omega))
      have hc := fun w' hw => IH.out l[lr.length] (List.getElem_mem hlt) (WF.out _ (List.getElem_mem hlt)) w' N ((H.out.sub _ (List.getElem_mem hlt)).blw hw hN)
      have HPt : Hid ((AT.ptL l).take (lr.length + 1) = (AT.ptL l).take lr.length ++ [(l[lr.length]).pt]) := Lib.hid (by
        rw [List.take_succ_eq_append_getElem (by simpa using hlt)]; simp [AT.ptL_eq])
      obtain ⟨T, hT⟩ : ∃ T, T = l[lr.length] := ⟨_, rfl⟩
      rw [← hT] at hC hc HPt
      clear hT
      obtain ⟨c0, c1, c2, c3, c4⟩ := hC
      have HC := Lib.hid hc
      clear hc hown'
      go_wp2_with fail
      refine (HC.out wr hb (by have := hb.size; omega)).mono ?_
      rintro e w2 ⟨T', hT', rfl, hOT, hNT, hb2⟩
      have hOR : w2.ownsRow w.heap.size 29 5 (.slice (some ⟨w.heap.size, 0, none⟩) l.length l.length) l.length (cellsL lr ++ z.drop (lr.length * 5)) := own_heap HO.out (fun g hg => hb2.block g (HO.out.lt g hg).2)
      have hlen : (cellsL lr ++ z.drop (lr.length * 5)).length = l.length * 5 := hOR.1
      have hcell : ∀ c, c < 5 → ∃ u, w2.cell? ⟨w.heap.size, lr.length * 5 + c, none⟩ = some u := fun c hc => by
        have h1 : lr.length * 5 + c < l.length * 5 := by omega
        exact ⟨_, (hOR.cellAt (lr.length * 5 + c) h1).trans (List.getElem?_eq_getElem (by rw [hlen]; exact h1))⟩
      obtain ⟨u0, k0⟩ := hcell 0 (by omega)
      obtain ⟨u1, k1⟩ := hcell 1 (by omega)
      obtain ⟨u2, k2⟩ := hcell 2 (by omega)
      obtain ⟨u3, k3⟩ := hcell 3 (by omega)
      obtain ⟨u4, k4⟩ := hcell 4 (by omega)
      rw [Nat.add_zero] at k0
      have hfr := hOR.frozenAt
      have HP' : Hid (T'.pt = T.pt) := Lib.hid hT'
      have HOT := Lib.hid hOT
      have HNT := Lib.hid hNT
      have HB2 := Lib.hid hb2
      have HOR := Lib.hid hOR
      clear hT' hOT hNT hb hb2 hOR hcell hlen
      go_wp2
      go_roundw
      case rel =>
        have hd : z.drop (lr.length * 5 + 5) = (z.drop (lr.length * 5)).drop 5 := by rw [List.drop_drop]
        refine ⟨lr ++ [T'], by simp, by simp; omega, ?_, ?_, ?_, ?_, ?_⟩
        · rw [AT.ptL_eq, List.map_append, ← AT.ptL_eq, HP.out, List.map_singleton, HP'.out, List.length_append, List.length_singleton, HPt.out]
        · have h5 := own_put HOR.out T' (by rw [List.length_drop]; omega)
          rw [List.length_append, List.length_singleton, Nat.add_mul, Nat.one_mul, hd]
          exact h5
        · intro t ht
          rcases List.mem_append.1 ht with ht | ht
          · exact ((((((HS.out t ht).blw HB2.out).set (by omega)).set (by omega)).set (by omega)).set (by omega)).set (by omega)
          · obtain rfl : t = T' := by simpa using ht
            exact (((((HOT.out.base (by omega)).set (by omega)).set (by omega)).set (by omega)).set (by omega)).set (by omega)
        · rw [AT.blksL_append, AT.blksL_one, List.nodup_append]
          refine ⟨HD.out, HNT.out, fun x hx y hy e => ?_⟩
          obtain ⟨t, ht, hxt⟩ := AT.mem_blksL.1 hx
          have h1 := ((HS.out t ht).lt x hxt).2
          have h2 := (HOT.out.lt y hy).1
          omega
        · exact bset (bset (bset (bset (bset (HB.out.trans (HB2.out.mono (by omega))) (Nat.le_refl _)) (Nat.le_refl _)) (Nat.le_refl _)) (Nat.le_refl _)) (Nat.le_refl _)
      case measure => simp [intOf]; omega
    · obtain heq : lr.length = l.length := by omega
      clear hown' hb
      go_wp2
      go_ret
      have hdr : z.drop (lr.length * 5) = [] := List.drop_eq_nil_of_le (by omega)
      refine ⟨some ⟨w.heap.size, 0, none⟩, l.length, lr, ?_, by rw [heq]; rfl, ⟨?_, fun t ht => (HS.out t ht).base (by omega)⟩, ?_, HB.out⟩
      · rw [HP.out, List.take_of_length_le (by simp; omega)]
      · have := HO.out
        rw [hdr, List.append_nil, ← heq] at this
        rw [← heq]
        exact this
      · show ([w.heap.size] ++ AT.blksL lr).Nodup
        rw [List.singleton_append, List.nodup_cons]
        refine ⟨fun hm => ?_, HD.out⟩
        obtain ⟨t, ht, hxt⟩ := AT.mem_blksL.1 hm
        have h1 := ((HS.out t ht).lt _ hxt).1
        omega
theorem toVal_any (T : AT) : T.pt.Wf → T.pt.sz ≤ 1048576 → ∀ (w : World) (N : Nat), T.In w N → N ≤ w.heap.size → Calls Tryd.prog 11 #[T.val] w (FreshV w T.pt) := by
  induction T using AT.ind with
  | h k n x s a cap l ih =>
    intro hwf hsz w N hin hN
    have e1 : (AT.mk k n x s a cap l).pt.sz = s.length + (l.length + PT.szL (AT.ptL l)) := by simp [AT.pt, PT.sz]
    have hsub : ∀ t ∈ l, t.pt.Wf := fun t ht => hwf.sub' t.pt (by rw [AT.ptL_eq]; exact List.mem_map_of_mem ht)
    have hss : ∀ t ∈ l, t.pt.sz ≤ 1048576 := fun t ht => by
      have := sz_mem (l := AT.ptL l) (t := t.pt) (by rw [AT.ptL_eq]; exact List.mem_map_of_mem ht)
      omega
    exact toVal_of k n x s a cap l w fun w1 hb => toValS_of l (fun t ht hwt => ih t ht hwt (hss t ht)) hsub (by omega) w1 N a cap (hin.lv.below hb hN) (Nat.le_trans hN hb.size)
theorem toValS_any (l : List AT) (hwf : ∀ t ∈ l, t.pt.Wf) (hsz : l.length + PT.szL (AT.ptL l) ≤ 1048576) (w : World) (N : Nat) (a : Option Addr) (cap : Nat) (h : Lv w N a cap l) (hN : N ≤ w.heap.size) : Calls Tryd.prog 32 #[.slice a l.length cap] w (FreshL w (AT.ptL l)) :=
  toValS_of l (fun t ht hwt => toVal_any t hwt (by
    have := sz_mem (l := AT.ptL l) (t := t.pt) (by rw [AT.ptL_eq]; exact List.mem_map_of_mem ht)
    omega)) hwf (by omega) w N a cap h hN
end Go.Proofs.YtilgncebhgplaaaDoor
/- eqVal of the exact laws: true for two trees that read the same. -/
namespace Go.Proofs.YtilgncebhgplaaaDoor
open Go.RowKit
theorem two (w : World) (a b : Obj) : Below w.heap.size w ((w.alloc a).alloc b) := ((Below.refl w.heap.size w).alloc (Nat.le_refl _) a).alloc (by simp) b
set_option maxRecDepth 100000 in
theorem eqValS_of (l : List AT) (ih : ∀ t ∈ l, ∀ (U : AT) (w : World) (N : Nat), t.pt = U.pt → t.In w N → U.In w N → N ≤ w.heap.size → Calls Tryd.prog 13 #[t.val, U.val] w fun e w' => e = .returned (.bool true) ∧ Below w.heap.size w w')
    (m : List AT) (hp : AT.ptL l = AT.ptL m) (hl : l.length ≤ 9223372036854775807) (w : World) (N : Nat) (a b : Option Addr) (cap cap2 : Nat) (h : Lv w N a cap l) (h2 : Lv w N b cap2 m) (hN : N ≤ w.heap.size) :
    Calls Tryd.prog 36 #[.slice a l.length cap, .slice b m.length cap2] w fun e w' => e = .returned (.bool true) ∧ Below w.heap.size w w' := by
  have hlen : m.length = l.length := by have := congrArg List.length hp; simpa using this.symm
  rw [hlen]
  have H := Lib.hid h
  have H2 := Lib.hid h2
  have IH := Lib.hid ih
  have HP := Lib.hid hp
  have HL := Lib.hid hlen
  clear h h2 ih hp hlen
  go_enter Tryd.func36, Tryd.ntmps36
  go_wp2
  go_loopw [5] (fun i wr => ∃ i' : Nat, i = .int .i64 i' ∧ i' ≤ l.length ∧ Below w.heap.size w wr) (fun i _ => l.length - (intOf i).toNat)
  case atStart => exact ⟨0, rfl, Nat.zero_le _, Below.refl _ _⟩
  case round =>
    obtain ⟨i', rfl, hi', hb⟩ := hrel
    have HB := Lib.hid hb
    by_cases hlt : i' < l.length
    · obtain ⟨g, o, rfl, hgN, hC⟩ := H.out.cell i' hlt
      obtain ⟨g2, o2, rfl, hgN2, hC2⟩ := H2.out.cell i' (by rw [HL.out]; exact hlt)
      have hC := hC.keep (hb.block g (by omega))
      have hC2 := hC2.keep (hb.block g2 (by omega))
      have hc := fun (w1 : World) (hb1 : Below wr.heap.size wr w1) => IH.out l[i'] (List.getElem_mem hlt) (m[i']'(by rw [HL.out]; exact hlt)) w1 N (by
        have := HP.out
        have e1 : (AT.ptL l)[i']? = (AT.ptL m)[i']? := by rw [this]
        simpa [AT.ptL_eq, List.getElem?_eq_getElem hlt, List.getElem?_eq_getElem (show i' < m.length by rw [HL.out]; exact hlt)] using e1) (((H.out.sub _ (List.getElem_mem hlt)).blw hb hN).blw hb1 (Nat.le_trans hN hb.size)) (((H2.out.sub _ (List.getElem_mem _)).blw hb hN).blw hb1 (Nat.le_trans hN hb.size)) (by have := hb.size; have := hb1.size; omega)
      obtain ⟨T, hT⟩ : ∃ T, T = l[i'] := ⟨_, rfl⟩
      obtain ⟨U, hU⟩ : ∃ U, U = m[i']'(by rw [HL.out]; exact hlt) := ⟨_, rfl⟩
      rw [← hT] at hC hc
      rw [← hU] at hC2 hc
      clear hT hU
      obtain ⟨c0, c1, c2, c3, c4⟩ := hC
      obtain ⟨d0, d1, d2, d3, d4⟩ := hC2
      have HC := Lib.hid hc
      clear hc hb
      go_wp2_with fail
      go_still_tail 8, (by kernel_rfl)
      go_wp2_with fail
      refine (HC.out _ ((Below.refl _ _).drew)).mono ?_
      rintro e w2 ⟨rfl, hb2⟩
      go_wp2
      go_roundw
      case rel => exact ⟨i' + 1, by go_num, by omega, HB.out.trans (((Below.refl wr.heap.size wr).drew).trans hb2 |>.mono HB.out.size)⟩
      case measure => simp [intOf]; omega
    · go_wp2
      go_ret
      exact ⟨rfl, HB.out⟩
theorem eqVal_any (T : AT) : T.pt.Wf → ∀ (U : AT) (w : World) (N : Nat), T.pt = U.pt → T.In w N → U.In w N → N ≤ w.heap.size → Calls Tryd.prog 13 #[T.val, U.val] w fun e w' => e = .returned (.bool true) ∧ Below w.heap.size w w' := by
  induction T using AT.ind with
  | h k n x s a cap l ih =>
    intro hwf U w N hp hin hin2 hN
    have hsub : ∀ t ∈ l, t.pt.Wf := fun t ht => hwf.sub' t.pt (by rw [AT.ptL_eq]; exact List.mem_map_of_mem ht)
    obtain ⟨hs, hl⟩ : s.length ≤ 9223372036854775807 ∧ l.length ≤ 9223372036854775807 := by
      cases hwf with
      | mk hk hn hx hs hl sub => exact ⟨hs, by rw [AT.ptL_length] at hl; exact hl⟩
    obtain ⟨k2, n2, x2, s2, b, cap2, m⟩ := U
    simp only [AT.pt, PT.mk.injEq] at hp
    obtain ⟨rfl, rfl, rfl, rfl, hp⟩ := hp
    have hc := fun (w1 : World) (hb1 : Below w.heap.size w w1) => eqValS_of l (fun t ht => ih t ht (hsub t ht)) m hp hl w1 N a b cap cap2 (hin.lv.below hb1 hN) (hin2.lv.below hb1 hN) (Nat.le_trans hN hb1.size)
    have HC := Lib.hid hc
    clear hc ih hsub hwf hin hin2 hp
    show Calls Tryd.prog 13 #[.agg #[.int .i64 k, .int .i64 n, .int .i64 x, .string ⟨s.toArray⟩, .slice a l.length cap], .agg #[.int .i64 k, .int .i64 n, .int .i64 x, .string ⟨s.toArray⟩, .slice b m.length cap2]] w _
    have hb0 := two w (.cells #[.int .i64 k, .int .i64 n, .int .i64 x, .string ⟨s.toArray⟩, .slice a l.length cap] 29) (.cells #[.int .i64 k, .int .i64 n, .int .i64 x, .string ⟨s.toArray⟩, .slice b m.length cap2] 29)
    have HB0 := Lib.hid hb0
    clear hb0
    go_enter Tryd.func13, Tryd.ntmps13
    go_wp2_with fail
    refine (HC.out _ HB0.out).mono ?_
    rintro e w2 ⟨rfl, hb⟩
    have HB := Lib.hid hb
    clear hb
    go_wp2
    go_ret
    exact ⟨rfl, HB0.out.trans (HB.out.mono (by simp; omega))⟩
end Go.Proofs.YtilgncebhgplaaaDoor
/- Boxes of two trees that stay behind a call. -/
namespace Go.Proofs.YtilgncebhgplaaaDoor
open Go.RowKit
theorem AT.Own.drew {w : World} {B : Nat} {T : AT} (h : T.Own w B) : T.Own w.drew B := h.kept (w' := w.drew) (fun _ _ => rfl)
theorem keep12 {w0 w w' : World} {B : Nat} {T : AT} {p0 p1 p2 p3 p4 q0 q1 q2 q3 q4 : Addr} {v0 v1 v2 v3 v4 u0 u1 u2 u3 u4 : Value} (hb : Below w.heap.size w w')
    (h : w.cell? p0 = some v0 ∧ w.cell? p1 = some v1 ∧ w.cell? p2 = some v2 ∧ w.cell? p3 = some v3 ∧ w.cell? p4 = some v4 ∧ w.cell? q0 = some u0 ∧ w.cell? q1 = some u1 ∧ w.cell? q2 = some u2 ∧ w.cell? q3 = some u3 ∧ w.cell? q4 = some u4 ∧ Below w0.heap.size w0 w ∧ T.Own w B) :
    w'.cell? p0 = some v0 ∧ w'.cell? p1 = some v1 ∧ w'.cell? p2 = some v2 ∧ w'.cell? p3 = some v3 ∧ w'.cell? p4 = some v4 ∧ w'.cell? q0 = some u0 ∧ w'.cell? q1 = some u1 ∧ w'.cell? q2 = some u2 ∧ w'.cell? q3 = some u3 ∧ w'.cell? q4 = some u4 ∧ Below w0.heap.size w0 w' ∧ T.Own w' B := by
  obtain ⟨h0, h1, h2, h3, h4, k0, k1, k2, k3, k4, hB, hT⟩ := h
  exact ⟨keep_below hb h0, keep_below hb h1, keep_below hb h2, keep_below hb h3, keep_below hb h4, keep_below hb k0, keep_below hb k1, keep_below hb k2, keep_below hb k3, keep_below hb k4, hB.trans (hb.mono hB.size), hT.blw hb⟩
theorem keep11 {w0 w w' : World} {p0 p1 p2 p3 p4 q0 q1 q2 q3 q4 : Addr} {v0 v1 v2 v3 v4 u0 u1 u2 u3 u4 : Value} (hb : Below w.heap.size w w')
    (h : w.cell? p0 = some v0 ∧ w.cell? p1 = some v1 ∧ w.cell? p2 = some v2 ∧ w.cell? p3 = some v3 ∧ w.cell? p4 = some v4 ∧ w.cell? q0 = some u0 ∧ w.cell? q1 = some u1 ∧ w.cell? q2 = some u2 ∧ w.cell? q3 = some u3 ∧ w.cell? q4 = some u4 ∧ Below w0.heap.size w0 w) :
    w'.cell? p0 = some v0 ∧ w'.cell? p1 = some v1 ∧ w'.cell? p2 = some v2 ∧ w'.cell? p3 = some v3 ∧ w'.cell? p4 = some v4 ∧ w'.cell? q0 = some u0 ∧ w'.cell? q1 = some u1 ∧ w'.cell? q2 = some u2 ∧ w'.cell? q3 = some u3 ∧ w'.cell? q4 = some u4 ∧ Below w0.heap.size w0 w' := by
  obtain ⟨h0, h1, h2, h3, h4, k0, k1, k2, k3, k4, hB⟩ := h
  exact ⟨keep_below hb h0, keep_below hb h1, keep_below hb h2, keep_below hb h3, keep_below hb h4, keep_below hb k0, keep_below hb k1, keep_below hb k2, keep_below hb k3, keep_below hb k4, hB.trans (hb.mono hB.size)⟩
theorem own_blw {w w' : World} {B : Nat} {T : AT} (hb : Below w.heap.size w w') (h : T.Own w B) : T.Own w' B := h.blw hb
theorem vcells5 (w : World) (T : AT) (t : TypeId) : (w.alloc (.cells #[.int .i64 T.k, .int .i64 T.n, .int .i64 T.x, .string ⟨T.s.toArray⟩, .slice T.a T.l.length T.cap] t)).cell? ⟨w.heap.size, 0, none⟩ = some (.int .i64 T.k) ∧ (w.alloc (.cells #[.int .i64 T.k, .int .i64 T.n, .int .i64 T.x, .string ⟨T.s.toArray⟩, .slice T.a T.l.length T.cap] t)).cell? ⟨w.heap.size, 1, none⟩ = some (.int .i64 T.n) ∧
    (w.alloc (.cells #[.int .i64 T.k, .int .i64 T.n, .int .i64 T.x, .string ⟨T.s.toArray⟩, .slice T.a T.l.length T.cap] t)).cell? ⟨w.heap.size, 2, none⟩ = some (.int .i64 T.x) ∧ (w.alloc (.cells #[.int .i64 T.k, .int .i64 T.n, .int .i64 T.x, .string ⟨T.s.toArray⟩, .slice T.a T.l.length T.cap] t)).cell? ⟨w.heap.size, 3, none⟩ = some (.string ⟨T.s.toArray⟩) ∧ (w.alloc (.cells #[.int .i64 T.k, .int .i64 T.n, .int .i64 T.x, .string ⟨T.s.toArray⟩, .slice T.a T.l.length T.cap] t)).cell? ⟨w.heap.size, 4, none⟩ = some (.slice T.a T.l.length T.cap) := by
  refine ⟨?_, ?_, ?_, ?_, ?_⟩ <;> simp [go_sem]
theorem boxes1 (w : World) (a : Obj) : Below w.heap.size w (w.alloc a) := vbox w a
theorem boxes2 (w : World) (a b : Obj) : Below w.heap.size w ((w.alloc a).alloc b) := ((Below.refl w.heap.size w).alloc (Nat.le_refl _) a).alloc (by simp) b
theorem boxes3 (w : World) (a b c : Obj) : Below w.heap.size w (((w.alloc a).alloc b).alloc c) := (((Below.refl w.heap.size w).alloc (Nat.le_refl _) a).alloc (by simp) b).alloc (by simp; omega) c
end Go.Proofs.YtilgncebhgplaaaDoor
