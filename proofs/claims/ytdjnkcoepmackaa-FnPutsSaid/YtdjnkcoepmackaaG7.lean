import Derived.Test.YtdjnkcoepmackaaG6
import Derived.Test.YtdjnkcoepmackaaG4
import Derived.Lib.Hide
import Derived.Outline
import Derived.ProofKit
import Derived.Test.YtdjnkcoepmackaaG0
/- Trees in rows of one's own: each element slice is a row of its own, all rows differ. -/
namespace Go.Proofs.Ytdjnkcoepmackaa
open Go.RowKit
/-- the cells of a list of trees -/
def cellsL (l : List AT) : List Value := l.flatMap AT.cells
@[simp] theorem cellsL_nil : cellsL [] = [] := rfl
theorem cellsL_append (l m : List AT) : cellsL (l ++ m) = cellsL l ++ cellsL m := by simp [cellsL]
theorem cellsL_one (T : AT) : cellsL [T] = T.cells := by simp [cellsL]
theorem cellsL_length (l : List AT) : (cellsL l).length = l.length * 5 := by
  induction l with
  | nil => rfl
  | cons t l ih => simp only [cellsL, List.flatMap_cons, List.length_append, AT.cells_length] at *; simp only [List.length_cons]; omega
theorem cellsL_get (l : List AT) (j c : Nat) (hj : j < l.length) (hc : c < 5) : (cellsL l)[j * 5 + c]? = (l[j]).cells[c]? := by
  induction l generalizing j with
  | nil => simp at hj
  | cons t l ih =>
    show (t.cells ++ cellsL l)[j * 5 + c]? = _
    cases j with
    | zero =>
      rw [List.getElem?_append_left (by rw [AT.cells_length]; omega)]
      simp
    | succ j =>
      rw [List.getElem?_append_right (by rw [AT.cells_length]; omega), AT.cells_length]
      have := ih j (by simpa using hj)
      rw [show (j + 1) * 5 + c - 5 = j * 5 + c by omega, this]
      simp
theorem cellsL_ext (l m : List AT) (hl : l.length = m.length) (h : ∀ j (h1 : j < l.length) (h2 : j < m.length), (l[j]).cells = (m[j]).cells) : cellsL l = cellsL m := by
  induction l generalizing m with
  | nil => cases m with
    | nil => rfl
    | cons t m => simp at hl
  | cons t l ih =>
    cases m with
    | nil => simp at hl
    | cons u m =>
      show t.cells ++ cellsL l = u.cells ++ cellsL m
      rw [show t.cells = u.cells from h 0 (by simp) (by simp), ih m (by simpa using hl) (fun j h1 h2 => h (j + 1) (by simpa using h1) (by simpa using h2))]
theorem set_five (xs zs : List Value) (p : Nat) (v0 v1 v2 v3 v4 : Value) (hx : xs.length = p) (hz : 5 ≤ zs.length) :
    (((((xs ++ zs).set p v0).set (p + 1) v1).set (p + 2) v2).set (p + 3) v3).set (p + 4) v4 = xs ++ [v0, v1, v2, v3, v4] ++ zs.drop 5 := by
  subst hx
  match zs, hz with
  | z0 :: z1 :: z2 :: z3 :: z4 :: r, _ =>
    simp [List.set_append]
/-- each element slice is a row of the caller's own, in blocks from B on -/
inductive AT.Own (w : World) (B : Nat) : AT → Prop
  | mk {k n x : Int} {s : List UInt8} {a : Option Addr} {cap : Nat} {l : List AT} (hrow : w.ownsRow B 28 5 (.slice a l.length cap) l.length (cellsL l)) (hsub : ∀ t ∈ l, AT.Own w B t) : AT.Own w B (.mk k n x s a cap l)
structure OwnL (w : World) (B : Nat) (a : Option Addr) (cap : Nat) (l : List AT) : Prop where
  row : w.ownsRow B 28 5 (.slice a l.length cap) l.length (cellsL l)
  sub : ∀ t ∈ l, t.Own w B
theorem AT.Own.l {w : World} {B : Nat} {k n x : Int} {s : List UInt8} {a : Option Addr} {cap : Nat} {l : List AT} (h : AT.Own w B (.mk k n x s a cap l)) : OwnL w B a cap l := by
  cases h with
  | mk hrow hsub => exact ⟨hrow, hsub⟩
theorem AT.Own.l' {w : World} {B : Nat} {T : AT} (h : T.Own w B) : OwnL w B T.a T.cap T.l := by cases T; exact h.l
theorem OwnL.own {w : World} {B : Nat} {k n x : Int} {s : List UInt8} {a : Option Addr} {cap : Nat} {l : List AT} (h : OwnL w B a cap l) : AT.Own w B (.mk k n x s a cap l) := .mk h.row h.sub
mutual
def AT.blks : AT → List Nat
  | .mk _ _ _ _ a _ l => (a.map (·.block)).toList ++ AT.blksL l
def AT.blksL : List AT → List Nat
  | [] => []
  | t :: l => t.blks ++ AT.blksL l
end
theorem AT.blksL_append (l m : List AT) : AT.blksL (l ++ m) = AT.blksL l ++ AT.blksL m := by
  induction l with
  | nil => rfl
  | cons t l ih => simp [AT.blksL, ih]
theorem AT.blksL_one (T : AT) : AT.blksL [T] = T.blks := by simp [AT.blksL]
theorem AT.mem_blksL {l : List AT} {k : Nat} : k ∈ AT.blksL l ↔ ∃ t ∈ l, k ∈ t.blks := by
  induction l with
  | nil => simp [AT.blksL]
  | cons t l ih => simp [AT.blksL, ih]
theorem AT.blks_eq (T : AT) : T.blks = (T.a.map (·.block)).toList ++ AT.blksL T.l := by cases T; rfl
theorem own_heap {w w' : World} {B E c n : Nat} {v : Value} {xs : List Value} (h : w.ownsRow B E c v n xs) (hg : ∀ g, v.ownBlock = some g → w'.heap[g]? = w.heap[g]?) : w'.ownsRow B E c v n xs := by
  refine ⟨h.1, ?_⟩
  rcases h.2 with h | ⟨g, cap, cur, rfl, hb, hh, rest⟩
  · exact .inl h
  · exact .inr ⟨g, cap, cur, rfl, hb, (hg g rfl).trans hh, rest⟩
theorem AT.Own.kept {w w' : World} {B : Nat} {T : AT} (h : T.Own w B) (hk : ∀ k ∈ T.blks, w'.heap[k]? = w.heap[k]?) : T.Own w' B := by
  induction T using AT.ind with
  | h k n x s a cap l ih =>
    cases h with
    | mk hrow hsub =>
      refine .mk (own_heap hrow fun g hg => hk g ?_) fun t ht => ih t ht (hsub t ht) fun k hkt => hk k ?_
      · cases a with
        | none => simp [Value.ownBlock] at hg
        | some a => simp only [Value.ownBlock, Option.some.injEq] at hg; simp [AT.blks, hg]
      · simp only [AT.blks, List.mem_append]
        exact .inr (AT.mem_blksL.2 ⟨t, ht, hkt⟩)
theorem AT.Own.lt {w : World} {B : Nat} {T : AT} (h : T.Own w B) : ∀ k ∈ T.blks, B ≤ k ∧ k < w.heap.size := by
  induction T using AT.ind with
  | h k n x s a cap l ih =>
    cases h with
    | mk hrow hsub =>
      intro j hj
      simp only [AT.blks, List.mem_append] at hj
      rcases hj with hj | hj
      · cases a with
        | none => simp at hj
        | some a => simp at hj; exact hrow.lt j (by simp [Value.ownBlock, hj])
      · obtain ⟨t, ht, hjt⟩ := AT.mem_blksL.1 hj
        exact ih t ht (hsub t ht) j hjt
theorem AT.Own.blw {w w' : World} {B : Nat} {T : AT} (h : T.Own w B) (hb : Below w.heap.size w w') : T.Own w' B := h.kept fun k hk => hb.block k (h.lt k hk).2
theorem AT.Own.only {w w' : World} {B g : Nat} {T : AT} (h : T.Own w B) (ho : Only g w w') (hg : g ∉ T.blks) : T.Own w' B := h.kept fun k hk => ho.block k (h.lt k hk).2 (fun e => hg (e ▸ hk))
theorem own_base' {w : World} {B B' E c n : Nat} {v : Value} {xs : List Value} (h : w.ownsRow B E c v n xs) (hB : B' ≤ B) : w.ownsRow B' E c v n xs := by
  refine ⟨h.1, ?_⟩
  rcases h.2 with h | ⟨g, cap, cur, hv, hb, rest⟩
  · exact .inl h
  · exact .inr ⟨g, cap, cur, hv, Nat.le_trans hB hb, rest⟩
theorem AT.Own.base {w : World} {B B' : Nat} {T : AT} (h : T.Own w B) (hB : B' ≤ B) : T.Own w B' := by
  induction T using AT.ind with
  | h k n x s a cap l ih =>
    cases h with
    | mk hrow hsub => exact .mk (own_base' hrow hB) fun t ht => ih t ht (hsub t ht)
theorem own_cellL {w : World} {B : Nat} {a : Option Addr} {cap : Nat} {l : List AT} (h : w.ownsRow B 28 5 (.slice a l.length cap) l.length (cellsL l)) (j : Nat) (hj : j < l.length) :
    ∃ g, a = some ⟨g, 0, none⟩ ∧ B ≤ g ∧ g < w.heap.size ∧ CellsAt w g (0 + j * 5) l[j] := by
  rcases h.2 with ⟨_, h0⟩ | ⟨g, cap', cur, hv, hb, _⟩
  · omega
  · injection hv with h1 h2 h3
    subst h1
    have hlt := (h.lt g rfl).2
    have hc : ∀ c, c < 5 → w.cell? ⟨g, 0 + j * 5 + c, none⟩ = (l[j]).cells[c]? := fun c hc => by
      rw [Nat.zero_add, h.cellAt (j * 5 + c) (by omega), cellsL_get l j c hj hc]
    exact ⟨g, rfl, hb, hlt, (hc 0 (by omega)).trans rfl, (hc 1 (by omega)).trans rfl, (hc 2 (by omega)).trans rfl, (hc 3 (by omega)).trans rfl, (hc 4 (by omega)).trans rfl⟩
theorem own_cap {w : World} {B E c n : Nat} {a : Option Addr} {m cap : Nat} {xs : List Value} (h : w.ownsRow B E c (.slice a m cap) n xs) : m = n ∧ n ≤ cap ∧ cap ≤ maxLen := by
  rcases h.2 with ⟨h1, h0⟩ | ⟨g, cap', cur, hv, _, _, h1, h2, _⟩
  · injection h1 with e1 e2 e3
    unfold maxLen; omega
  · injection hv with e1 e2 e3
    omega
theorem AT.Own.in {w : World} {B : Nat} {T : AT} (h : T.Own w B) : T.In w w.heap.size := by
  induction T using AT.ind with
  | h k n x s a cap l ih =>
    cases h with
    | mk hrow hsub =>
      refine .mk (own_cap hrow).2.1 (fun j hj => ?_) fun t ht => ih t ht (hsub t ht)
      obtain ⟨g, ha, _, hlt, hC⟩ := own_cellL hrow j hj
      exact ⟨g, 0, ha, hlt, hC⟩
theorem OwnL.lv {w : World} {B : Nat} {a : Option Addr} {cap : Nat} {l : List AT} (h : OwnL w B a cap l) : Lv w w.heap.size a cap l :=
  (AT.Own.in (h.own (k := 0) (n := 0) (x := 0) (s := []))).lv
theorem AT.Own.set {w : World} {B g o : Nat} {u : Value} {T : AT} (h : T.Own w B) (hg : g < B) : T.Own (w.setCell ⟨g, o, none⟩ u) B :=
  h.only ((Only.refl g w).setCell o u) (fun hm => by have := (h.lt g hm).1; omega)
theorem OwnL.base {w : World} {B B' : Nat} {a : Option Addr} {cap : Nat} {l : List AT} (h : OwnL w B a cap l) (hB : B' ≤ B) : OwnL w B' a cap l := ⟨own_base' h.row hB, fun t ht => (h.sub t ht).base hB⟩
theorem bset {N B o : Nat} {w w' : World} {u : Value} (h : Below N w w') (hB : N ≤ B) : Below N w (w'.setCell ⟨B, o, none⟩ u) := h.setCell hB _
theorem keep_below {w w' : World} {p : Addr} {v : Value} (hb : Below w.heap.size w w') (h : w.cell? p = some v) : w'.cell? p = some v := (hb.cell (cell_lt h)).trans h
/-- a tree without elements -/
def AT.leaf (k n x : Int) (s : List UInt8) : AT := .mk k n x s none 0 []
theorem AT.leaf_own (w : World) (B : Nat) (k n x : Int) (s : List UInt8) : (AT.leaf k n x s).Own w B := .mk ⟨rfl, .inl ⟨rfl, rfl⟩⟩ (by simp)
end Go.Proofs.Ytdjnkcoepmackaa
/- IntVal, TextVal, NumberVal of the program and of the model; marks of a tree without elements. -/
namespace Go.Proofs.Ytdjnkcoepmackaa
open Go.RowKit
theorem two_l (w : World) (a b : Obj) : Below w.heap.size w ((w.alloc a).alloc b) := ((Below.refl w.heap.size w).alloc (Nat.le_refl _) a).alloc (by simp) b
theorem zbox (w : World) {t : TypeId} {wr : World} (hb : Below (w.alloc (.cells #[.int .i64 0, .int .i64 0, .int .i64 0, .string ⟨#[]⟩, .slice none 0 0] t)).heap.size (w.alloc (.cells #[.int .i64 0, .int .i64 0, .int .i64 0, .string ⟨#[]⟩, .slice none 0 0] t)) wr) :
    wr.cell? ⟨w.heap.size, 0, none⟩ = some (.int .i64 0) ∧ wr.cell? ⟨w.heap.size, 1, none⟩ = some (.int .i64 0) ∧ wr.cell? ⟨w.heap.size, 2, none⟩ = some (.int .i64 0) ∧ wr.cell? ⟨w.heap.size, 3, none⟩ = some (.string ⟨#[]⟩) ∧ wr.cell? ⟨w.heap.size, 4, none⟩ = some (.slice none 0 0) ∧ (∀ o, wr.frozen? ⟨w.heap.size, o, none⟩ = false) := by
  refine ⟨?_, ?_, ?_, ?_, ?_, fun o => (hb.frozen (by simp)).trans (by simp [go_sem])⟩ <;> exact (hb.cell (by simp)).trans (by simp [go_sem])
theorem zbox2 (w : World) (o : Obj) {t : TypeId} {wr : World} (hb : Below ((w.alloc o).alloc (.cells #[.int .i64 0, .int .i64 0, .int .i64 0, .string ⟨#[]⟩, .slice none 0 0] t)).heap.size ((w.alloc o).alloc (.cells #[.int .i64 0, .int .i64 0, .int .i64 0, .string ⟨#[]⟩, .slice none 0 0] t)) wr) :
    wr.cell? ⟨w.heap.size + 1, 0, none⟩ = some (.int .i64 0) ∧ wr.cell? ⟨w.heap.size + 1, 1, none⟩ = some (.int .i64 0) ∧ wr.cell? ⟨w.heap.size + 1, 2, none⟩ = some (.int .i64 0) ∧ wr.cell? ⟨w.heap.size + 1, 3, none⟩ = some (.string ⟨#[]⟩) ∧ wr.cell? ⟨w.heap.size + 1, 4, none⟩ = some (.slice none 0 0) ∧ (∀ o, wr.frozen? ⟨w.heap.size + 1, o, none⟩ = false) := by
  have := zbox (w.alloc o) hb
  simpa using this
theorem mark0 (w : World) (k : Int) : Calls Try.prog 78 #[.slice none 0 0, .int .i64 k] w fun e w' => e = .returned (.int .i64 k) ∧ w = w' := by
  go_enter Try.func78, Try.ntmps78
  go_wp2
  go_loop [1, 5] (fun c i => c = .int .i64 k ∧ i = .int .i64 0) (fun _ _ => 0)
  case atStart => exact ⟨rfl, rfl⟩
  case round =>
    obtain ⟨rfl, rfl⟩ := hrel
    go_wp2
    go_ret
    exact ⟨rfl, rfl⟩
theorem held0 (w : World) (k : Int) : Calls Try.prog 79 #[.slice none 0 0, .int .i64 k] w fun e w' => e = .returned (.int .i64 k) ∧ w = w' := by
  go_enter Try.func79, Try.ntmps79
  go_wp2
  go_loop [1, 5] (fun c i => c = .int .i64 k ∧ i = .int .i64 0) (fun _ _ => 0)
  case atStart => exact ⟨rfl, rfl⟩
  case round =>
    obtain ⟨rfl, rfl⟩ := hrel
    go_wp2
    go_ret
    exact ⟨rfl, rfl⟩
theorem mark_leaf (w : World) (a n x : Int) (s : ByteArray) (k : Int) : Calls Try.prog 15 #[.agg #[.int .i64 a, .int .i64 n, .int .i64 x, .string s, .slice none 0 0], .int .i64 k] w fun e w' => e = .returned (.int .i64 k) ∧ Below w.heap.size w w' := by
  go_enter Try.func15, Try.ntmps15
  go_wp2_with fail
  refine (mark0 _ k).mono ?_
  rintro e w' ⟨rfl, rfl⟩
  go_wp2
  go_ret
  exact ⟨rfl, vbox _ _⟩
theorem held_leaf (w : World) (a n x : Int) (s : ByteArray) (k : Int) (hk : 0 ≤ k) : Calls Try.prog 16 #[.agg #[.int .i64 a, .int .i64 n, .int .i64 x, .string s, .slice none 0 0], .int .i64 k] w fun e w' => e = .returned (.int .i64 k) ∧ Below w.heap.size w w' := by
  have hneg : ¬ (k < 0) := by omega
  go_enter Try.func16, Try.ntmps16
  go_wp2_with fail
  refine (held0 _ k).mono ?_
  rintro e w' ⟨rfl, rfl⟩
  go_wp2
  go_ret
  exact ⟨rfl, vbox _ _⟩
theorem eq0 (w : World) : Calls Try.prog 77 #[.slice none 0 0, .slice none 0 0] w fun e w' => e = .returned (.bool true) ∧ w = w' := by
  go_enter Try.func77, Try.ntmps77
  go_wp2
  go_loop [5] (fun i => i = .int .i64 0) (fun _ => 0)
  case atStart => rfl
  case round =>
    subst hrel
    go_wp2
    go_ret
    exact ⟨rfl, rfl⟩
theorem eq_leaf (w : World) (a n x : Int) (s : ByteArray) : Calls Try.prog 14 #[.agg #[.int .i64 a, .int .i64 n, .int .i64 x, .string s, .slice none 0 0], .agg #[.int .i64 a, .int .i64 n, .int .i64 x, .string s, .slice none 0 0]] w fun e w' => e = .returned (.bool true) ∧ Below w.heap.size w w' := by
  go_enter Try.func14, Try.ntmps14
  go_wp2_with fail
  refine (eq0 _).mono ?_
  rintro e w' ⟨rfl, rfl⟩
  go_wp2
  go_ret
  exact ⟨rfl, two_l _ _ _⟩
theorem int_spec (w : World) (n : Int) : Calls Try.prog 61 #[.int .i64 n] w fun e w' => e = .returned (.agg #[.int .i64 3, .int .i64 n, .int .i64 0, .string ⟨#[]⟩, .slice none 0 0]) ∧ Below w.heap.size w w' := by
  go_enter Try.func61, Try.ntmps61
  go_wp2
  exact bodyPost_ret (v := .agg #[.int .i64 3, .int .i64 n, .int .i64 0, .string ⟨#[]⟩, .slice none 0 0]) (by simp [results, Try.results61, go_sem]) rfl ⟨rfl, vbox _ _⟩
theorem intval_impl (w : World) (n : Int) : Calls Try.prog 118 #[.int .i64 n] w fun e w' => e = .returned (.agg #[.int .i64 3, .int .i64 n, .int .i64 0, .string ⟨#[]⟩, .slice none 0 0]) ∧ Below w.heap.size w w' := by
  go_enter Try.func118, Try.ntmps118
  go_wp2
  exact bodyPost_ret (v := .agg #[.int .i64 3, .int .i64 n, .int .i64 0, .string ⟨#[]⟩, .slice none 0 0]) (by simp [results, Try.results118, go_sem]) rfl ⟨rfl, vbox _ _⟩
theorem int_impl (w : World) (n : Int) : Calls Try.prog 60 #[.int .i64 n] w fun e w' => e = .returned (.agg #[.int .i64 3, .int .i64 n, .int .i64 0, .string ⟨#[]⟩, .slice none 0 0]) ∧ Below w.heap.size w w' := by
  go_enter Try.func60, Try.ntmps60
  go_wp2_with fail
  refine (intval_impl _ n).mono ?_
  rintro e w1 ⟨rfl, hb⟩
  obtain ⟨q0, q1, q2, q3, q4, qf⟩ := zbox w hb
  have HB := Lib.hid ((vbox w _).trans (hb.mono (by simp)))
  clear hb
  go_wp2
  refine bodyPost_ret (v := .agg #[.int .i64 3, .int .i64 n, .int .i64 0, .string ⟨#[]⟩, .slice none 0 0]) (by simp [results, Try.results60, go_sem, q0, q1, q2, q3, q4]) rfl ⟨rfl, ?_⟩
  exact bset (bset (bset (bset (bset HB.out (Nat.le_refl _)) (Nat.le_refl _)) (Nat.le_refl _)) (Nat.le_refl _)) (Nat.le_refl _)
theorem text_spec (w : World) (s : ByteArray) : Calls Try.prog 63 #[.string s] w fun e w' => e = .returned (.agg #[.int .i64 7, .int .i64 0, .int .i64 0, .string s, .slice none 0 0]) ∧ Below w.heap.size w w' := by
  go_enter Try.func63, Try.ntmps63
  go_wp2
  exact bodyPost_ret (v := .agg #[.int .i64 7, .int .i64 0, .int .i64 0, .string s, .slice none 0 0]) (by simp [results, Try.results63, go_sem]) rfl ⟨rfl, vbox _ _⟩
theorem textval_impl (w : World) (s : ByteArray) : Calls Try.prog 119 #[.string s] w fun e w' => e = .returned (.agg #[.int .i64 7, .int .i64 0, .int .i64 0, .string s, .slice none 0 0]) ∧ Below w.heap.size w w' := by
  go_enter Try.func119, Try.ntmps119
  go_wp2
  exact bodyPost_ret (v := .agg #[.int .i64 7, .int .i64 0, .int .i64 0, .string s, .slice none 0 0]) (by simp [results, Try.results119, go_sem]) rfl ⟨rfl, vbox _ _⟩
theorem text_impl (w : World) (s : ByteArray) : Calls Try.prog 62 #[.string s] w fun e w' => e = .returned (.agg #[.int .i64 7, .int .i64 0, .int .i64 0, .string s, .slice none 0 0]) ∧ Below w.heap.size w w' := by
  go_enter Try.func62, Try.ntmps62
  go_wp2_with fail
  refine (textval_impl _ s).mono ?_
  rintro e w1 ⟨rfl, hb⟩
  obtain ⟨q0, q1, q2, q3, q4, qf⟩ := zbox w hb
  have HB := Lib.hid ((vbox w _).trans (hb.mono (by simp)))
  clear hb
  go_wp2
  refine bodyPost_ret (v := .agg #[.int .i64 7, .int .i64 0, .int .i64 0, .string s, .slice none 0 0]) (by simp [results, Try.results62, go_sem, q0, q1, q2, q3, q4]) rfl ⟨rfl, ?_⟩
  exact bset (bset (bset (bset (bset HB.out (Nat.le_refl _)) (Nat.le_refl _)) (Nat.le_refl _)) (Nat.le_refl _)) (Nat.le_refl _)
/-- the value of a decimal number -/
def numK (x : Int) : Int := if x = 0 then 3 else 6
theorem num_spec (w : World) (n x : Int) : Calls Try.prog 67 #[.agg #[.int .i64 n, .int .i64 x]] w fun e w' => e = .returned (.agg #[.int .i64 (numK x), .int .i64 n, .int .i64 x, .string ⟨#[]⟩, .slice none 0 0]) ∧ Below w.heap.size w w' := by
  by_cases hx : x = 0
  · subst hx
    show Calls Try.prog _ _ _ fun e w' => e = .returned (.agg #[.int .i64 3, .int .i64 n, .int .i64 0, .string ⟨#[]⟩, .slice none 0 0]) ∧ Below w.heap.size w w'
    go_enter Try.func67, Try.ntmps67
    go_wp2_with fail
    refine (int_spec _ n).mono ?_
    rintro e w1 ⟨rfl, hb⟩
    obtain ⟨q0, q1, q2, q3, q4, qf⟩ := zbox2 w _ hb
    have HB := Lib.hid ((two_l w _ _).trans (hb.mono (by simp; omega)))
    clear hb
    go_wp2
    refine bodyPost_ret (v := .agg #[.int .i64 3, .int .i64 n, .int .i64 0, .string ⟨#[]⟩, .slice none 0 0]) (by simp [results, Try.results67, go_sem, q0, q1, q2, q3, q4]) rfl ⟨rfl, ?_⟩
    exact bset (bset (bset (bset (bset HB.out (by omega)) (by omega)) (by omega)) (by omega)) (by omega)
  · have hk : numK x = 6 := if_neg hx
    rw [hk]
    clear hk
    go_enter Try.func67, Try.ntmps67
    go_wp2
    exact bodyPost_ret (v := .agg #[.int .i64 6, .int .i64 n, .int .i64 x, .string ⟨#[]⟩, .slice none 0 0]) (by simp [results, Try.results67, go_sem]) rfl ⟨rfl, two_l _ _ _⟩
theorem decval_impl (w : World) (n x : Int) : Calls Try.prog 122 #[.agg #[.int .i64 n, .int .i64 x]] w fun e w' => e = .returned (.agg #[.int .i64 6, .int .i64 n, .int .i64 x, .string ⟨#[]⟩, .slice none 0 0]) ∧ Below w.heap.size w w' := by
  go_enter Try.func122, Try.ntmps122
  go_wp2
  exact bodyPost_ret (v := .agg #[.int .i64 6, .int .i64 n, .int .i64 x, .string ⟨#[]⟩, .slice none 0 0]) (by simp [results, Try.results122, go_sem]) rfl ⟨rfl, two_l _ _ _⟩
theorem num_impl (w : World) (n x : Int) : Calls Try.prog 66 #[.agg #[.int .i64 n, .int .i64 x]] w fun e w' => e = .returned (.agg #[.int .i64 (numK x), .int .i64 n, .int .i64 x, .string ⟨#[]⟩, .slice none 0 0]) ∧ Below w.heap.size w w' := by
  by_cases hx : x = 0
  · subst hx
    show Calls Try.prog _ _ _ fun e w' => e = .returned (.agg #[.int .i64 3, .int .i64 n, .int .i64 0, .string ⟨#[]⟩, .slice none 0 0]) ∧ Below w.heap.size w w'
    go_enter Try.func66, Try.ntmps66
    go_wp2_with fail
    refine (int_impl _ n).mono ?_
    rintro e w1 ⟨rfl, hb⟩
    obtain ⟨q0, q1, q2, q3, q4, qf⟩ := zbox2 w _ hb
    have HB := Lib.hid ((two_l w _ _).trans (hb.mono (by simp; omega)))
    clear hb
    go_wp2
    refine bodyPost_ret (v := .agg #[.int .i64 3, .int .i64 n, .int .i64 0, .string ⟨#[]⟩, .slice none 0 0]) (by simp [results, Try.results66, go_sem, q0, q1, q2, q3, q4]) rfl ⟨rfl, ?_⟩
    exact bset (bset (bset (bset (bset HB.out (by omega)) (by omega)) (by omega)) (by omega)) (by omega)
  · have hk : numK x = 6 := if_neg hx
    rw [hk]
    clear hk
    go_enter Try.func66, Try.ntmps66
    go_wp2_with fail
    refine (decval_impl _ n x).mono ?_
    rintro e w1 ⟨rfl, hb⟩
    obtain ⟨q0, q1, q2, q3, q4, qf⟩ := zbox2 w _ hb
    have HB := Lib.hid ((two_l w _ _).trans (hb.mono (by simp; omega)))
    clear hb
    go_wp2
    refine bodyPost_ret (v := .agg #[.int .i64 6, .int .i64 n, .int .i64 x, .string ⟨#[]⟩, .slice none 0 0]) (by simp [results, Try.results66, go_sem, q0, q1, q2, q3, q4]) rfl ⟨rfl, ?_⟩
    exact bset (bset (bset (bset (bset HB.out (by omega)) (by omega)) (by omega)) (by omega)) (by omega)
end Go.Proofs.Ytdjnkcoepmackaa
/- toVal of the exact laws: a copy of a tree in rows of its own. -/
namespace Go.Proofs.Ytdjnkcoepmackaa
open Go.RowKit
/-- what a function that makes a tree hands on: a tree in rows of its own -/
def FreshV (w : World) (p : PT) (e : Ending) (w' : World) : Prop := ∃ T : AT, T.pt = p ∧ e = .returned T.val ∧ T.Own w' w.heap.size ∧ T.blks.Nodup ∧ Below w.heap.size w w'
def FreshL (w : World) (p : List PT) (e : Ending) (w' : World) : Prop := ∃ a cap l, AT.ptL l = p ∧ e = .returned (.slice a l.length cap) ∧ OwnL w' w.heap.size a cap l ∧ ((a.map (·.block)).toList ++ AT.blksL l).Nodup ∧ Below w.heap.size w w'
theorem three (w : World) (a b c : Obj) : Below w.heap.size w (((w.alloc a).alloc b).alloc c) := (((Below.refl w.heap.size w).alloc (Nat.le_refl _) a).alloc (by simp) b).alloc (by simp; omega) c
theorem toVal_of (k n x : Int) (s : List UInt8) (a : Option Addr) (cap : Nat) (l : List AT) (w : World) (hc : ∀ w1 : World, Below w.heap.size w w1 → Calls Try.prog 72 #[.slice a l.length cap] w1 (FreshL w1 (AT.ptL l))) :
    Calls Try.prog 12 #[(AT.mk k n x s a cap l).val] w (FreshV w (AT.mk k n x s a cap l).pt) := by
  have HC := Lib.hid hc
  clear hc
  show Calls Try.prog 12 #[.agg #[.int .i64 k, .int .i64 n, .int .i64 x, .string ⟨s.toArray⟩, .slice a l.length cap]] w _
  go_enter Try.func12, Try.ntmps12
  go_wp2_with fail
  have hb0 := three w (Obj.cells #[.int .i64 k, .int .i64 n, .int .i64 x, .string ⟨s.toArray⟩, .slice a l.length cap] 24) (Obj.cells #[.int .i64 0, .int .i64 0, .int .i64 0, .string ⟨#[]⟩, .slice none 0 0] 28) (Obj.cells #[.int .i64 k, .int .i64 n, .int .i64 x, .string ⟨s.toArray⟩, .slice none 0 0] 28)
  have HB0 := Lib.hid hb0
  refine (HC.out _ hb0).mono ?_
  clear hb0
  rintro e w1 ⟨a', cap', l', hp, rfl, hown, hnd, hb⟩
  have HP := Lib.hid hp
  have hown' : OwnL w1 (w.heap.size + 1 + 1 + 1) a' cap' l' := by simpa using hown
  have HO := Lib.hid hown'
  have HN := Lib.hid hnd
  have HB := Lib.hid hb
  have hsz := hb.size
  simp at hsz
  have k0 : w1.cell? ⟨w.heap.size + 2, 0, none⟩ = some (.int .i64 k) := (hb.cell (p := ⟨w.heap.size + 2, 0, none⟩) (by simp)).trans (by simp [go_sem])
  have k1 : w1.cell? ⟨w.heap.size + 2, 1, none⟩ = some (.int .i64 n) := (hb.cell (p := ⟨w.heap.size + 2, 1, none⟩) (by simp)).trans (by simp [go_sem])
  have k2 : w1.cell? ⟨w.heap.size + 2, 2, none⟩ = some (.int .i64 x) := (hb.cell (p := ⟨w.heap.size + 2, 2, none⟩) (by simp)).trans (by simp [go_sem])
  have k3 : w1.cell? ⟨w.heap.size + 2, 3, none⟩ = some (.string ⟨s.toArray⟩) := (hb.cell (p := ⟨w.heap.size + 2, 3, none⟩) (by simp)).trans (by simp [go_sem])
  have k4 : w1.cell? ⟨w.heap.size + 2, 4, none⟩ = some (.slice none 0 0) := (hb.cell (p := ⟨w.heap.size + 2, 4, none⟩) (by simp)).trans (by simp [go_sem])
  have f4 : w1.frozen? ⟨w.heap.size + 2, 4, none⟩ = false := (hb.frozen (p := ⟨w.heap.size + 2, 4, none⟩) (by simp)).trans (by simp [go_sem])
  have r0 : ∀ o, w1.frozen? ⟨w.heap.size + 1, o, none⟩ = false := fun o => (hb.frozen (p := ⟨w.heap.size + 1, o, none⟩) (by simp)).trans (by simp [go_sem])
  have q0 : w1.cell? ⟨w.heap.size + 1, 0, none⟩ = some (.int .i64 0) := (hb.cell (p := ⟨w.heap.size + 1, 0, none⟩) (by simp)).trans (by simp [go_sem])
  have q1 : w1.cell? ⟨w.heap.size + 1, 1, none⟩ = some (.int .i64 0) := (hb.cell (p := ⟨w.heap.size + 1, 1, none⟩) (by simp)).trans (by simp [go_sem])
  have q2 : w1.cell? ⟨w.heap.size + 1, 2, none⟩ = some (.int .i64 0) := (hb.cell (p := ⟨w.heap.size + 1, 2, none⟩) (by simp)).trans (by simp [go_sem])
  have q3 : w1.cell? ⟨w.heap.size + 1, 3, none⟩ = some (.string ⟨#[]⟩) := (hb.cell (p := ⟨w.heap.size + 1, 3, none⟩) (by simp)).trans (by simp [go_sem])
  have q4 : w1.cell? ⟨w.heap.size + 1, 4, none⟩ = some (.slice none 0 0) := (hb.cell (p := ⟨w.heap.size + 1, 4, none⟩) (by simp)).trans (by simp [go_sem])
  clear hp hown hown' hnd hb
  go_wp2
  refine bodyPost_ret (v := .agg #[.int .i64 k, .int .i64 n, .int .i64 x, .string ⟨s.toArray⟩, .slice a' l'.length cap']) (by simp [results, Try.results12, go_sem, q0, q1, q2, q3, q4]) rfl ⟨.mk k n x s a' cap' l', ?_, rfl, ?_, ?_, ?_⟩
  · simp [AT.pt, HP.out]
  · refine AT.Own.base (B := w.heap.size + 1 + 1 + 1) ?_ (by omega)
    refine AT.Own.set (AT.Own.set (AT.Own.set (AT.Own.set (AT.Own.set (AT.Own.set HO.out.own (by omega)) (by omega)) (by omega)) (by omega)) (by omega)) (by omega)
  · exact HN.out
  · exact bset (bset (bset (bset (bset (bset (HB0.out.trans (HB.out.mono (by simp; omega))) (by omega)) (by omega)) (by omega)) (by omega)) (by omega)) (by omega)
theorem valInfo : (Try.prog.info? 28).map (fun i => (i.zero, i.size, i.bytes)) = some (some (.agg #[.int .i64 0, .int .i64 0, .int .i64 0, .string ⟨#[]⟩, .slice none 0 0]), 5, 64) := by kernel_rfl
theorem own_put {w : World} {B g m cap : Nat} {l : List AT} {zs : List Value} (h : w.ownsRow B 28 5 (.slice (some ⟨g, 0, none⟩) m cap) m (cellsL l ++ zs)) (T : AT) (hz : 5 ≤ zs.length) :
    (((((w.setCell ⟨g, l.length * 5, none⟩ (.int .i64 T.k)).setCell ⟨g, l.length * 5 + 1, none⟩ (.int .i64 T.n)).setCell ⟨g, l.length * 5 + 2, none⟩ (.int .i64 T.x)).setCell ⟨g, l.length * 5 + 3, none⟩ (.string ⟨T.s.toArray⟩)).setCell ⟨g, l.length * 5 + 4, none⟩ (.slice T.a T.l.length T.cap)).ownsRow B 28 5 (.slice (some ⟨g, 0, none⟩) m cap) m (cellsL (l ++ [T]) ++ zs.drop 5) := by
  have h1 := (h.stored (l.length * 5) (.int .i64 T.k)).1
  have h2 := (h1.stored (l.length * 5 + 1) (.int .i64 T.n)).1
  have h3 := (h2.stored (l.length * 5 + 2) (.int .i64 T.x)).1
  have h4 := (h3.stored (l.length * 5 + 3) (.string ⟨T.s.toArray⟩)).1
  have h5 := (h4.stored (l.length * 5 + 4) (.slice T.a T.l.length T.cap)).1
  rw [set_five _ _ _ _ _ _ _ _ (cellsL_length l) hz] at h5
  rw [cellsL_append, cellsL_one]
  exact h5
theorem toValS_of (l : List AT) (ih : ∀ t ∈ l, t.pt.Wf → ∀ (w : World) (N : Nat), t.In w N → N ≤ w.heap.size → Calls Try.prog 12 #[t.val] w (FreshV w t.pt)) (hwf : ∀ t ∈ l, t.pt.Wf) (hl : l.length ≤ 1048576)
    (w : World) (N : Nat) (a : Option Addr) (cap : Nat) (h : Lv w N a cap l) (hN : N ≤ w.heap.size) : Calls Try.prog 72 #[.slice a l.length cap] w (FreshL w (AT.ptL l)) := by
  obtain ⟨i0, hi, hz0, hz1, hz2⟩ := info_parts valInfo
  have H := Lib.hid h
  have IH := Lib.hid ih
  have WF := Lib.hid hwf
  clear h ih hwf
  go_enter Try.func72, Try.ntmps72
  go_wp2_with (at_make; refine wpList_make_full _ rfl _ _ _ rfl w.heap.size 28 i0 (.agg #[.int .i64 0, .int .i64 0, .int .i64 0, .string ⟨#[]⟩, .slice none 0 0]) 5 Try.underlying26 hi hz0 hz1 _ _ _ _ l.length rfl rfl rfl rfl ?b2 ?b3 ?b4 ?_)
  case b2 => rw [hz2]; omega
  case b3 => unfold maxLen; omega
  case b4 => exact Nat.le_refl _
  intro w1 hown hgrow
  obtain ⟨z, hzl, hown⟩ : ∃ z : List Value, z.length = l.length * 5 ∧ w1.ownsRow w.heap.size 28 5 (.slice (some ⟨w.heap.size, 0, none⟩) l.length l.length) l.length z :=
    ⟨_, by rw [Array.length_toList, size_madeCells], hown⟩
  go_wp2
  go_loopw [4] (fun i wr => ∃ lr : List AT, i = .int .i64 lr.length ∧ lr.length ≤ l.length ∧ AT.ptL lr = (AT.ptL l).take lr.length ∧
      wr.ownsRow w.heap.size 28 5 (.slice (some ⟨w.heap.size, 0, none⟩) l.length l.length) l.length (cellsL lr ++ z.drop (lr.length * 5)) ∧
      (∀ t ∈ lr, t.Own wr (w.heap.size + 1)) ∧ (AT.blksL lr).Nodup ∧ Below w.heap.size w wr) (fun i _ => l.length - (intOf i).toNat)
  case atStart => exact ⟨[], rfl, Nat.zero_le _, by simp [AT.ptL], by simpa using hown, by simp, by simp [AT.blksL], grown_below0 hgrow (by simp)⟩
  case round =>
    obtain ⟨lr, rfl, hlr, hpt, hown', hsub, hnd, hb⟩ := hrel
    have HO := Lib.hid hown'
    have HB := Lib.hid hb
    have HS := Lib.hid hsub
    have HD := Lib.hid hnd
    have HP := Lib.hid hpt
    have hgl := (hown'.lt w.heap.size rfl).2
    clear hown hgrow hpt hnd hsub
    by_cases hlt : lr.length < l.length
    · obtain ⟨b, o, rfl, hbN, hC⟩ := H.out.cell lr.length hlt
      have hC := hC.keep (hb.block b (by omega))
      have hc := fun w' hw => IH.out l[lr.length] (List.getElem_mem hlt) (WF.out _ (List.getElem_mem hlt)) w' N ((H.out.sub _ (List.getElem_mem hlt)).blw hw hN)
      have HPt : Hid ((AT.ptL l).take (lr.length + 1) = (AT.ptL l).take lr.length ++ [(l[lr.length]).pt]) := Lib.hid (by
        rw [List.take_succ_eq_append_getElem (by simpa using hlt)]; simp [AT.ptL_eq])
      obtain ⟨T, hT⟩ : ∃ T, T = l[lr.length] := ⟨_, rfl⟩
      rw [← hT] at hC hc HPt
      clear hT
      obtain ⟨c0, c1, c2, c3, c4⟩ := hC
      have HC := Lib.hid hc
      clear hc hown'
      go_wp2_with fail
      refine (HC.out wr hb (by have := hb.size; omega)).mono ?_
      rintro e w2 ⟨T', hT', rfl, hOT, hNT, hb2⟩
      have hOR : w2.ownsRow w.heap.size 28 5 (.slice (some ⟨w.heap.size, 0, none⟩) l.length l.length) l.length (cellsL lr ++ z.drop (lr.length * 5)) := own_heap HO.out (fun g hg => hb2.block g (HO.out.lt g hg).2)
      have hlen : (cellsL lr ++ z.drop (lr.length * 5)).length = l.length * 5 := hOR.1
      have hcell : ∀ c, c < 5 → ∃ u, w2.cell? ⟨w.heap.size, lr.length * 5 + c, none⟩ = some u := fun c hc => by
        have h1 : lr.length * 5 + c < l.length * 5 := by omega
        exact ⟨_, (hOR.cellAt (lr.length * 5 + c) h1).trans (List.getElem?_eq_getElem (by rw [hlen]; exact h1))⟩
      obtain ⟨u0, k0⟩ := hcell 0 (by omega)
      obtain ⟨u1, k1⟩ := hcell 1 (by omega)
      obtain ⟨u2, k2⟩ := hcell 2 (by omega)
      obtain ⟨u3, k3⟩ := hcell 3 (by omega)
      obtain ⟨u4, k4⟩ := hcell 4 (by omega)
      rw [Nat.add_zero] at k0
      have hfr := hOR.frozenAt
      have HP' : Hid (T'.pt = T.pt) := Lib.hid hT'
      have HOT := Lib.hid hOT
      have HNT := Lib.hid hNT
      have HB2 := Lib.hid hb2
      have HOR := Lib.hid hOR
      clear hT' hOT hNT hb hb2 hOR hcell hlen
      go_wp2
      go_roundw
      case rel =>
        have hd : z.drop (lr.length * 5 + 5) = (z.drop (lr.length * 5)).drop 5 := by rw [List.drop_drop]
        refine ⟨lr ++ [T'], by simp, by simp; omega, ?_, ?_, ?_, ?_, ?_⟩
        · rw [AT.ptL_eq, List.map_append, ← AT.ptL_eq, HP.out, List.map_singleton, HP'.out, List.length_append, List.length_singleton, HPt.out]
        · have h5 := own_put HOR.out T' (by rw [List.length_drop]; omega)
          rw [List.length_append, List.length_singleton, Nat.add_mul, Nat.one_mul, hd]
          exact h5
        · intro t ht
          rcases List.mem_append.1 ht with ht | ht
          · exact ((((((HS.out t ht).blw HB2.out).set (by omega)).set (by omega)).set (by omega)).set (by omega)).set (by omega)
          · obtain rfl : t = T' := by simpa using ht
            exact (((((HOT.out.base (by omega)).set (by omega)).set (by omega)).set (by omega)).set (by omega)).set (by omega)
        · rw [AT.blksL_append, AT.blksL_one, List.nodup_append]
          refine ⟨HD.out, HNT.out, fun x hx y hy e => ?_⟩
          obtain ⟨t, ht, hxt⟩ := AT.mem_blksL.1 hx
          have h1 := ((HS.out t ht).lt x hxt).2
          have h2 := (HOT.out.lt y hy).1
          omega
        · exact bset (bset (bset (bset (bset (HB.out.trans (HB2.out.mono (by omega))) (Nat.le_refl _)) (Nat.le_refl _)) (Nat.le_refl _)) (Nat.le_refl _)) (Nat.le_refl _)
      case measure => simp [intOf]; omega
    · obtain heq : lr.length = l.length := by omega
      clear hown' hb
      go_wp2
      go_ret
      have hdr : z.drop (lr.length * 5) = [] := List.drop_eq_nil_of_le (by omega)
      refine ⟨some ⟨w.heap.size, 0, none⟩, l.length, lr, ?_, by rw [heq]; rfl, ⟨?_, fun t ht => (HS.out t ht).base (by omega)⟩, ?_, HB.out⟩
      · rw [HP.out, List.take_of_length_le (by simp; omega)]
      · have := HO.out
        rw [hdr, List.append_nil, ← heq] at this
        rw [← heq]
        exact this
      · show ([w.heap.size] ++ AT.blksL lr).Nodup
        rw [List.singleton_append, List.nodup_cons]
        refine ⟨fun hm => ?_, HD.out⟩
        obtain ⟨t, ht, hxt⟩ := AT.mem_blksL.1 hm
        have h1 := ((HS.out t ht).lt _ hxt).1
        omega
theorem toVal_any (T : AT) : T.pt.Wf → T.pt.sz ≤ 1048576 → ∀ (w : World) (N : Nat), T.In w N → N ≤ w.heap.size → Calls Try.prog 12 #[T.val] w (FreshV w T.pt) := by
  induction T using AT.ind with
  | h k n x s a cap l ih =>
    intro hwf hsz w N hin hN
    have e1 : (AT.mk k n x s a cap l).pt.sz = s.length + (l.length + PT.szL (AT.ptL l)) := by simp [AT.pt, PT.sz]
    have hsub : ∀ t ∈ l, t.pt.Wf := fun t ht => hwf.sub' t.pt (by rw [AT.ptL_eq]; exact List.mem_map_of_mem ht)
    have hss : ∀ t ∈ l, t.pt.sz ≤ 1048576 := fun t ht => by
      have := sz_mem (l := AT.ptL l) (t := t.pt) (by rw [AT.ptL_eq]; exact List.mem_map_of_mem ht)
      omega
    exact toVal_of k n x s a cap l w fun w1 hb => toValS_of l (fun t ht hwt => ih t ht hwt (hss t ht)) hsub (by omega) w1 N a cap (hin.lv.below hb hN) (Nat.le_trans hN hb.size)
theorem toValS_any (l : List AT) (hwf : ∀ t ∈ l, t.pt.Wf) (hsz : l.length + PT.szL (AT.ptL l) ≤ 1048576) (w : World) (N : Nat) (a : Option Addr) (cap : Nat) (h : Lv w N a cap l) (hN : N ≤ w.heap.size) : Calls Try.prog 72 #[.slice a l.length cap] w (FreshL w (AT.ptL l)) :=
  toValS_of l (fun t ht hwt => toVal_any t hwt (by
    have := sz_mem (l := AT.ptL l) (t := t.pt) (by rw [AT.ptL_eq]; exact List.mem_map_of_mem ht)
    omega)) hwf (by omega) w N a cap h hN
end Go.Proofs.Ytdjnkcoepmackaa
/- CountOf and DeepOf of the model. -/
namespace Go.Proofs.Ytdjnkcoepmackaa
open Go.RowKit
theorem cntL_le (l : List PT) (M : Nat) (h : ∀ t ∈ l, t.sz ≤ M) : PT.cntL l ≤ l.length + PT.szL l := by
  induction l with
  | nil => simp [PT.cntL]
  | cons t l ih =>
    have h1 := cnt_le_sz t
    have h2 := ih (fun u hu => h u (by simp [hu]))
    simp only [PT.cntL, PT.szL, List.length_cons]
    omega
theorem take_step (l : List AT) (i : Nat) (h : i < l.length) : i < (AT.ptL l).length ∧ (AT.ptL l)[i]? = some (l[i]).pt := by
  rw [AT.ptL_length]
  exact ⟨h, by simp [AT.ptL_eq, List.getElem?_eq_getElem h]⟩
theorem ptL_get (l : List AT) (i : Nat) (h : i < l.length) : (AT.ptL l)[i]'(by rw [AT.ptL_length]; exact h) = (l[i]).pt := by simp [AT.ptL_eq]
theorem box5 (w : World) (k n x : Int) (s : ByteArray) (a : Option Addr) (len cap : Nat) (t : TypeId) {wr : World} (hb : Below (w.heap.size + 1) (w.alloc (.cells #[.int .i64 k, .int .i64 n, .int .i64 x, .string s, .slice a len cap] t)) wr) :
    wr.cell? ⟨w.heap.size, 0, none⟩ = some (.int .i64 k) ∧ wr.cell? ⟨w.heap.size, 1, none⟩ = some (.int .i64 n) ∧ wr.cell? ⟨w.heap.size, 2, none⟩ = some (.int .i64 x) ∧ wr.cell? ⟨w.heap.size, 3, none⟩ = some (.string s) ∧ wr.cell? ⟨w.heap.size, 4, none⟩ = some (.slice a len cap) := by
  refine ⟨?_, ?_, ?_, ?_, ?_⟩ <;> exact (hb.cell (by simp)).trans (by simp [go_sem])
theorem szL_ge {l : List AT} {t : AT} (h : t ∈ l) : t.pt.sz ≤ PT.szL (AT.ptL l) := sz_mem (by rw [AT.ptL_eq]; exact List.mem_map_of_mem h)
theorem count_spec (T : AT) : T.pt.Wf → T.pt.sz ≤ 1048576 → ∀ (w : World) (N : Nat), T.In w N → N ≤ w.heap.size → Calls Try.prog 57 #[T.val] w fun e w' => e = .returned (.int .i64 (T.pt.cnt : Nat)) ∧ Below w.heap.size w w' := by
  induction T using AT.ind with
  | h k n x s a cap l ih =>
    intro hwf hsz w N hin hN
    have e1 : (AT.mk k n x s a cap l).pt.sz = s.length + (l.length + PT.szL (AT.ptL l)) := by simp [AT.pt, PT.sz]
    have e2 : (AT.mk k n x s a cap l).pt.cnt = PT.cntL (AT.ptL l) + 1 := by simp [AT.pt, PT.cnt]
    have hbd : PT.cntL (AT.ptL l) ≤ 2097152 := by
      have := cntL_le (AT.ptL l) _ (fun t ht => sz_mem ht)
      rw [AT.ptL_length] at this; omega
    have hll : l.length ≤ 1048576 := by omega
    have hc := fun (t : AT) (ht : t ∈ l) (w1 : World) (hb : Below w.heap.size w w1) => ih t ht (hwf.sub' t.pt (by rw [AT.ptL_eq]; exact List.mem_map_of_mem ht)) (by have := szL_ge ht; omega) w1 N (((hin.lv.sub t ht).blw hb hN)) (Nat.le_trans hN hb.size)
    rw [e2]
    have H := Lib.hid hin.lv
    have HC := Lib.hid hc
    clear hc ih hin hwf e1 e2 hsz
    show Calls Try.prog 57 #[.agg #[.int .i64 k, .int .i64 n, .int .i64 x, .string ⟨s.toArray⟩, .slice a l.length cap]] w _
    generalize (ByteArray.mk s.toArray) = S at *
    go_enter Try.func57, Try.ntmps57
    go_wp2
    go_loopw [3, 4] (fun c i wr => ∃ i' : Nat, c = .int .i64 ((PT.cntL ((AT.ptL l).take i') + 1 : Nat)) ∧ i = .int .i64 i' ∧ i' ≤ l.length ∧ Below (w.heap.size + 1) (w.alloc (.cells #[.int .i64 k, .int .i64 n, .int .i64 x, .string S, .slice a l.length cap] 28)) wr) (fun _ i _ => l.length - (intOf i).toNat)
    case atStart => exact ⟨0, by simp [PT.cntL], rfl, Nat.zero_le _, Below.refl _ _⟩
    case round =>
      obtain ⟨i', rfl, rfl, hi', hb⟩ := hrel
      have hcell := (box5 w k n x S a l.length cap 28 hb).2.2.2.2
      have hBw : Below w.heap.size w wr := (vbox _ _).trans (hb.mono (by omega))
      by_cases hlt : i' < l.length
      · obtain ⟨b, o, rfl, hbN, hC⟩ := H.out.cell i' hlt
        have hC := hC.keep (hBw.block b (by omega))
        have hc := HC.out l[i'] (List.getElem_mem hlt) wr hBw
        have hst := cntL_take (AT.ptL l) i' (by rw [AT.ptL_length]; exact hlt)
        rw [ptL_get l i' hlt] at hst
        have hle := cntL_take_le (AT.ptL l) (i' + 1)
        obtain ⟨T, hT⟩ : ∃ T, T = l[i'] := ⟨_, rfl⟩
        rw [← hT] at hC hc hst
        have hbd1 : PT.cntL ((AT.ptL l).take i') + T.pt.cnt ≤ 2097152 := by omega
        have HST := Lib.hid hst
        have HCC := Lib.hid hc
        have HB := Lib.hid hb
        obtain ⟨c0, c1, c2, c3, c4⟩ := hC
        clear hT hst hc hb hle hbd
        generalize PT.cntL ((AT.ptL l).take i') = C at *
        generalize T.pt.cnt = D at *
        go_wp2_with fail
        refine (HCC.out).mono ?_
        rintro e w2 ⟨rfl, hb2⟩
        go_wp2
        go_roundw
        case rel => exact ⟨i' + 1, by rw [HST.out]; go_num, by go_num, by omega, HB.out.trans (hb2.mono (by have := HB.out.size; simp at this; omega))⟩
        case measure => simp [intOf]; omega
      · obtain rfl : i' = l.length := by omega
        have HBw := Lib.hid hBw
        clear hBw hb
        go_wp2
        go_ret
        exact ⟨ret_int (by rw [List.take_of_length_le (by simp)]), HBw.out⟩
theorem deep_spec (T : AT) : T.pt.Wf → T.pt.sz ≤ 1048576 → ∀ (w : World) (N : Nat), T.In w N → N ≤ w.heap.size → Calls Try.prog 56 #[T.val] w fun e w' => e = .returned (.int .i64 (T.pt.deep : Nat)) ∧ Below w.heap.size w w' := by
  induction T using AT.ind with
  | h k n x s a cap l ih =>
    intro hwf hsz w N hin hN
    have e1 : (AT.mk k n x s a cap l).pt.sz = s.length + (l.length + PT.szL (AT.ptL l)) := by simp [AT.pt, PT.sz]
    have e2 : (AT.mk k n x s a cap l).pt.deep = PT.deepL (AT.ptL l) + 1 := by simp [AT.pt, PT.deep]
    have hll : l.length ≤ 1048576 := by omega
    have hdb : ∀ t ∈ l, t.pt.deep ≤ 1048577 := fun t ht => by
      have h1 := deep_le_cnt t.pt
      have h2 := cnt_le_sz t.pt
      have h3 := szL_ge ht
      omega
    have hc := fun (t : AT) (ht : t ∈ l) (w1 : World) (hb : Below w.heap.size w w1) => ih t ht (hwf.sub' t.pt (by rw [AT.ptL_eq]; exact List.mem_map_of_mem ht)) (by have := szL_ge ht; omega) w1 N (((hin.lv.sub t ht).blw hb hN)) (Nat.le_trans hN hb.size)
    rw [e2]
    have H := Lib.hid hin.lv
    have HC := Lib.hid hc
    have HD := Lib.hid hdb
    clear hc ih hin hwf e1 e2 hsz hdb
    show Calls Try.prog 56 #[.agg #[.int .i64 k, .int .i64 n, .int .i64 x, .string ⟨s.toArray⟩, .slice a l.length cap]] w _
    generalize (ByteArray.mk s.toArray) = S at *
    go_enter Try.func56, Try.ntmps56
    go_wp2
    go_loopw [3, 4] (fun c i wr => ∃ i' D : Nat, c = .int .i64 D ∧ D = PT.deepL ((AT.ptL l).take i') ∧ D ≤ 1048577 ∧ i = .int .i64 i' ∧ i' ≤ l.length ∧ Below (w.heap.size + 1) (w.alloc (.cells #[.int .i64 k, .int .i64 n, .int .i64 x, .string S, .slice a l.length cap] 28)) wr) (fun _ i _ => l.length - (intOf i).toNat)
    case atStart => exact ⟨0, 0, rfl, by simp [PT.deepL], by omega, rfl, Nat.zero_le _, Below.refl _ _⟩
    case round =>
      obtain ⟨i', D, rfl, hD, hDb, rfl, hi', hb⟩ := hrel
      have HDe := Lib.hid hD
      clear hD
      have hcell := (box5 w k n x S a l.length cap 28 hb).2.2.2.2
      have hBw : Below w.heap.size w wr := (vbox _ _).trans (hb.mono (by omega))
      by_cases hlt : i' < l.length
      · obtain ⟨b, o, rfl, hbN, hC⟩ := H.out.cell i' hlt
        have hC := hC.keep (hBw.block b (by omega))
        have hc := HC.out l[i'] (List.getElem_mem hlt) wr hBw
        have hst := deepL_take (AT.ptL l) i' (by rw [AT.ptL_length]; exact hlt)
        rw [ptL_get l i' hlt] at hst
        have hdT := HD.out l[i'] (List.getElem_mem hlt)
        obtain ⟨T, hT⟩ : ∃ T, T = l[i'] := ⟨_, rfl⟩
        rw [← hT] at hC hc hst hdT
        have HST := Lib.hid hst
        have HCC := Lib.hid hc
        have HB := Lib.hid hb
        obtain ⟨c0, c1, c2, c3, c4⟩ := hC
        clear hT hst hc hb
        generalize T.pt.deep = E at *
        by_cases hgt : D < E
        · have hgt2 : (D : Int) < E := by omega
          clear hgt
          go_wp2_with fail
          refine (HCC.out).mono ?_
          rintro e w2 ⟨rfl, hb2⟩
          go_wp2
          go_roundw
          case rel => exact ⟨i' + 1, E, rfl, by rw [HST.out, ← HDe.out]; omega, hdT, by go_num, by omega, HB.out.trans (hb2.mono (by have := HB.out.size; simp at this; omega))⟩
          case measure => simp [intOf]; omega
        · have hgt2 : ¬ ((D : Int) < E) := by omega
          clear hgt
          go_wp2_with fail
          refine (HCC.out).mono ?_
          rintro e w2 ⟨rfl, hb2⟩
          go_wp2
          go_roundw
          case rel => exact ⟨i' + 1, D, rfl, by rw [HST.out, ← HDe.out]; omega, hDb, by go_num, by omega, HB.out.trans (hb2.mono (by have := HB.out.size; simp at this; omega))⟩
          case measure => simp [intOf]; omega
      · obtain rfl : i' = l.length := by omega
        have HBw := Lib.hid hBw
        clear hBw hb
        go_wp2
        go_ret
        exact ⟨ret_int (by rw [HDe.out, List.take_of_length_le (by simp)]; rfl), HBw.out⟩
end Go.Proofs.Ytdjnkcoepmackaa
/- Boxes of two trees that stay behind a call. -/
namespace Go.Proofs.Ytdjnkcoepmackaa
open Go.RowKit
theorem AT.Own.drew {w : World} {B : Nat} {T : AT} (h : T.Own w B) : T.Own w.drew B := h.kept (w' := w.drew) (fun _ _ => rfl)
theorem keep12 {w0 w w' : World} {B : Nat} {T : AT} {p0 p1 p2 p3 p4 q0 q1 q2 q3 q4 : Addr} {v0 v1 v2 v3 v4 u0 u1 u2 u3 u4 : Value} (hb : Below w.heap.size w w')
    (h : w.cell? p0 = some v0 ∧ w.cell? p1 = some v1 ∧ w.cell? p2 = some v2 ∧ w.cell? p3 = some v3 ∧ w.cell? p4 = some v4 ∧ w.cell? q0 = some u0 ∧ w.cell? q1 = some u1 ∧ w.cell? q2 = some u2 ∧ w.cell? q3 = some u3 ∧ w.cell? q4 = some u4 ∧ Below w0.heap.size w0 w ∧ T.Own w B) :
    w'.cell? p0 = some v0 ∧ w'.cell? p1 = some v1 ∧ w'.cell? p2 = some v2 ∧ w'.cell? p3 = some v3 ∧ w'.cell? p4 = some v4 ∧ w'.cell? q0 = some u0 ∧ w'.cell? q1 = some u1 ∧ w'.cell? q2 = some u2 ∧ w'.cell? q3 = some u3 ∧ w'.cell? q4 = some u4 ∧ Below w0.heap.size w0 w' ∧ T.Own w' B := by
  obtain ⟨h0, h1, h2, h3, h4, k0, k1, k2, k3, k4, hB, hT⟩ := h
  exact ⟨keep_below hb h0, keep_below hb h1, keep_below hb h2, keep_below hb h3, keep_below hb h4, keep_below hb k0, keep_below hb k1, keep_below hb k2, keep_below hb k3, keep_below hb k4, hB.trans (hb.mono hB.size), hT.blw hb⟩
theorem keep11 {w0 w w' : World} {p0 p1 p2 p3 p4 q0 q1 q2 q3 q4 : Addr} {v0 v1 v2 v3 v4 u0 u1 u2 u3 u4 : Value} (hb : Below w.heap.size w w')
    (h : w.cell? p0 = some v0 ∧ w.cell? p1 = some v1 ∧ w.cell? p2 = some v2 ∧ w.cell? p3 = some v3 ∧ w.cell? p4 = some v4 ∧ w.cell? q0 = some u0 ∧ w.cell? q1 = some u1 ∧ w.cell? q2 = some u2 ∧ w.cell? q3 = some u3 ∧ w.cell? q4 = some u4 ∧ Below w0.heap.size w0 w) :
    w'.cell? p0 = some v0 ∧ w'.cell? p1 = some v1 ∧ w'.cell? p2 = some v2 ∧ w'.cell? p3 = some v3 ∧ w'.cell? p4 = some v4 ∧ w'.cell? q0 = some u0 ∧ w'.cell? q1 = some u1 ∧ w'.cell? q2 = some u2 ∧ w'.cell? q3 = some u3 ∧ w'.cell? q4 = some u4 ∧ Below w0.heap.size w0 w' := by
  obtain ⟨h0, h1, h2, h3, h4, k0, k1, k2, k3, k4, hB⟩ := h
  exact ⟨keep_below hb h0, keep_below hb h1, keep_below hb h2, keep_below hb h3, keep_below hb h4, keep_below hb k0, keep_below hb k1, keep_below hb k2, keep_below hb k3, keep_below hb k4, hB.trans (hb.mono hB.size)⟩
theorem below_tr {w0 w w' : World} (hb : Below w.heap.size w w') (hB : Below w0.heap.size w0 w) : Below w0.heap.size w0 w' := hB.trans (hb.mono hB.size)
theorem own_blw {w w' : World} {B : Nat} {T : AT} (hb : Below w.heap.size w w') (h : T.Own w B) : T.Own w' B := h.blw hb
theorem vcells5 (w : World) (T : AT) (t : TypeId) : (w.alloc (.cells #[.int .i64 T.k, .int .i64 T.n, .int .i64 T.x, .string ⟨T.s.toArray⟩, .slice T.a T.l.length T.cap] t)).cell? ⟨w.heap.size, 0, none⟩ = some (.int .i64 T.k) ∧ (w.alloc (.cells #[.int .i64 T.k, .int .i64 T.n, .int .i64 T.x, .string ⟨T.s.toArray⟩, .slice T.a T.l.length T.cap] t)).cell? ⟨w.heap.size, 1, none⟩ = some (.int .i64 T.n) ∧
    (w.alloc (.cells #[.int .i64 T.k, .int .i64 T.n, .int .i64 T.x, .string ⟨T.s.toArray⟩, .slice T.a T.l.length T.cap] t)).cell? ⟨w.heap.size, 2, none⟩ = some (.int .i64 T.x) ∧ (w.alloc (.cells #[.int .i64 T.k, .int .i64 T.n, .int .i64 T.x, .string ⟨T.s.toArray⟩, .slice T.a T.l.length T.cap] t)).cell? ⟨w.heap.size, 3, none⟩ = some (.string ⟨T.s.toArray⟩) ∧ (w.alloc (.cells #[.int .i64 T.k, .int .i64 T.n, .int .i64 T.x, .string ⟨T.s.toArray⟩, .slice T.a T.l.length T.cap] t)).cell? ⟨w.heap.size, 4, none⟩ = some (.slice T.a T.l.length T.cap) := by
  refine ⟨?_, ?_, ?_, ?_, ?_⟩ <;> simp [go_sem]
theorem boxes1 (w : World) (a : Obj) : Below w.heap.size w (w.alloc a) := vbox w a
theorem boxes2 (w : World) (a b : Obj) : Below w.heap.size w ((w.alloc a).alloc b) := ((Below.refl w.heap.size w).alloc (Nat.le_refl _) a).alloc (by simp) b
theorem boxes3 (w : World) (a b c : Obj) : Below w.heap.size w (((w.alloc a).alloc b).alloc c) := (((Below.refl w.heap.size w).alloc (Nat.le_refl _) a).alloc (by simp) b).alloc (by simp; omega) c
end Go.Proofs.Ytdjnkcoepmackaa
