import Derived.Test.YtilgncebhgplaaaG4
import Derived.Test.YtilgncebhgplaaaG11
import Derived.Test.YtilgncebhgplaaaG14
import Derived.Test.YtilgncebhgplaaaG15
import Derived.Deep.AppendLies
/- What SortMap hands on: plain; the comparison of two pairs by the program. -/
namespace Go.Proofs.Ytilgncebhgplaaa
open Go.RowKit
set_option maxRecDepth 100000
section
variable {α β : Type} (f : β → α) {less : α → α → Bool} {less' : β → β → Bool} (h : ∀ a b, less' a b = less (f a) (f b))
include h
theorem posR_map (x : β) (l : List β) : ∀ k, posR less (f x) (l.map f) k = posR less' x l k
  | 0 => rfl
  | k + 1 => by
    have ih := posR_map x l k
    show (match (l.map f)[k]? with | some y => if less (f x) y = true then posR less (f x) (l.map f) k else k + 1 | none => k + 1) = (match l[k]? with | some y => if less' x y = true then posR less' x l k else k + 1 | none => k + 1)
    rw [List.getElem?_map, ih]
    cases hk : l[k]? with
    | none => rfl
    | some y => simp [h]
theorem insR_map (l : List β) (x : β) : insR less (l.map f) (f x) = (insR less' l x).map f := by
  unfold insR
  rw [List.length_map, posR_map f h]
  simp
theorem foldR_map : ∀ (l acc : List β), (l.map f).foldl (insR less) (acc.map f) = (l.foldl (insR less') acc).map f
  | [], _ => rfl
  | x :: r, acc => by
    rw [List.map_cons, List.foldl_cons, List.foldl_cons, insR_map f h, foldR_map r]
theorem sortR_map (l : List β) : sortR less (l.map f) = (sortR less' l).map f := foldR_map f h l []
end
theorem pairsOf_map {α β : Type} (f : β → α) : ∀ l : List β, pairsOf (l.map f) = (pairsOf l).map fun p => (f p.1, f p.2)
  | x :: y :: r => by
    show (f x, f y) :: pairsOf (r.map f) = _
    rw [pairsOf_map f r]
    rfl
  | [x] => rfl
  | [] => rfl
theorem flatOf_map {α β : Type} (f : β → α) (l : List (β × β)) : (flatOf l).map f = flatOf (l.map fun p => (f p.1, f p.2)) := by
  induction l with
  | nil => rfl
  | cons p l ih => rw [flatOf_cons, List.map_cons, List.map_cons, List.map_cons, flatOf_cons, ih]
def lessPP (p q : PT × PT) : Bool := p.1.less q.1
def lessAA (p q : AT × AT) : Bool := p.1.pt.less q.1.pt
/-- the pairs of a map by their names -/
def PT.sorted : PT → PT
  | .mk k n x s l => if (PT.mk k n x s l).even = true then .mk k n x s (flatOf (sortR lessPP (pairsOf l))) else .mk k n x s l
def sortA (l : List AT) : List AT := flatOf (sortR lessAA (pairsOf l))
theorem sortA_pt (l : List AT) : AT.ptL (sortA l) = flatOf (sortR lessPP (pairsOf (AT.ptL l))) := by
  unfold sortA
  rw [AT.ptL_eq, AT.ptL_eq, flatOf_map, pairsOf_map, sortR_map (fun p : AT × AT => (p.1.pt, p.2.pt)) (less' := lessAA) (fun a b => rfl)]
theorem sortA_perm {l : List AT} (h : l.length % 2 = 0) : (sortA l).Perm l := by
  obtain ⟨e, _⟩ := flat_pairs (l.length / 2) l (by omega)
  have := (sortR_perm lessAA (pairsOf l)).flatMap_right (fun p => [p.1, p.2])
  unfold sortA
  exact this.trans (by show (flatOf (pairsOf l)).Perm l; rw [e])
theorem sortA_blks {l : List AT} (h : l.length % 2 = 0) : (AT.blksL (sortA l)).Perm (AT.blksL l) := by
  have e : ∀ m : List AT, AT.blksL m = m.flatMap AT.blks := fun m => by
    induction m with
    | nil => simp [AT.blksL]
    | cons t m ih => simp [AT.blksL, ih]
  rw [e, e]
  exact (sortA_perm h).flatMap_right _
theorem sortA_length {l : List AT} (h : l.length % 2 = 0) : (sortA l).length = l.length := (sortA_perm h).length_eq
theorem pairsOf_mem {α : Type} : ∀ {l : List α} {p : α × α}, p ∈ pairsOf l → p.1 ∈ l ∧ p.2 ∈ l
  | x :: y :: r, p, h => by
    rcases List.mem_cons.1 h with rfl | h
    · exact ⟨by simp, by simp⟩
    · have := pairsOf_mem h
      exact ⟨by simp [this.1], by simp [this.2]⟩
  | [x], p, h => by cases h
  | [], p, h => by cases h
/-- two pairs by their names, by the program -/
theorem less_pair (p q : AT × AT) (w : World) (N : Nat) (hwf : p.1.pt.Wf) (hwf2 : q.1.pt.Wf) (hin : p.1.In w N) (hin2 : q.1.In w N) (hN : N ≤ w.heap.size) (hsz : p.1.pt.sz ≤ 2097152) : Calls Try.prog 24 #[valP p, valP q] w fun e w' => e = .returned (.bool (lessAA p q)) ∧ Below w.heap.size w w' := by
  obtain ⟨p1, p2⟩ := p
  obtain ⟨q1, q2⟩ := q
  have hb2 : Below w.heap.size w ((w.alloc (objP (p1, p2))).alloc (objP (q1, q2))) := ((Below.refl _ _).alloc (Nat.le_refl _) _).alloc (by simp) _
  have cl := lessval_impl p1 q1 ((w.alloc (objP (p1, p2))).alloc (objP (q1, q2))) N hwf hwf2 (hin.blw hb2 hN) (hin2.blw hb2 hN) (Nat.le_trans hN hb2.size) hsz
  unfold lessAA
  simp only at cl ⊢
  generalize p1.pt.less q1.pt = b at *
  have HB := Lib.hid hb2
  clear hin hin2 hwf hwf2 hsz hb2
  obtain ⟨k1, n1, x1, s1, a1, cap1, l1⟩ := p1
  obtain ⟨k2, n2, x2, s2, a2, cap2, l2⟩ := p2
  obtain ⟨k3, n3, x3, s3, a3, cap3, l3⟩ := q1
  obtain ⟨k4, n4, x4, s4, a4, cap4, l4⟩ := q2
  simp only [objP, valP, AT.val, AT.k, AT.n, AT.x, AT.s, AT.a, AT.cap, AT.l] at cl HB ⊢
  go_enter Try.func24, Try.ntmps24
  go_wp2_with fail
  refine cl.mono ?_
  rintro e w' ⟨rfl, hb⟩
  go_wp2
  go_ret
  exact ⟨rfl, HB.out.trans (hb.mono HB.out.size)⟩
end Go.Proofs.Ytilgncebhgplaaa
/- SortMap of the program: pairs written back into the copy's row. -/
namespace Go.Proofs.Ytilgncebhgplaaa
open Go.RowKit
set_option maxRecDepth 100000
@[reducible] def setFive (w : World) (b o : Nat) (X : AT) : World := ((((w.setCell ⟨b, o, none⟩ (.int .i64 X.k)).setCell ⟨b, o + 1, none⟩ (.int .i64 X.n)).setCell ⟨b, o + 2, none⟩ (.int .i64 X.x)).setCell ⟨b, o + 3, none⟩ (.string ⟨X.s.toArray⟩)).setCell ⟨b, o + 4, none⟩ (.slice X.a X.l.length X.cap)
theorem setFive_only (w : World) (g o : Nat) (X : AT) : Only g w (setFive w g o X) := (((((Only.refl g w).setCell _ _).setCell _ _).setCell _ _).setCell _ _).setCell _ _
section
variable {w : World} {B g cap n : Nat}
theorem row_put5 {p : Nat} {D R : List AT} {Y : AT} (h : w.ownsRow B 28 5 (.slice (some ⟨g, 0, none⟩) n cap) n (cellsL (D ++ Y :: R))) (hp : D.length * 5 = p) (X : AT) :
    (setFive w g p X).ownsRow B 28 5 (.slice (some ⟨g, 0, none⟩) n cap) n (cellsL (D ++ X :: R)) := by
  have r1 := (h.stored p (.int .i64 X.k)).1
  have r2 := (r1.stored (p + 1) (.int .i64 X.n)).1
  have r3 := (r2.stored (p + 2) (.int .i64 X.x)).1
  have r4 := (r3.stored (p + 3) (.string ⟨X.s.toArray⟩)).1
  have r5 := (r4.stored (p + 4) (.slice X.a X.l.length X.cap)).1
  have e0 : cellsL (D ++ Y :: R) = cellsL D ++ (Y.cells ++ cellsL R) := by rw [cellsL_append]; rfl
  rw [e0, set_five (cellsL D) _ p _ _ _ _ _ (by rw [cellsL_length, hp]) (by simp [AT.cells])] at r5
  have e1 : cellsL (D ++ X :: R) = cellsL D ++ [Value.int .i64 X.k, .int .i64 X.n, .int .i64 X.x, .string ⟨X.s.toArray⟩, .slice X.a X.l.length X.cap] ++ (Y.cells ++ cellsL R).drop 5 := by
    rw [cellsL_append, List.append_assoc]
    simp [cellsL, AT.cells]
  rw [e1]
  exact r5
theorem row_at5 {p : Nat} {D R : List AT} {Y : AT} (h : w.ownsRow B 28 5 (.slice (some ⟨g, 0, none⟩) n cap) n (cellsL (D ++ Y :: R))) (hn : n = (D ++ Y :: R).length) (hp : D.length * 5 = p) :
    CellsAt w g p Y := by
  subst hn
  obtain ⟨g', e, _, _, hc⟩ := own_cellL h D.length (by simp)
  injection e with e
  injection e with e
  subst e
  rw [List.getElem_append_right (Nat.le_refl _), Nat.zero_add, hp] at hc
  simpa using hc
/-- a pair's two trees are laid into the row -/
theorem back_step {Ps : List (AT × AT)} {l : List AT} {j m k1 : Nat} (hm : m = 2 * j) (hk : k1 = m + 1) (hl : k1 < l.length) (hj : j < Ps.length) (h : w.ownsRow B 28 5 (.slice (some ⟨g, 0, none⟩) l.length cap) l.length (cellsL (flatOf (Ps.take j) ++ l.drop m))) (hlen : Ps.length * 2 = l.length) :
    (∃ Y, CellsAt w g (m * 5) Y) ∧ (∃ Y, CellsAt w g (k1 * 5) Y) ∧ (∀ o, w.frozen? ⟨g, o, none⟩ = false) ∧
    (∀ w', Only g w w' → w'.ownsRow B 28 5 (.slice (some ⟨g, 0, none⟩) l.length cap) l.length (cellsL (flatOf (Ps.take j) ++ l.drop m)) → (setFive (setFive w' g (m * 5) (Ps[j]).1) g (k1 * 5) (Ps[j]).2).ownsRow B 28 5 (.slice (some ⟨g, 0, none⟩) l.length cap) l.length (cellsL (flatOf (Ps.take (j + 1)) ++ l.drop (m + 2)))) := by
  have hfl : (flatOf (Ps.take j)).length = m := by rw [flatOf_length, List.length_take, Nat.min_eq_left (by omega)]; omega
  have hd : l.drop m = l[m] :: l[k1] :: l.drop (m + 2) := by
    subst hk
    rw [List.drop_eq_getElem_cons (by omega), List.drop_eq_getElem_cons (by omega)]
  have ht : flatOf (Ps.take (j + 1)) = flatOf (Ps.take j) ++ [(Ps[j]).1, (Ps[j]).2] := by
    rw [List.take_succ_eq_append_getElem hj, flatOf_append]; rfl
  rw [hd] at h
  have hlen2 : l.length = (flatOf (Ps.take j) ++ l[m] :: l[k1] :: l.drop (m + 2)).length := by simp [hfl]; omega
  have e2 : flatOf (Ps.take j) ++ l[m] :: l[k1] :: l.drop (m + 2) = (flatOf (Ps.take j) ++ [l[m]]) ++ l[k1] :: l.drop (m + 2) := by simp
  refine ⟨⟨_, row_at5 h hlen2 (by rw [hfl])⟩, ⟨_, row_at5 (D := flatOf (Ps.take j) ++ [l[m]]) (R := l.drop (m + 2)) (Y := l[k1]) (by rw [← e2]; exact h) (by rw [← e2]; exact hlen2) (by simp [hfl, hk])⟩, h.frozenAt, fun w' _ h' => ?_⟩
  rw [hd] at h'
  have r1 := row_put5 h' (by rw [hfl]) (Ps[j]).1
  have e3 : flatOf (Ps.take j) ++ (Ps[j]).1 :: l[k1] :: l.drop (m + 2) = (flatOf (Ps.take j) ++ [(Ps[j]).1]) ++ l[k1] :: l.drop (m + 2) := by simp
  rw [e3] at r1
  have r2 := row_put5 (p := k1 * 5) r1 (by simp [hfl, hk]) (Ps[j]).2
  rw [ht]
  have e4 : flatOf (Ps.take j) ++ [(Ps[j]).1, (Ps[j]).2] ++ l.drop (m + 2) = (flatOf (Ps.take j) ++ [(Ps[j]).1]) ++ (Ps[j]).2 :: l.drop (m + 2) := by simp
  rw [e4]
  exact r2
end
/-- the comparison of two pairs of one map -/
theorem pairs_less {W0 W : World} {B : Nat} {k n x : Int} {s : List UInt8} {a : Option Addr} {cap : Nat} {l : List AT} (hO : AT.Own W0 B (.mk k n x s a cap l)) (hwf : (AT.mk k n x s a cap l).pt.Wf) (hsz : (AT.mk k n x s a cap l).pt.sz ≤ 1048576) (hb : Below W0.heap.size W0 W) (hs : W0.heap.size ≤ W.heap.size) :
    ∀ p ∈ pairsOf l, ∀ q ∈ pairsOf l, Calls Try.prog 24 #[valP p, valP q] W fun e w' => e = .returned (.bool (lessAA p q)) ∧ Below W.heap.size W w' := by
  intro p hp q hq
  have hw : ∀ t ∈ l, t.pt.Wf := fun t ht => hwf.sub' t.pt (by rw [AT.ptL_eq]; exact List.mem_map_of_mem ht)
  have hz : ∀ t ∈ l, t.pt.sz ≤ 2097152 := fun t ht => by
    have h1 : t.pt.sz ≤ PT.szL (AT.ptL l) := sz_mem (by rw [AT.ptL_eq]; exact List.mem_map_of_mem ht)
    simp [AT.pt, PT.sz] at hsz
    omega
  have hi : ∀ t ∈ l, t.In W W0.heap.size := fun t ht => (hO.l.sub t ht).in.blw hb (Nat.le_refl _)
  exact less_pair p q W W0.heap.size (hw _ (pairsOf_mem hp).1) (hw _ (pairsOf_mem hq).1) (hi _ (pairsOf_mem hp).1) (hi _ (pairsOf_mem hq).1) hs (hz _ (pairsOf_mem hp).1)
end Go.Proofs.Ytilgncebhgplaaa
/- SortMap of the program: its boxes, and what it answers. -/
namespace Go.Proofs.Ytilgncebhgplaaa
open Go.RowKit
set_option maxRecDepth 100000
/-- the box of the tree and the result's, still zero -/
structure SB (W : World) (vb rb : Nat) (C : AT) : Prop where
  v : VC W vb C.k C.n C.x ⟨C.s.toArray⟩ C.a C.l.length C.cap
  vf : ∀ o, W.frozen? ⟨vb, o, none⟩ = false
  z : VC W rb 0 0 0 ⟨#[]⟩ none 0 0
  zf : ∀ o, W.frozen? ⟨rb, o, none⟩ = false
theorem vcb_lt {w : World} {b : Nat} {k n x : Int} {s : ByteArray} {a : Option Addr} {len cap : Nat} (h : VC w b k n x s a len cap) : b < w.heap.size := cell_lt h.c0
theorem SB.blw {W W' : World} {vb rb : Nat} {C : AT} (h : SB W vb rb C) (hb : Below W.heap.size W W') : SB W' vb rb C :=
  ⟨h.v.blw hb, fun o => (hb.frozen (p := ⟨vb, o, none⟩) (vcb_lt h.v)).trans (h.vf o), h.z.blw hb, fun o => (hb.frozen (p := ⟨rb, o, none⟩) (vcb_lt h.z)).trans (h.zf o)⟩
theorem vc_only {w w' : World} {b g : Nat} {k n x : Int} {s : ByteArray} {a : Option Addr} {len cap : Nat} (h : VC w b k n x s a len cap) (ho : Only g w w') (hb : b ≠ g) : VC w' b k n x s a len cap :=
  ⟨ho.cell hb h.c0, ho.cell hb h.c1, ho.cell hb h.c2, ho.cell hb h.c3, ho.cell hb h.c4⟩
theorem SB.only {W W' : World} {vb rb g : Nat} {C : AT} (h : SB W vb rb C) (ho : Only g W W') (hv : vb ≠ g) (hr : rb ≠ g) : SB W' vb rb C :=
  ⟨⟨ho.cell hv h.v.c0, ho.cell hv h.v.c1, ho.cell hv h.v.c2, ho.cell hv h.v.c3, ho.cell hv h.v.c4⟩, fun o => (World.frozen?_of_block (w := W) (ho.block vb (vcb_lt h.v) hv)).trans (h.vf o), ⟨ho.cell hr h.z.c0, ho.cell hr h.z.c1, ho.cell hr h.z.c2, ho.cell hr h.z.c3, ho.cell hr h.z.c4⟩, fun o => (World.frozen?_of_block (w := W) (ho.block rb (vcb_lt h.z) hr)).trans (h.zf o)⟩
@[reducible] def boxV (w : World) (b : Nat) (X : AT) : World := ((((w.setCell ⟨b, 0, none⟩ (.int .i64 X.k)).setCell ⟨b, 1, none⟩ (.int .i64 X.n)).setCell ⟨b, 2, none⟩ (.int .i64 X.x)).setCell ⟨b, 3, none⟩ (.string ⟨X.s.toArray⟩)).setCell ⟨b, 4, none⟩ (.slice X.a X.l.length X.cap)
theorem boxV_only (w : World) (b : Nat) (X : AT) : Only b w (boxV w b X) := (((((Only.refl b w).setCell _ _).setCell _ _).setCell _ _).setCell _ _).setCell _ _
theorem boxV_vc {w : World} {b : Nat} {X : AT} {k n x : Int} {s : ByteArray} {a : Option Addr} {len cap : Nat} (h : VC w b k n x s a len cap) : VC (boxV w b X) b X.k X.n X.x ⟨X.s.toArray⟩ X.a X.l.length X.cap := by
  obtain ⟨c0, c1, c2, c3, c4⟩ := h
  refine ⟨?_, ?_, ?_, ?_, ?_⟩ <;> simp [go_sem, c0, c1, c2, c3, c4]
theorem boxV_frozen (w : World) (b : Nat) (X : AT) (p : Addr) : (boxV w b X).frozen? p = w.frozen? p := by
  simp only [boxV, World.frozen?_setCell]
theorem sb_start (w : World) (T : AT) (w1 : World) (X : AT) (hb : Below (((w.alloc (.cells #[.int .i64 T.k, .int .i64 T.n, .int .i64 T.x, .string ⟨T.s.toArray⟩, .slice T.a T.l.length T.cap] 28)).alloc (.cells #[.int .i64 0, .int .i64 0, .int .i64 0, .string ⟨#[]⟩, .slice none 0 0] 28))).heap.size ((w.alloc (.cells #[.int .i64 T.k, .int .i64 T.n, .int .i64 T.x, .string ⟨T.s.toArray⟩, .slice T.a T.l.length T.cap] 28)).alloc (.cells #[.int .i64 0, .int .i64 0, .int .i64 0, .string ⟨#[]⟩, .slice none 0 0] 28)) w1) :
    SB w1 w.heap.size (w.heap.size + 1) T ∧ SB (boxV w1 w.heap.size X) w.heap.size (w.heap.size + 1) X ∧ Below w.heap.size w w1 := by
  have h0 : SB ((w.alloc (.cells #[.int .i64 T.k, .int .i64 T.n, .int .i64 T.x, .string ⟨T.s.toArray⟩, .slice T.a T.l.length T.cap] 28)).alloc (.cells #[.int .i64 0, .int .i64 0, .int .i64 0, .string ⟨#[]⟩, .slice none 0 0] 28)) w.heap.size (w.heap.size + 1) T :=
    ⟨by refine ⟨?_, ?_, ?_, ?_, ?_⟩ <;> simp [go_sem], fun o => by simp [go_sem], by refine ⟨?_, ?_, ?_, ?_, ?_⟩ <;> simp [go_sem], fun o => by simp [go_sem]⟩
  have h1 := h0.blw hb
  have ho := boxV_only w1 w.heap.size X
  have hv := boxV_vc (X := X) h1.v
  have hz : VC (boxV w1 w.heap.size X) (w.heap.size + 1) 0 0 0 ⟨#[]⟩ none 0 0 := vc_only h1.z ho (by omega)
  have hvf : ∀ o, (boxV w1 w.heap.size X).frozen? ⟨w.heap.size, o, none⟩ = false := fun o => (boxV_frozen w1 w.heap.size X _).trans (h1.vf o)
  have hzf : ∀ o, (boxV w1 w.heap.size X).frozen? ⟨w.heap.size + 1, o, none⟩ = false := fun o => (boxV_frozen w1 w.heap.size X _).trans (h1.zf o)
  have hb0 : Below w.heap.size w ((w.alloc (.cells #[.int .i64 T.k, .int .i64 T.n, .int .i64 T.x, .string ⟨T.s.toArray⟩, .slice T.a T.l.length T.cap] 28)).alloc (.cells #[.int .i64 0, .int .i64 0, .int .i64 0, .string ⟨#[]⟩, .slice none 0 0] 28)) := ((Below.refl _ _).alloc (Nat.le_refl _) _).alloc (by simp) _
  exact ⟨h1, ⟨hv, hvf, hz, hzf⟩, hb0.trans (hb.mono hb0.size)⟩
theorem sorted_no {p : PT} (h : p.even = false) : p.sorted = p := by
  obtain ⟨k, n, x, s, l⟩ := p
  show (if (PT.mk k n x s l).even = true then _ else _) = _
  rw [if_neg (by rw [h]; decide)]
theorem sorted_yes {k n x : Int} {s : List UInt8} {l : List PT} (h : (PT.mk k n x s l).even = true) : (PT.mk k n x s l).sorted = .mk k n x s (flatOf (sortR lessPP (pairsOf l))) := by
  show (if (PT.mk k n x s l).even = true then _ else _) = _
  rw [if_pos h]
theorem pairInfo : (Try.prog.info? 42).map (fun i => (i.zero, i.size, i.bytes)) = some (some (.agg #[.int .i64 0, .int .i64 0, .int .i64 0, .string ⟨#[]⟩, .slice none 0 0, .int .i64 0, .int .i64 0, .int .i64 0, .string ⟨#[]⟩, .slice none 0 0]), 10, 128) := by kernel_rfl
theorem emptyP (w : World) (B : Nat) (hB : B ≤ w.heap.size) : (w.alloc (.cells #[] 42)).ownsRow B 42 10 (.slice (some ⟨w.heap.size, 0, none⟩) 0 0) 0 (cells2 []) :=
  ⟨rfl, .inr ⟨w.heap.size, 0, #[], rfl, hB, heap_alloc_new w _, Nat.le_refl _, by unfold maxLen; omega, rfl, rfl⟩⟩
theorem news_pair (W : World) (p : AT × AT) : ∀ j u, (cells2 [p])[j]? = some u → (W.alloc (objP p)).cell? ((⟨W.heap.size, 0, none⟩ : Addr).add j) = some u := by
  have e : cells2 [p] = [.int .i64 p.1.k, .int .i64 p.1.n, .int .i64 p.1.x, .string ⟨p.1.s.toArray⟩, .slice p.1.a p.1.l.length p.1.cap, .int .i64 p.2.k, .int .i64 p.2.n, .int .i64 p.2.x, .string ⟨p.2.s.toArray⟩, .slice p.2.a p.2.l.length p.2.cap] := by simp [cells2, flatOf, cellsL, AT.cells]
  rw [e]
  exact World.news_of_block (cs := #[.int .i64 p.1.k, .int .i64 p.1.n, .int .i64 p.1.x, .string ⟨p.1.s.toArray⟩, .slice p.1.a p.1.l.length p.1.cap, .int .i64 p.2.k, .int .i64 p.2.n, .int .i64 p.2.x, .string ⟨p.2.s.toArray⟩, .slice p.2.a p.2.l.length p.2.cap]) (t := 42) (fr := (0, 0)) (heap_alloc_new W _)
theorem pairsOf_get {α : Type} : ∀ (l : List α) (j : Nat) (h : 2 * j + 1 < l.length), (pairsOf l)[j]? = some (l[2 * j], l[2 * j + 1])
  | x :: y :: r, 0, _ => rfl
  | x :: y :: r, j + 1, h => by
    have ih := pairsOf_get r j (by simp at h; omega)
    show (pairsOf r)[j]? = _
    rw [ih]
    simp only [Nat.mul_add, Nat.mul_one, List.getElem_cons_succ]
  | [x], j, h => by simp at h
  | [], j, h => by simp at h
theorem pairs_take {l : List AT} {j : Nat} (h : 2 * j + 1 < l.length) : (pairsOf l).take (j + 1) = (pairsOf l).take j ++ [(l[2 * j], l[2 * j + 1])] := by
  have hg := pairsOf_get l j h
  obtain ⟨hl, e⟩ := List.getElem?_eq_some_iff.1 hg
  rw [List.take_succ_eq_append_getElem hl, e]
/-- what a cell holds, whatever it is -/
def oldOf (W : World) (a : Addr) : Value := (W.cell? a).getD (.bool false)
/-- two worlds alike but for the cells of one block, which all are there -/
structure Kx (W1 : World) (g : Nat) (W : World) : Prop where
  only : Only g W1 W
  ex : ∀ o, (W1.cell? ⟨g, o, none⟩).isSome → (W.cell? ⟨g, o, none⟩).isSome
  fz : ∀ o, W.frozen? ⟨g, o, none⟩ = false
theorem Kx.start {W1 : World} {g : Nat} (h : ∀ o, W1.frozen? ⟨g, o, none⟩ = false) : Kx W1 g W1 := ⟨Only.refl g W1, fun _ h => h, h⟩
theorem Kx.set {W1 W : World} {g : Nat} (h : Kx W1 g W) (o : Nat) (v : Value) : Kx W1 g (W.setCell ⟨g, o, none⟩ v) := by
  refine ⟨h.only.setCell _ _, fun o' h' => ?_, fun o' => (World.frozen?_setCell ..).trans (h.fz o')⟩
  have hx := h.ex o' h'
  by_cases e : o' = o
  · subst e
    obtain ⟨u, hu⟩ := Option.isSome_iff_exists.1 hx
    simp [go_sem, hu]
  · obtain ⟨u, hu⟩ := Option.isSome_iff_exists.1 hx
    simp [go_sem, hu, e]
theorem Kx.old {W1 W : World} {g o : Nat} {v : Value} (h : Kx W1 g W) (hv : W1.cell? ⟨g, o, none⟩ = some v) : W.cell? ⟨g, o, none⟩ = some (oldOf W ⟨g, o, none⟩) := by
  have := h.ex o (by rw [hv]; rfl)
  obtain ⟨u, hu⟩ := Option.isSome_iff_exists.1 this
  unfold oldOf
  rw [hu]
  rfl
theorem Kx.drew {W1 W : World} {g : Nat} (h : Kx W1 g W) : Kx W1 g W.drew := ⟨h.only.drew, h.ex, h.fz⟩
theorem Kx.drewN {W1 W : World} {g : Nat} (h : Kx W1 g W) (n : Nat) : Kx W1 g (W.drewN n) := ⟨h.only.drewN n, h.ex, h.fz⟩
theorem rowP_only {w w' : World} {B E n k g gx cap : Nat} {xs : List Value} (h : w.ownsRow B E k (.slice (some ⟨g, 0, none⟩) n cap) n xs) (ho : Only gx w w') (hg : g ≠ gx) : w'.ownsRow B E k (.slice (some ⟨g, 0, none⟩) n cap) n xs := by
  refine h.kept (row := some gx) ⟨ho.os, ho.tape, ho.output, ho.size, fun k hk hne => ho.block k hk (fun e => hne (by rw [e]))⟩ ?_
  exact .inr (by show some g ≠ some gx; exact fun e => hg (by injection e))
theorem row_none {W : World} {B : Nat} {a : Option Addr} {cap : Nat} {l : List AT} (h : W.ownsRow B 28 5 (.slice a l.length cap) l.length (cellsL l)) : (∃ g, a = some ⟨g, 0, none⟩ ∧ B ≤ g) ∨ (a = none ∧ l = []) := by
  rcases h.2 with ⟨h1, h0⟩ | ⟨g, cap', cur, hv, hb, _⟩
  · injection h1 with e1 e2 e3
    exact .inr ⟨e1, List.length_eq_zero_iff.1 h0⟩
  · injection hv with e1 e2 e3
    exact .inl ⟨g, e1, hb⟩
theorem sort_gx {w3 : World} {B gx : Nat} {a : Option Addr} {cap : Nat} {l : List AT} (h : w3.ownsRow B 28 5 (.slice a l.length cap) l.length (cellsL l)) (hB : B ≤ w3.heap.size) (hgx : gx = (a.map (·.block)).getD w3.heap.size) : B ≤ gx := by
  rcases row_none h with ⟨g, rfl, hb⟩ | ⟨rfl, rfl⟩
  · subst hgx; exact hb
  · subst hgx; exact hB
theorem sort_end {T : AT} {w w3 W : World} {n x : Int} {s : List UInt8} {a : Option Addr} {cap gx : Nat} {l : List AT} {Ps : List (AT × AT)} (hC : (AT.mk 10 n x s a cap l).pt = T.pt) (hmod : l.length % 2 = 0) (hPs : Ps = sortR lessAA (pairsOf l)) (hO : AT.Own w3 (w.heap.size + 2) (.mk 10 n x s a cap l)) (hN : (AT.mk 10 n x s a cap l).blks.Nodup) (hB : Below w.heap.size w w3) (hz : w.heap.size + 2 ≤ w3.heap.size) (ho : Only gx w3 W) (hgx : gx = (a.map (·.block)).getD w3.heap.size)
    (hrow : W.ownsRow (w.heap.size + 2) 28 5 (.slice a l.length cap) l.length (cellsL (flatOf Ps))) : FreshV w T.pt.sorted (.returned (AT.mk 10 n x s a cap l).val) (boxV W (w.heap.size + 1) (AT.mk 10 n x s a cap l)) := by
  have hge := sort_gx hO.l.row hz hgx
  have hlen := sortA_length hmod
  have hS : flatOf Ps = sortA l := by rw [hPs]; rfl
  rw [hS] at hrow
  have hev : (PT.mk 10 n x s (AT.ptL l)).even = true := even_iff.2 ⟨rfl, by rw [AT.ptL_eq, List.length_map]; exact hmod⟩
  have hn : ((a.map (·.block)).toList ++ AT.blksL l).Nodup := by simpa [AT.blks] using hN
  have hsub : ∀ t ∈ sortA l, t.Own W (w.heap.size + 2) := fun t ht => by
    have htl : t ∈ l := (sortA_perm hmod).mem_iff.1 ht
    refine (hO.l.sub t htl).only ho (fun hk => ?_)
    rcases row_none hO.l.row with ⟨g, rfl, hb⟩ | ⟨rfl, rfl⟩
    · subst hgx
      exact (List.nodup_append.1 hn).2.2 gx (by simp) gx (AT.mem_blksL.2 ⟨t, htl, hk⟩) rfl
    · cases htl
  have hown : AT.Own W (w.heap.size + 2) (.mk 10 n x s a cap (sortA l)) := OwnL.own ⟨by rw [hlen]; exact hrow, hsub⟩
  have hbo := boxV_only W (w.heap.size + 1) (AT.mk 10 n x s a cap l)
  refine ⟨.mk 10 n x s a cap (sortA l), ?_, ?_, ?_, ?_, ?_⟩
  · rw [← hC]
    show PT.mk 10 n x s (AT.ptL (sortA l)) = (PT.mk 10 n x s (AT.ptL l)).sorted
    rw [sorted_yes hev, sortA_pt]
  · show _ = Ending.returned (Value.agg #[_, _, _, _, .slice a (sortA l).length cap])
    rw [hlen]
    rfl
  · exact (hown.only hbo (fun hk => by have := (hown.lt _ hk).1; omega)).base (by omega)
  · have hp : ((a.map (·.block)).toList ++ AT.blksL (sortA l)).Perm ((a.map (·.block)).toList ++ AT.blksL l) := List.Perm.append_left _ (sortA_blks hmod)
    have := hp.nodup_iff.2 hn
    simpa [AT.blks] using this
  · have hb3 := ho.below w.heap.size (by omega) hB.size
    exact (hB.trans hb3).trans (hbo.below w.heap.size (by omega) (hB.trans hb3).size)
end Go.Proofs.Ytilgncebhgplaaa
/- SortMap of the program: a copy whose pairs stand in order. -/
namespace Go.Proofs.Ytilgncebhgplaaa
open Go.RowKit
set_option maxRecDepth 100000
@[reducible] def SBK (W : World) (vb g bx m k1 len cap : Nat) (X Y : AT) : Prop :=
  W.cell? ⟨vb, 4, none⟩ = some (.slice (some ⟨g, 0, none⟩) len cap) ∧ W.cell? ⟨bx, 0, none⟩ = some (.int .i64 X.k) ∧ W.cell? ⟨bx, 1, none⟩ = some (.int .i64 X.n) ∧ W.cell? ⟨bx, 2, none⟩ = some (.int .i64 X.x) ∧ W.cell? ⟨bx, 3, none⟩ = some (.string ⟨X.s.toArray⟩) ∧ W.cell? ⟨bx, 4, none⟩ = some (.slice X.a X.l.length X.cap) ∧ W.cell? ⟨bx, 5, none⟩ = some (.int .i64 Y.k) ∧ W.cell? ⟨bx, 6, none⟩ = some (.int .i64 Y.n) ∧ W.cell? ⟨bx, 7, none⟩ = some (.int .i64 Y.x) ∧ W.cell? ⟨bx, 8, none⟩ = some (.string ⟨Y.s.toArray⟩) ∧ W.cell? ⟨bx, 9, none⟩ = some (.slice Y.a Y.l.length Y.cap) ∧
  W.cell? ⟨g, m * 5, none⟩ = some (oldOf W ⟨g, m * 5, none⟩) ∧ W.cell? ⟨g, m * 5 + 1, none⟩ = some (oldOf W ⟨g, m * 5 + 1, none⟩) ∧ W.cell? ⟨g, m * 5 + 2, none⟩ = some (oldOf W ⟨g, m * 5 + 2, none⟩) ∧ W.cell? ⟨g, m * 5 + 3, none⟩ = some (oldOf W ⟨g, m * 5 + 3, none⟩) ∧ W.cell? ⟨g, m * 5 + 4, none⟩ = some (oldOf W ⟨g, m * 5 + 4, none⟩) ∧
  W.cell? ⟨g, k1 * 5, none⟩ = some (oldOf W ⟨g, k1 * 5, none⟩) ∧ W.cell? ⟨g, k1 * 5 + 1, none⟩ = some (oldOf W ⟨g, k1 * 5 + 1, none⟩) ∧ W.cell? ⟨g, k1 * 5 + 2, none⟩ = some (oldOf W ⟨g, k1 * 5 + 2, none⟩) ∧ W.cell? ⟨g, k1 * 5 + 3, none⟩ = some (oldOf W ⟨g, k1 * 5 + 3, none⟩) ∧ W.cell? ⟨g, k1 * 5 + 4, none⟩ = some (oldOf W ⟨g, k1 * 5 + 4, none⟩) ∧
  ∀ o, W.frozen? ⟨g, o, none⟩ = false
set_option maxHeartbeats 4000000 in
theorem sortmap_impl (T : AT) (w : World) (B0 : Nat) (hown : T.Own w B0) (hwf : T.pt.Wf) (hsz : T.pt.sz ≤ 1048576) : Calls Try.prog 8 #[T.val] w (FreshV w T.pt.sorted) := by
  have hb2 : Below w.heap.size w ((w.alloc (.cells #[.int .i64 T.k, .int .i64 T.n, .int .i64 T.x, .string ⟨T.s.toArray⟩, .slice T.a T.l.length T.cap] 28)).alloc (.cells #[.int .i64 0, .int .i64 0, .int .i64 0, .string ⟨#[]⟩, .slice none 0 0] 28)) := ((Below.refl _ _).alloc (Nat.le_refl _) _).alloc (by simp) _
  have hcp := copied_any T ((w.alloc (.cells #[.int .i64 T.k, .int .i64 T.n, .int .i64 T.x, .string ⟨T.s.toArray⟩, .slice T.a T.l.length T.cap] 28)).alloc (.cells #[.int .i64 0, .int .i64 0, .int .i64 0, .string ⟨#[]⟩, .slice none 0 0] 28)) B0 (hown.blw hb2) hsz
  have HSB := Lib.hid (fun w1 X hb => sb_start w T w1 X hb)
  have HW := Lib.hid hwf
  have HSZ := Lib.hid hsz
  clear hown hb2 hwf hsz
  have hsz2 : ((w.alloc (.cells #[.int .i64 T.k, .int .i64 T.n, .int .i64 T.x, .string ⟨T.s.toArray⟩, .slice T.a T.l.length T.cap] 28)).alloc (.cells #[.int .i64 0, .int .i64 0, .int .i64 0, .string ⟨#[]⟩, .slice none 0 0] 28)).heap.size = w.heap.size + 2 := by simp
  show Calls Try.prog 8 #[.agg #[.int .i64 T.k, .int .i64 T.n, .int .i64 T.x, .string ⟨T.s.toArray⟩, .slice T.a T.l.length T.cap]] w _
  go_enter Try.func8, Try.ntmps8
  go_wp2_with fail
  refine hcp.mono ?_
  rintro e w1 ⟨C, hC, rfl, hOC, hNC, hb1⟩
  rw [hsz2] at hOC
  obtain ⟨s1, s2, b1⟩ := HSB.out w1 C hb1
  obtain ⟨⟨v0, v1, v2, v3, v4⟩, vf, _, _⟩ := s1
  have HS2 := Lib.hid s2
  have HB1 := Lib.hid b1
  have ho := boxV_only w1 w.heap.size C
  have HO := Lib.hid (hOC.only ho (fun hk => by have := (hOC.lt _ hk).1; omega))
  have HB2 := Lib.hid (b1.trans (ho.below w.heap.size (Nat.le_refl _) b1.size))
  have HC := Lib.hid hC
  have HN := Lib.hid hNC
  clear hOC hNC hb1 s2 b1 ho hC hcp
  have hpt : C.pt.sz ≤ 1048576 := by rw [HC.out]; exact HSZ.out
  have hll : C.l.length ≤ 1048576 := by
    have h2 : C.l.length ≤ C.pt.sz := by obtain ⟨k, n, x, s, a, cap, l⟩ := C; simp [AT.pt, PT.sz, AT.l]; omega
    omega
  have HPT := Lib.hid hpt
  clear hpt
  go_wp2_with fail
  have chp : ∀ W, Calls Try.prog 22 #[.agg #[.int .i64 C.k, .int .i64 C.n, .int .i64 C.x, .string ⟨C.s.toArray⟩, .slice C.a C.l.length C.cap]] W fun e w' => e = .returned (.bool C.pt.even) ∧ Below W.heap.size W w' := fun W => haspairs_impl C W (by omega)
  refine (chp _).mono ?_
  rintro e w3 ⟨rfl, hb3⟩
  have HS3 := Lib.hid (HS2.out.blw hb3)
  have HO3 := Lib.hid (HO.out.blw hb3)
  have HB3 := Lib.hid (HB2.out.trans (hb3.mono HB2.out.size))
  clear hb3 chp
  cases hev : C.pt.even
  · have hres : T.pt.sorted = C.pt := by
      rw [← HC.out]
      exact sorted_no hev
    have HRES := Lib.hid hres
    obtain ⟨⟨v0, v1, v2, v3, v4⟩, vf, ⟨z0, z1, z2, z3, z4⟩, zf⟩ := HS3.out
    clear hres hev
    go_wp2
    refine bodyPost_ret (v := C.val) (by simp [results, Try.results8, go_sem, z0, z1, z2, z3, z4]) rfl ⟨C, HRES.out.symm, rfl, ?_, HN.out, ?_⟩
    · exact (HO3.out.only (boxV_only w3 (w.heap.size + 1) C) (fun hk => by have := (HO3.out.lt _ hk).1; omega)).base (by omega)
    · exact HB3.out.trans ((boxV_only w3 (w.heap.size + 1) C).below w.heap.size (by omega) HB3.out.size)
  · obtain ⟨k, n, x, s, a, cap, l⟩ := C
    have hk := even_iff.1 (by simpa [AT.pt] using hev)
    simp only [AT.k, AT.n, AT.x, AT.s, AT.a, AT.cap, AT.l] at hll
    obtain ⟨rfl, hmod⟩ := hk
    rw [AT.ptL_eq, List.length_map] at hmod
    obtain ⟨i0, hi, hz0, hz1, hz2⟩ := info_parts pairInfo
    have hrow := HO3.out.l.row
    have HROW := Lib.hid hrow
    obtain ⟨⟨v0, v1, v2, v3, v4⟩, vf, zz, zf⟩ := HS3.out
    simp only [AT.k, AT.n, AT.x, AT.s, AT.a, AT.cap, AT.l] at v0 v1 v2 v3 v4
    have V4 := Lib.hid v4
    have hvlt := cell_lt v4
    clear hev hrow v0 v1 v2 v3 vf zz zf
    go_wp2
    go_loopw [3, 4] (fun v u wr => ∃ (j g' cap' q : Nat), v = .slice (some ⟨g', 0, none⟩) j cap' ∧ u = .int .i64 q ∧ Hid (q = 2 * j) ∧ q ≤ l.length ∧ Hid (wr.ownsRow w3.heap.size 42 10 (.slice (some ⟨g', 0, none⟩) j cap') j (cells2 ((pairsOf l).take j))) ∧ Hid (Rl w3 wr)) (fun _ u _ => l.length + 1 - (intOf u).toNat)
    case atStart => exact ⟨0, _, _, 0, rfl, rfl, Lib.hid rfl, Nat.zero_le _, Lib.hid (by simpa using emptyP w3 w3.heap.size (Nat.le_refl _)), Lib.hid ((Rl.refl w3).alloc _)⟩
    case round =>
      obtain ⟨j, g', cap', q, rfl, rfl, HQ, hq, HOW, HB⟩ := hrel
      by_cases hlt : q < l.length
      · have hq2 := HQ.out
        have hj1 : q + 1 < l.length := by omega
        have HTK : Hid ((pairsOf l).take (j + 1) = (pairsOf l).take j ++ [(l[q], l[q + 1])]) := Lib.hid (by
          have hh := HQ.out
          subst hh
          exact pairs_take hj1)
        obtain ⟨ga, rfl, _, hga, hX⟩ := own_cellL HROW.out q hlt
        obtain ⟨gb, hgb, _, _, hY⟩ := own_cellL HROW.out (q + 1) hj1
        obtain rfl : ga = gb := by injection hgb with e; injection e
        obtain ⟨X, hX0⟩ : ∃ X, X = l[q] := ⟨_, rfl⟩
        obtain ⟨Y, hY0⟩ : ∃ Y, Y = l[q + 1] := ⟨_, rfl⟩
        rw [← hX0] at hX HTK
        rw [← hY0] at hY HTK
        rw [Nat.zero_add] at hX hY
        have HS := Lib.hid (fun (W' : World) (hb : Rl w3 W') => (by
          have kb := fun (o : Nat) (v : Value) (hv : w3.cell? ⟨ga, o, none⟩ = some v) => keep_below hb.b hv
          exact ⟨hb, keep_below hb.b V4.out, kb _ _ hX.c0, kb _ _ hX.c1, kb _ _ hX.c2, kb _ _ hX.c3, kb _ _ hX.c4, kb _ _ hY.c0, kb _ _ hY.c1, kb _ _ hY.c2, kb _ _ hY.c3, kb _ _ hY.c4⟩ : Rl w3 W' ∧ W'.cell? ⟨w.heap.size, 4, none⟩ = some (.slice (some ⟨ga, 0, none⟩) l.length cap) ∧ W'.cell? ⟨ga, q * 5, none⟩ = some (.int .i64 X.k) ∧ W'.cell? ⟨ga, q * 5 + 1, none⟩ = some (.int .i64 X.n) ∧ W'.cell? ⟨ga, q * 5 + 2, none⟩ = some (.int .i64 X.x) ∧ W'.cell? ⟨ga, q * 5 + 3, none⟩ = some (.string ⟨X.s.toArray⟩) ∧ W'.cell? ⟨ga, q * 5 + 4, none⟩ = some (.slice X.a X.l.length X.cap) ∧ W'.cell? ⟨ga, (q + 1) * 5, none⟩ = some (.int .i64 Y.k) ∧ W'.cell? ⟨ga, (q + 1) * 5 + 1, none⟩ = some (.int .i64 Y.n) ∧ W'.cell? ⟨ga, (q + 1) * 5 + 2, none⟩ = some (.int .i64 Y.x) ∧ W'.cell? ⟨ga, (q + 1) * 5 + 3, none⟩ = some (.string ⟨Y.s.toArray⟩) ∧ W'.cell? ⟨ga, (q + 1) * 5 + 4, none⟩ = some (.slice Y.a Y.l.length Y.cap)))
        have hjq : j ≤ 1048576 := by omega
        have hlz : (q : Int) < l.length := by omega
        have hlz2 : (q : Int) + 1 < l.length := by omega
        have hq0 : (0 : Int) ≤ (q : Int) + 1 := by omega
        have hqw : IntKind.i64.wrap ((q : Int) + 1) = (q : Int) + 1 := IntWalk.i64_in _ (by omega)
        have hqt : ((q : Int) + 1).toNat = q + 1 := by omega
        obtain ⟨_, e0, e1, e2, e3, e4, e5, e6, e7, e8, e9, e10⟩ := HS.out _ HB.out
        clear hX hY hX0 hY0 hgb hga hq2
        (go_upto_region 8 with fail)
        have hba : Below wr.heap.size wr (wr.drew.alloc (objP (X, Y))) := ((Below.refl _ _).drew).alloc (Nat.le_refl _) _
        have HBA := Lib.hid hba
        clear hba
        go_region_held3 (fun W' => Rl w3 W' ∧ W'.cell? ⟨w.heap.size, 4, none⟩ = some (.slice (some ⟨ga, 0, none⟩) l.length cap) ∧ W'.cell? ⟨ga, q * 5, none⟩ = some (.int .i64 X.k) ∧ W'.cell? ⟨ga, q * 5 + 1, none⟩ = some (.int .i64 X.n) ∧ W'.cell? ⟨ga, q * 5 + 2, none⟩ = some (.int .i64 X.x) ∧ W'.cell? ⟨ga, q * 5 + 3, none⟩ = some (.string ⟨X.s.toArray⟩) ∧ W'.cell? ⟨ga, q * 5 + 4, none⟩ = some (.slice X.a X.l.length X.cap) ∧ W'.cell? ⟨ga, (q + 1) * 5, none⟩ = some (.int .i64 Y.k) ∧ W'.cell? ⟨ga, (q + 1) * 5 + 1, none⟩ = some (.int .i64 Y.n) ∧ W'.cell? ⟨ga, (q + 1) * 5 + 2, none⟩ = some (.int .i64 Y.x) ∧ W'.cell? ⟨ga, (q + 1) * 5 + 3, none⟩ = some (.string ⟨Y.s.toArray⟩) ∧ W'.cell? ⟨ga, (q + 1) * 5 + 4, none⟩ = some (.slice Y.a Y.l.length Y.cap)) ((refine HS.out _ ?_; first | with_reducible assumption | with_reducible exact Rl.drew HB.out | with_reducible exact (Rl.drew HB.out).alloc _ | with_reducible exact (Rl.alloc HB.out _).drew | with_reducible exact Rl.alloc (by assumption) _)) ((first | (refine step_append_lies _ (by rfl) _ _ _ (by rfl) w3.heap.size 42 i0 _ 10 128 Try.underlying40 hi hz0 hz1 hz2 rfl (by omega) _ j _ (by rfl) (own_heap HOW.out (fun k hk => HBA.out.block k (HOW.out.lt k hk).2)) ⟨wr.heap.size, 0, none⟩ 1 1 (cells2 [(X, Y)]) (by rfl) (by rfl) (news_pair wr.drew (X, Y)) (cells2_one _) (by omega) (by unfold maxLen; omega) (by omega) (Nat.le_trans HB.out.z HBA.out.size) (wr.heap.size + 1) (by simp) ?_; intro gg cap6 w6 hown6 hgrow6 hat6 hlt6; have b6 : Rl w3 w6 := ⟨HB.out.b.trans (below_push hgrow6 (fun k hk => (HOW.out.lt k hk).1) HBA.out HB.out.z), Nat.le_trans (Nat.le_trans HB.out.z HBA.out.size) hgrow6.size⟩)))
        all_goals
          rw [← cells2_append, ← HTK.out] at hown6
          have HR6 := Lib.hid hown6
          have HB6 := Lib.hid b6
          clear hown6 b6 hgrow6 hat6 hlt6
          go_wp2
          go_roundw
          case rel => exact ⟨j + 1, gg, cap6, q + 2, rfl, by go_num, Lib.hid (by have := HQ.out; omega), by omega, HR6, HB6⟩
          case measure => (simp [intOf]; omega)
      · have hq2 := HQ.out
        have hqe : q = l.length := by omega
        have HF := Lib.hid (flat_pairs j l (by omega))
        have hpl : (pairsOf l).length = j := HF.out.2
        have htk : (pairsOf l).take j = pairsOf l := List.take_of_length_le (by omega)
        rw [htk] at HOW
        subst hqe
        have hjq : j ≤ 1048576 := by omega
        have hwfC := Lib.hid (show (AT.mk 10 n x s a cap l).pt.Wf by rw [HC.out]; exact HW.out)
        have hgb := (HOW.out.lt g' rfl).1
        have HL := Lib.hid (fun (W : World) (ho : Only g' wr W) => pairs_less HO3.out hwfC.out HPT.out (W := W) (HB.out.b.trans (ho.below w3.heap.size hgb HB.out.z)) (Nat.le_trans HB.out.z ho.size))
        have ci := isort_any lessAA (pairsOf l) wr w3.heap.size g' cap' (by rw [hpl]; exact HOW.out) (by omega) (fun p hp q hq W ho => HL.out W ho p hp q hq)
        rw [hpl] at ci
        have HPS : Hid ((sortR lessAA (pairsOf l)).length = j) := Lib.hid (by rw [sortR_length, hpl])
        obtain ⟨Ps, hPs⟩ : ∃ Ps, Ps = sortR lessAA (pairsOf l) := ⟨_, rfl⟩
        rw [← hPs] at ci HPS
        have HPE := Lib.hid hPs
        have HJL := Lib.hid (show l.length = 2 * j by omega)
        have HMOD := Lib.hid hmod
        have e0 := keep_below HB.out.b V4.out
        clear hPs HL htk hpl hq2 hq hlt hmod
        go_wp2_with fail
        refine ci.mono ?_
        rintro e w5 ⟨rfl, hrow5, hon5⟩
        obtain ⟨gx, hgx⟩ : ∃ gx, gx = (a.map (·.block)).getD w3.heap.size := ⟨_, rfl⟩
        have HON := Lib.hid (Only.of_below (HB.out.b.trans (hon5.below w3.heap.size hgb HB.out.z)) : Only gx w3 w5)
        have HR5 := Lib.hid hrow5
        have HRV := Lib.hid (rowP_below HROW.out (HB.out.b.trans (hon5.below w3.heap.size hgb HB.out.z)))
        have HGX := Lib.hid hgx
        clear hrow5 hon5 ci HOW HB hgx HQ
        go_wp2
        go_loopw [40] (fun v W => ∃ i : Nat, v = .int .i64 i ∧ i ≤ j ∧ Hid (W.ownsRow (w.heap.size + 2) 28 5 (.slice a l.length cap) l.length (cellsL (flatOf (Ps.take i) ++ l.drop (2 * i)))) ∧ Hid (W.ownsRow w3.heap.size 42 10 (.slice (some ⟨g', 0, none⟩) j cap') j (cells2 Ps)) ∧ Hid (Only gx w3 W)) (fun v _ => j - (intOf v).toNat)
        case atStart => exact ⟨0, rfl, Nat.zero_le _, Lib.hid (by simpa [flatOf] using HRV.out), HR5, HON⟩
        case round =>
          obtain ⟨i, rfl, hij, HRA, HRP, HOA⟩ := hrel
          by_cases hlt : i < j
          · have hlp : i < Ps.length := by rw [HPS.out]; exact hlt
            have hpc := row_pair HRP.out i hlp
            obtain ⟨p, hp⟩ : ∃ p, p = Ps[i] := ⟨_, rfl⟩
            rw [← hp] at hpc
            have HPI := Lib.hid hp
            obtain ⟨X, Y⟩ := p
            obtain ⟨c0, c1, c2, c3, c4, c5, c6, c7, c8, c9⟩ := hpc
            simp only at c0 c1 c2 c3 c4 c5 c6 c7 c8 c9
            clear hp
            have hij2 : (i : Int) < j := by omega
            obtain ⟨ga, rfl⟩ : ∃ ga, a = some ⟨ga, 0, none⟩ := by
              rcases row_none HROW.out with ⟨g, h, _⟩ | ⟨_, h⟩
              · exact ⟨g, h⟩
              · have := HJL.out
                rw [h] at this
                simp at this
                omega
            obtain rfl : gx = ga := HGX.out
            obtain ⟨m, hm⟩ : ∃ m, m = 2 * i := ⟨_, rfl⟩
            obtain ⟨k1, hk1⟩ : ∃ k1, k1 = m + 1 := ⟨_, rfl⟩
            have hk1l : k1 < l.length := by have := HJL.out; omega
            rw [← hm] at HRA
            obtain ⟨⟨Y0, o0⟩, ⟨Y1, o1⟩, hfz, hput⟩ := back_step hm hk1 hk1l hlp HRA.out (by have := HJL.out; have := HPS.out; omega)
            rw [← HPI.out] at hput
            have hrg : gx < w3.heap.size := (HROW.out.lt gx rfl).2
            have hgv : w.heap.size + 2 ≤ gx := (HROW.out.lt gx rfl).1
            have hw3r : w3.heap.size ≤ wr.heap.size := HOA.out.size
            have hvx : w.heap.size ≠ gx := by omega
            have HPUT := Lib.hid hput
            (go_upto_region 13 with fail)
            have hpn := pat_new wr ((X, Y) : AT × AT)
            have hbn := Below.refl wr.heap.size wr |>.alloc (Nat.le_refl _) (objP ((X, Y) : AT × AT))
            simp only [objP] at hpn hbn
            have e4 := (hbn.cell (p := ⟨w.heap.size, 4, none⟩) (by show w.heap.size < wr.heap.size; omega)).trans (HOA.out.cell hvx V4.out)
            have o0' := o0.blw hbn
            have o1' := o1.blw hbn
            have hfz' : ∀ o, (wr.alloc (objP (X, Y))).frozen? ⟨gx, o, none⟩ = false := fun o => (hbn.frozen (p := ⟨gx, o, none⟩) (by show gx < wr.heap.size; omega)).trans (hfz o)
            simp only [objP] at hfz'
            have HRA1 := Lib.hid (HPUT.out _ (Only.of_below hbn) (rowP_below HRA.out hbn))
            have HRP1 := Lib.hid (rowP_below HRP.out hbn)
            have HOA1 := Lib.hid (HOA.out.trans (Only.of_below hbn : Only gx wr _))
            have hgg : g' ≠ gx := by omega
            clear o0 o1 hfz hput c0 c1 c2 c3 c4 c5 c6 c7 c8 c9 hbn
            generalize hW1 : (wr.alloc (.cells #[.int .i64 X.k, .int .i64 X.n, .int .i64 X.x, .string ⟨X.s.toArray⟩, .slice X.a X.l.length X.cap, .int .i64 Y.k, .int .i64 Y.n, .int .i64 Y.x, .string ⟨Y.s.toArray⟩, .slice Y.a Y.l.length Y.cap] 42)) = W1 at *
            have hbx : wr.heap.size ≠ gx := by omega
            clear hW1
            generalize wr.heap.size = bx at *
            have HS := Lib.hid (fun (W' : World) (hk : Kx W1 gx W') => (by
              have kb := fun (o : Nat) (v : Value) (hv : W1.cell? ⟨bx, o, none⟩ = some v) => hk.only.cell hbx hv
              exact ⟨hk.only.cell hvx e4, kb _ _ hpn.c0, kb _ _ hpn.c1, kb _ _ hpn.c2, kb _ _ hpn.c3, kb _ _ hpn.c4, kb _ _ hpn.c5, kb _ _ hpn.c6, kb _ _ hpn.c7, kb _ _ hpn.c8, kb _ _ hpn.c9, hk.old o0'.c0, hk.old o0'.c1, hk.old o0'.c2, hk.old o0'.c3, hk.old o0'.c4, hk.old o1'.c0, hk.old o1'.c1, hk.old o1'.c2, hk.old o1'.c3, hk.old o1'.c4, hk.fz⟩ : SBK W' w.heap.size gx bx m k1 l.length cap X Y))
            have HK1 := Lib.hid (Kx.start hfz')
            have hm2 : IntKind.i64.wrap (2 * (i : Int)) = (m : Int) := (IntWalk.i64_in _ (by omega)).trans (by omega)
            have hm3 : IntKind.i64.wrap ((m : Int) + 1) = (k1 : Int) := (IntWalk.i64_in _ (by omega)).trans (by omega)
            have hml : (m : Int) < l.length := by omega
            have hkl : (k1 : Int) < l.length := by omega
            obtain ⟨q4, q0, q1, q2, q3, q5, q6, q7, q8, q9, q10, r0, r1, r2, r3, r4, s0, s1, s2, s3, s5, qf⟩ := HS.out W1 HK1.out
            obtain ⟨-, -, -, -, -, -, -, -, -, -, -, -, -, -, -, -, t0, t1, t2, t3, t4, -⟩ := HS.out (setFive W1 gx (m * 5) X).drew (Kx.drew (Kx.set (Kx.set (Kx.set (Kx.set (Kx.set HK1.out _ _) _ _) _ _) _ _) _ _))
            obtain ⟨-, -, -, -, -, -, -, -, -, -, -, -, -, -, -, -, u0, u1, u2, u3, u4, -⟩ := HS.out (setFive W1 gx (m * 5) X) (Kx.set (Kx.set (Kx.set (Kx.set (Kx.set HK1.out _ _) _ _) _ _) _ _) _ _)
            simp only [setFive] at t0 t1 t2 t3 t4 u0 u1 u2 u3 u4
            have HM := Lib.hid hm
            clear e4 o0' o1' hfz' hpn hk1 hm
            go_region
            clear t0 t1 t2 t3 t4 u0 u1 u2 u3 u4 q4 q0 q1 q2 q3 q5 q6 q7 q8 q9 q10 r0 r1 r2 r3 r4 s0 s1 s2 s3 s5 qf HS HK1
            obtain ⟨W2, hW2⟩ : ∃ W2, W2 = (setFive (setFive W1 gx (m * 5) X) gx (k1 * 5) Y).drew := ⟨_, rfl⟩
            have ho2 : Only gx W1 W2 := by
              rw [hW2]
              exact ((setFive_only W1 gx (m * 5) X).trans (setFive_only _ gx (k1 * 5) Y)).drew
            have HRA2 : Hid (W2.ownsRow (w.heap.size + 2) 28 5 (.slice (some ⟨gx, 0, none⟩) l.length cap) l.length (cellsL (flatOf (Ps.take (i + 1)) ++ l.drop (2 * (i + 1))))) := Lib.hid (by
              rw [hW2, show 2 * (i + 1) = m + 2 by have := HM.out; omega]
              exact HRA1.out.drew)
            have HRP2 := Lib.hid (rowP_only HRP1.out ho2 hgg)
            have HOA2 := Lib.hid (HOA1.out.trans ho2)
            simp only [setFive] at hW2
            rw [← hW2]
            clear hW2 ho2 HRA1 HRP1 HOA1 HPUT HB1
            go_wp2
            go_roundw
            case rel => exact ⟨i + 1, by go_num, by omega, HRA2, HRP2, HOA2⟩
            case measure => (simp [intOf]; omega)
          · have hie : i = j := by omega
            subst hie
            have hil : ¬ (i : Int) < i := by omega
            have hz3 : w.heap.size + 2 ≤ w3.heap.size := vcb_lt HS3.out.z
            have hge := sort_gx HO3.out.l.row hz3 HGX.out
            obtain ⟨⟨v0, v1, v2, v3, v4⟩, vf, ⟨z0, z1, z2, z3, z4⟩, zf⟩ := HS3.out.only HOA.out (by omega) (by omega)
            simp only [AT.k, AT.n, AT.x, AT.s, AT.a, AT.cap, AT.l] at v0 v1 v2 v3 v4
            have HEND := Lib.hid (sort_end HC.out HMOD.out HPE.out HO3.out HN.out HB3.out hz3 HOA.out HGX.out (by
              have q := HRA.out
              rw [List.take_of_length_le (by have := HPS.out; omega), List.drop_eq_nil_of_le (by have := HJL.out; omega), List.append_nil] at q
              exact q))
            clear hge hz3
            go_wp2
            exact bodyPost_ret (v := (AT.mk 10 n x s a cap l).val) (by simp [results, Try.results8, go_sem, z0, z1, z2, z3, z4]; exact ⟨rfl, rfl, rfl, rfl, rfl, rfl, rfl⟩) rfl HEND.out
end Go.Proofs.Ytilgncebhgplaaa
