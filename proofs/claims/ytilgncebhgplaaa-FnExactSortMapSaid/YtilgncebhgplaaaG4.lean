import Derived.Test.YtilgncebhgplaaaG1
import Derived.Test.YtilgncebhgplaaaG3
import Derived.Test.YtilgncebhgplaaaG0
import Derived.Deep.RegionHeld3
import Derived.Deep.RegionLaw
import Derived.Deep.QuietTactic
import Derived.BigQuiet
import Derived.Deep.CutRange
import Derived.IntWalk
import Derived.Test.YtilgncebhgplaaaRows
import Derived.WalkKit
import Derived.Lib.Hide
import Derived.Outline
import Derived.ProofKit
/- insertionSort of the program, at pairs of trees: a row of pairs is sorted in place, whatever the comparison. -/
namespace Go.Proofs.Ytilgncebhgplaaa
open Go.RowKit
set_option maxRecDepth 100000
/-- a row of pairs -/
def cells2 (ps : List (AT × AT)) : List Value := cellsL (flatOf ps)
theorem cells2_length (ps : List (AT × AT)) : (cells2 ps).length = ps.length * 10 := by unfold cells2; rw [cellsL_length, flatOf_length]; omega
theorem cells2_append (a b : List (AT × AT)) : cells2 (a ++ b) = cells2 a ++ cells2 b := by unfold cells2; rw [flatOf_append, cellsL_append]
theorem cells2_take (ps : List (AT × AT)) (k : Nat) (h : k ≤ ps.length) : (cells2 ps).take (k * 10) = cells2 (ps.take k) := by
  have e : cells2 ps = cells2 (ps.take k) ++ cells2 (ps.drop k) := by rw [← cells2_append, List.take_append_drop]
  rw [e, List.take_left' (by rw [cells2_length, List.length_take]; omega)]
theorem cells2_drop (ps : List (AT × AT)) (k : Nat) (h : k ≤ ps.length) : (cells2 ps).drop (k * 10) = cells2 (ps.drop k) := by
  have e : cells2 ps = cells2 (ps.take k) ++ cells2 (ps.drop k) := by rw [← cells2_append, List.take_append_drop]
  rw [e, List.drop_left' (by rw [cells2_length, List.length_take]; omega)]
theorem cells2_get (ps : List (AT × AT)) (j c : Nat) (hj : j < ps.length) (hc : c < 5) : (cells2 ps)[j * 10 + c]? = (ps[j]).1.cells[c]? ∧ (cells2 ps)[j * 10 + (5 + c)]? = (ps[j]).2.cells[c]? := by
  obtain ⟨h1, h2⟩ := flatOf_get ps j hj
  obtain ⟨l1, e1⟩ := List.getElem?_eq_some_iff.1 h1
  obtain ⟨l2, e2⟩ := List.getElem?_eq_some_iff.1 h2
  unfold cells2
  have a := cellsL_get (flatOf ps) (2 * j) c l1 hc
  have b := cellsL_get (flatOf ps) (2 * j + 1) c l2 hc
  rw [e1, show 2 * j * 5 + c = j * 10 + c by omega] at a
  rw [e2, show (2 * j + 1) * 5 + c = j * 10 + (5 + c) by omega] at b
  exact ⟨a, b⟩
theorem cells2_one (ps : List (AT × AT)) : ∀ u ∈ cells2 ps, u.oneCell' = true := by
  intro u hu
  unfold cells2 cellsL at hu
  obtain ⟨T, _, hT⟩ := List.mem_flatMap.1 hu
  simp only [AT.cells, List.mem_cons, List.not_mem_nil, or_false] at hT
  rcases hT with rfl | rfl | rfl | rfl | rfl <;> rfl
/-- a pair's cells at a place -/
structure PAt (w : World) (b o : Nat) (p : AT × AT) : Prop where
  c0 : w.cell? ⟨b, o, none⟩ = some (.int .i64 p.1.k)
  c1 : w.cell? ⟨b, o + 1, none⟩ = some (.int .i64 p.1.n)
  c2 : w.cell? ⟨b, o + 2, none⟩ = some (.int .i64 p.1.x)
  c3 : w.cell? ⟨b, o + 3, none⟩ = some (.string ⟨p.1.s.toArray⟩)
  c4 : w.cell? ⟨b, o + 4, none⟩ = some (.slice p.1.a p.1.l.length p.1.cap)
  c5 : w.cell? ⟨b, o + 5, none⟩ = some (.int .i64 p.2.k)
  c6 : w.cell? ⟨b, o + 6, none⟩ = some (.int .i64 p.2.n)
  c7 : w.cell? ⟨b, o + 7, none⟩ = some (.int .i64 p.2.x)
  c8 : w.cell? ⟨b, o + 8, none⟩ = some (.string ⟨p.2.s.toArray⟩)
  c9 : w.cell? ⟨b, o + 9, none⟩ = some (.slice p.2.a p.2.l.length p.2.cap)
@[reducible] def valP (p : AT × AT) : Value := .agg #[.int .i64 p.1.k, .int .i64 p.1.n, .int .i64 p.1.x, .string ⟨p.1.s.toArray⟩, .slice p.1.a p.1.l.length p.1.cap, .int .i64 p.2.k, .int .i64 p.2.n, .int .i64 p.2.x, .string ⟨p.2.s.toArray⟩, .slice p.2.a p.2.l.length p.2.cap]
@[reducible] def objP (p : AT × AT) : Obj := .cells #[.int .i64 p.1.k, .int .i64 p.1.n, .int .i64 p.1.x, .string ⟨p.1.s.toArray⟩, .slice p.1.a p.1.l.length p.1.cap, .int .i64 p.2.k, .int .i64 p.2.n, .int .i64 p.2.x, .string ⟨p.2.s.toArray⟩, .slice p.2.a p.2.l.length p.2.cap] 42
section
variable {w w' : World} {B g cap n : Nat} {ps : List (AT × AT)}
theorem row_pair (h : w.ownsRow B 42 10 (.slice (some ⟨g, 0, none⟩) n cap) n (cells2 ps)) (j : Nat) (hj : j < ps.length) : PAt w g (j * 10) (ps[j]) := by
  have hl := h.1
  rw [cells2_length] at hl
  have c := fun q (hq : q < n * 10) => h.cellAt q hq
  have e := fun q (hq : q < 5) => cells2_get ps j q hj hq
  exact ⟨(c _ (by omega)).trans (e 0 (by omega)).1, (c _ (by omega)).trans (e 1 (by omega)).1, (c _ (by omega)).trans (e 2 (by omega)).1, (c _ (by omega)).trans (e 3 (by omega)).1, (c _ (by omega)).trans (e 4 (by omega)).1,
    (c _ (by omega)).trans (e 0 (by omega)).2, (c _ (by omega)).trans (e 1 (by omega)).2, (c _ (by omega)).trans (e 2 (by omega)).2, (c _ (by omega)).trans (e 3 (by omega)).2, (c _ (by omega)).trans (e 4 (by omega)).2⟩
theorem PAt.below {b o : Nat} {p : AT × AT} (h : PAt w b o p) (hb : Below w.heap.size w w') : PAt w' b o p := by
  have k := fun q v (hv : w.cell? ⟨b, q, none⟩ = some v) => (hb.cell (p := ⟨b, q, none⟩) (cell_lt hv)).trans hv
  exact ⟨k _ _ h.c0, k _ _ h.c1, k _ _ h.c2, k _ _ h.c3, k _ _ h.c4, k _ _ h.c5, k _ _ h.c6, k _ _ h.c7, k _ _ h.c8, k _ _ h.c9⟩
theorem pat_new (w : World) (p : AT × AT) : PAt (w.alloc (objP p)) w.heap.size 0 p := by
  refine ⟨?_, ?_, ?_, ?_, ?_, ?_, ?_, ?_, ?_, ?_⟩ <;> simp [go_sem]
theorem PAt.only {b o : Nat} {p : AT × AT} (h : PAt w b o p) (ho : Only g w w') (hb : b ≠ g) : PAt w' b o p :=
  ⟨ho.cell hb h.c0, ho.cell hb h.c1, ho.cell hb h.c2, ho.cell hb h.c3, ho.cell hb h.c4, ho.cell hb h.c5, ho.cell hb h.c6, ho.cell hb h.c7, ho.cell hb h.c8, ho.cell hb h.c9⟩
theorem ten_of {α : Type} {Z : List α} (h : Z.length = 10) : ∃ a b c d e f g i j k, Z = [a, b, c, d, e, f, g, i, j, k] := by
  match Z, h with
  | [a, b, c, d, e, f, g, i, j, k], _ => exact ⟨a, b, c, d, e, f, g, i, j, k, rfl⟩
@[reducible] def setTen (w : World) (g p : Nat) (x : AT × AT) : World := ((((((((((w.setCell ⟨g, p, none⟩ (.int .i64 x.1.k)).setCell ⟨g, p + 1, none⟩ (.int .i64 x.1.n)).setCell ⟨g, p + 2, none⟩ (.int .i64 x.1.x)).setCell ⟨g, p + 3, none⟩ (.string ⟨x.1.s.toArray⟩)).setCell ⟨g, p + 4, none⟩ (.slice x.1.a x.1.l.length x.1.cap)).setCell ⟨g, p + 5, none⟩ (.int .i64 x.2.k)).setCell ⟨g, p + 6, none⟩ (.int .i64 x.2.n)).setCell ⟨g, p + 7, none⟩ (.int .i64 x.2.x)).setCell ⟨g, p + 8, none⟩ (.string ⟨x.2.s.toArray⟩)).setCell ⟨g, p + 9, none⟩ (.slice x.2.a x.2.l.length x.2.cap))
theorem row_put {p : Nat} {AA C : List Value} {z0 z1 z2 z3 z4 z5 z6 z7 z8 z9 : Value} (h : w.ownsRow B 42 10 (.slice (some ⟨g, 0, none⟩) n cap) n (AA ++ ([z0, z1, z2, z3, z4, z5, z6, z7, z8, z9] ++ C))) (hA : AA.length = p) (x : AT × AT) :
    (w.cell? ⟨g, p, none⟩ = some z0 ∧ w.cell? ⟨g, p + 1, none⟩ = some z1 ∧ w.cell? ⟨g, p + 2, none⟩ = some z2 ∧ w.cell? ⟨g, p + 3, none⟩ = some z3 ∧ w.cell? ⟨g, p + 4, none⟩ = some z4 ∧ w.cell? ⟨g, p + 5, none⟩ = some z5 ∧ w.cell? ⟨g, p + 6, none⟩ = some z6 ∧ w.cell? ⟨g, p + 7, none⟩ = some z7 ∧ w.cell? ⟨g, p + 8, none⟩ = some z8 ∧ w.cell? ⟨g, p + 9, none⟩ = some z9) ∧ (∀ o, w.frozen? ⟨g, o, none⟩ = false) ∧
    ((setTen w g p x).ownsRow B 42 10 (.slice (some ⟨g, 0, none⟩) n cap) n (AA ++ (cells2 [x] ++ C)) ∧ Only g w (setTen w g p x)) := by
  have hl := h.1
  have hcell : ∀ q v, ([z0, z1, z2, z3, z4, z5, z6, z7, z8, z9] ++ C)[q]? = some v → w.cell? ⟨g, p + q, none⟩ = some v := fun q v hq => by
    have hlt := (List.getElem?_eq_some_iff.1 hq).1
    rw [h.cellAt (p + q) (by rw [← hl, List.length_append, hA]; omega), List.getElem?_append_right (by omega), hA, Nat.add_sub_cancel_left]
    exact hq
  have r1 := (h.stored p (.int .i64 x.1.k)).1
  have r2 := (r1.stored (p + 1) (.int .i64 x.1.n)).1
  have r3 := (r2.stored (p + 2) (.int .i64 x.1.x)).1
  have r4 := (r3.stored (p + 3) (.string ⟨x.1.s.toArray⟩)).1
  have r5 := (r4.stored (p + 4) (.slice x.1.a x.1.l.length x.1.cap)).1
  have r6 := (r5.stored (p + 5) (.int .i64 x.2.k)).1
  have r7 := (r6.stored (p + 6) (.int .i64 x.2.n)).1
  have r8 := (r7.stored (p + 7) (.int .i64 x.2.x)).1
  have r9 := (r8.stored (p + 8) (.string ⟨x.2.s.toArray⟩)).1
  have r10 := (r9.stored (p + 9) (.slice x.2.a x.2.l.length x.2.cap)).1
  rw [set_five AA _ p _ _ _ _ _ hA (by simp)] at r10
  have e5 : AA ++ [Value.int .i64 x.1.k, .int .i64 x.1.n, .int .i64 x.1.x, .string ⟨x.1.s.toArray⟩, .slice x.1.a x.1.l.length x.1.cap] ++ ([z0, z1, z2, z3, z4, z5, z6, z7, z8, z9] ++ C).drop 5 = (AA ++ [Value.int .i64 x.1.k, .int .i64 x.1.n, .int .i64 x.1.x, .string ⟨x.1.s.toArray⟩, .slice x.1.a x.1.l.length x.1.cap]) ++ ([z5, z6, z7, z8, z9] ++ C) := by simp
  rw [e5, show p + 6 = p + 5 + 1 from rfl, show p + 7 = p + 5 + 2 from rfl, show p + 8 = p + 5 + 3 from rfl, show p + 9 = p + 5 + 4 from rfl, set_five _ _ (p + 5) _ _ _ _ _ (by simp [hA]) (by simp)] at r10
  refine ⟨⟨hcell 0 _ rfl, hcell 1 _ rfl, hcell 2 _ rfl, hcell 3 _ rfl, hcell 4 _ rfl, hcell 5 _ rfl, hcell 6 _ rfl, hcell 7 _ rfl, hcell 8 _ rfl, hcell 9 _ rfl⟩, h.frozenAt, ?_, ?_⟩
  · have e : AA ++ (cells2 [x] ++ C) = (AA ++ [Value.int .i64 x.1.k, .int .i64 x.1.n, .int .i64 x.1.x, .string ⟨x.1.s.toArray⟩, .slice x.1.a x.1.l.length x.1.cap]) ++ [Value.int .i64 x.2.k, .int .i64 x.2.n, .int .i64 x.2.x, .string ⟨x.2.s.toArray⟩, .slice x.2.a x.2.l.length x.2.cap] ++ ([z5, z6, z7, z8, z9] ++ C).drop 5 := by
      simp [cells2, flatOf, cellsL, AT.cells]
    rw [e]
    exact r10
  · exact ((((((((((Only.refl g w).setCell _ _).setCell _ _).setCell _ _).setCell _ _).setCell _ _).setCell _ _).setCell _ _).setCell _ _).setCell _ _).setCell _ _
theorem copy_list (Q : List (AT × AT)) (x : AT × AT) (R : List (AT × AT)) (m k : Nat) (hk : Q.length = k) (hm : m < k) : ∃ y,
    (cells2 (Q ++ x :: R)).take ((m + 1) * 10) ++ (((cells2 (Q ++ x :: R)).drop (m * 10)).take ((k - m) * 10) ++ (cells2 (Q ++ x :: R)).drop ((m + 1 + (k - m)) * 10)) = cells2 (Q.take m) ++ (cells2 [y] ++ (cells2 (Q.drop m) ++ cells2 R)) := by
  subst hk
  refine ⟨Q[m], ?_⟩
  have hl : (Q ++ x :: R).length = Q.length + 1 + R.length := by simp; omega
  rw [cells2_take _ _ (by omega), cells2_drop _ _ (by omega), cells2_take _ _ (by rw [List.length_drop]; omega), cells2_drop _ _ (by omega)]
  have e1 : (Q ++ x :: R).take (m + 1) = Q.take m ++ [Q[m]] := by rw [List.take_append_of_le_length (by omega), List.take_succ_eq_append_getElem hm]
  have e2 : ((Q ++ x :: R).drop m).take (Q.length - m) = Q.drop m := by rw [List.drop_append_of_le_length (by omega), List.take_left' (by rw [List.length_drop])]
  have e3 : (Q ++ x :: R).drop (m + 1 + (Q.length - m)) = R := by
    rw [show m + 1 + (Q.length - m) = Q.length + 1 by omega, List.drop_append, List.drop_eq_nil_of_le (by omega)]
    simp
  rw [e1, e2, e3, cells2_append, List.append_assoc]
theorem rowP_cap {B E n cap g k : Nat} {xs : List Value} (h : w.ownsRow B E k (.slice (some ⟨g, 0, none⟩) n cap) n xs) : n ≤ cap ∧ cap ≤ maxLen := by
  rcases h.2 with ⟨h, _⟩ | ⟨g', cap', cur, h, hb, hg, hnc, hcm, hcs, htake⟩
  · cases h
  · injection h with e1 e2 e3
    subst e3
    exact ⟨hnc, hcm⟩
theorem rowP_below {B E n k : Nat} {v : Value} {xs : List Value} (h : w.ownsRow B E k v n xs) (hb : Below w.heap.size w w') : w'.ownsRow B E k v n xs := by
  refine h.kept (row := none) ⟨hb.os, hb.tape, hb.output, hb.size, fun k hk _ => hb.block k hk⟩ ?_
  cases v.ownBlock with
  | none => exact .inl rfl
  | some g => exact .inr (by simp)
end
theorem sortR_mem {α : Type} {less : α → α → Bool} {l : List α} {x : α} (h : x ∈ sortR less l) : x ∈ l := (sortR_perm less l).mem_iff.1 h
set_option maxHeartbeats 4000000 in
theorem isort_any (less : AT × AT → AT × AT → Bool) (l : List (AT × AT)) (w : World) (B g cap : Nat) (h : w.ownsRow B 42 10 (.slice (some ⟨g, 0, none⟩) l.length cap) l.length (cells2 l)) (hl : l.length ≤ 1048576)
    (HL : ∀ p ∈ l, ∀ q ∈ l, ∀ W, Only g w W → Calls Try.prog 24 #[valP p, valP q] W fun e w' => e = .returned (.bool (less p q)) ∧ Below W.heap.size W w') :
    Calls Try.prog 23 #[.slice (some ⟨g, 0, none⟩) l.length cap, .func (.func 24) #[] #[]] w fun e w' => e = .returned (.tuple #[]) ∧ w'.ownsRow B 42 10 (.slice (some ⟨g, 0, none⟩) l.length cap) l.length (cells2 (sortR less l)) ∧ Only g w w' := by
  have HLH := Lib.hid HL
  have HR := Lib.hid h
  have hgw := (h.lt g rfl).2
  clear HL h
  go_enter Try.func23, Try.ntmps23
  go_wp2
  go_loopw [9] (fun v wr => ∃ i : Nat, v = .int .i64 i ∧ i ≤ l.length ∧ Hid (wr.ownsRow B 42 10 (.slice (some ⟨g, 0, none⟩) l.length cap) l.length (cells2 (sortR less (l.take i) ++ l.drop i))) ∧ Hid (Only g w wr)) (fun v _ => l.length - (intOf v).toNat)
  case atStart => exact ⟨0, rfl, Nat.zero_le _, HR, Lib.hid (Only.refl g w)⟩
  case round =>
    obtain ⟨i, rfl, hi, hrow, hon⟩ := hrel
    by_cases hlt : i < l.length
    · have hiz : (i : Int) < l.length := by omega
      obtain ⟨Q, hQ⟩ : ∃ Q, Q = sortR less (l.take i) := ⟨_, rfl⟩
      have hQl : Q.length = i := by rw [hQ, sortR_length, List.length_take]; omega
      have hQm : ∀ y ∈ Q, y ∈ l := fun y hy => List.mem_of_mem_take (sortR_mem (by rw [← hQ]; exact hy))
      have hdrop : l.drop i = l[i] :: l.drop (i + 1) := List.drop_eq_getElem_cons hlt
      have hnext : sortR less (l.take (i + 1)) = insR less Q l[i] := by rw [sortR_take_succ less hlt, ← hQ]
      obtain ⟨x, hx⟩ : ∃ x, x = l[i] := ⟨_, rfl⟩
      have hxm : x ∈ l := by rw [hx]; exact List.getElem_mem hlt
      rw [← hQ, hdrop, ← hx] at hrow
      rw [← hx] at hnext
      have hgi := row_pair hrow.out i (by simp [hQl])
      rw [List.getElem_append_right (by omega)] at hgi
      simp only [hQl, Nat.sub_self, List.getElem_cons_zero] at hgi
      have HG := Lib.hid hgi
      have HX := Lib.hid (And.intro hQ (And.intro hQl (And.intro hQm (And.intro hnext hxm))))
      clear hQ hQl hQm hdrop hnext hx hxm hgi
      obtain ⟨⟨k1, n1, x1, s1, a1, cap1, l1⟩, ⟨k2, n2, x2, s2, a2, cap2, l2⟩⟩ := x
      obtain ⟨c0, c1, c2, c3, c4, c5, c6, c7, c8, c9⟩ := HG.out
      simp only [AT.k, AT.n, AT.x, AT.s, AT.a, AT.cap, AT.l] at c0 c1 c2 c3 c4 c5 c6 c7 c8 c9
      (go_upto_region 3 with fail)
      have hpn := pat_new wr ((⟨k1, n1, x1, s1, a1, cap1, l1⟩, ⟨k2, n2, x2, s2, a2, cap2, l2⟩) : AT × AT)
      have hbn := Below.refl wr.heap.size wr |>.alloc (Nat.le_refl _) (objP ((⟨k1, n1, x1, s1, a1, cap1, l1⟩, ⟨k2, n2, x2, s2, a2, cap2, l2⟩) : AT × AT))
      simp only [objP, AT.k, AT.n, AT.x, AT.s, AT.a, AT.cap, AT.l] at hpn hbn
      generalize (wr.alloc (.cells #[.int .i64 k1, .int .i64 n1, .int .i64 x1, .string ⟨s1.toArray⟩, .slice a1 l1.length cap1, .int .i64 k2, .int .i64 n2, .int .i64 x2, .string ⟨s2.toArray⟩, .slice a2 l2.length cap2] 42)) = W1 at *
      have hon1 := Lib.hid (hon.out.trans (Only.of_below hbn : Only g wr W1))
      have hrow1 := Lib.hid (rowP_below hrow.out hbn)
      have HPN := Lib.hid hpn
      have HBN := Lib.hid hbn
      have hxg : g ≠ wr.heap.size := by have := hon.out.size; omega
      clear hpn hbn c0 c1 c2 c3 c4 c5 c6 c7 c8 c9 hon hrow HG HBN
      generalize wr.heap.size = xb at *
      obtain ⟨x, hx⟩ : ∃ x : AT × AT, x = (⟨k1, n1, x1, s1, a1, cap1, l1⟩, ⟨k2, n2, x2, s2, a2, cap2, l2⟩) := ⟨_, rfl⟩
      have HXE := Lib.hid hx
      have hil : (i : Int) ≤ 1048576 := by omega
      clear hx
      go_wp2
      go_loopw [6] (fun v W => ∃ m : Nat, v = .int .i64 m ∧ m ≤ i ∧ Hid (posR less x Q m = posR less x Q i) ∧ Hid (Below W1.heap.size W1 W)) (fun v _ => (intOf v).toNat)
      case atStart => exact ⟨i, rfl, Nat.le_refl _, Lib.hid rfl, Lib.hid (Below.refl _ _)⟩
      case round =>
        obtain ⟨m, rfl, hmi, hpos, hbw⟩ := hrel
        (go_upto_region 4 with fail)
        go_cut [26] from 15 to 28 (fun v26 W' => ∃ b : Bool, v26 = .bool b ∧ Hid (b = true → ∃ m' : Nat, m = m' + 1 ∧ posR less x Q m = posR less x Q m') ∧ Hid (b = false → posR less x Q m = m) ∧ Below W1.heap.size W1 W')
        case first =>
          cases m with
          | zero =>
            have hbd := hbw.out
            go_quiet (fail)
            go_wp2_with fail
            go_meet
            exact ⟨false, rfl, Lib.hid (fun h => by cases h), Lib.hid (fun _ => rfl), below_drewN hbd _⟩
          | succ m =>
            obtain ⟨_, hQl, hQm, _, hxm⟩ := HX.out
            have hmQ : m < Q.length := by omega
            have hyr := row_pair hrow1.out m (by simp; omega)
            rw [List.getElem_append_left hmQ] at hyr
            have hym : Q[m] ∈ l := hQm _ (List.getElem_mem hmQ)
            have hget : Q[m]? = some Q[m] := List.getElem?_eq_getElem hmQ
            obtain ⟨y, hy⟩ : ∃ y, y = Q[m] := ⟨_, rfl⟩
            rw [← hy] at hyr hym hget
            have hcl := fun (W' : World) (hb : Below W1.heap.size W1 W') => HLH.out x (by rw [HXE.out]; exact hxm) y hym W' (hon1.out.trans (Only.of_below hb))
            have HB := Lib.hid (And.intro (fun h : less x y = true => posR_less less hget h) (fun h : less x y = false => posR_stop less hget h))
            obtain ⟨lb, hlb⟩ : ∃ lb, lb = less x y := ⟨_, rfl⟩
            rw [← hlb] at hcl HB
            rw [HXE.out] at hcl
            obtain ⟨⟨y1, y2, y3, y4, y5, y6, y7⟩, ⟨z1, z2, z3, z4, z5, z6, z7⟩⟩ := y
            simp only [AT.k, AT.n, AT.x, AT.s, AT.a, AT.cap, AT.l, valP] at hcl
            have HCL := Lib.hid hcl
            have HYR := Lib.hid hyr
            have hm1 : (m : Int) ≤ 1048576 := by omega
            have hmn : (m : Int) < l.length := by omega
            have hm0 : (0 : Int) ≤ m := by omega
            have hw2 : IntKind.i64.wrap (m : Int) = m := IntWalk.i64_in _ (by omega)
            have hw1 : IntKind.i64.wrap ((m : Int) + 1 - 1) = m := by rw [Int.add_sub_cancel]; exact IntWalk.i64_in _ (by omega)
            have HS := Lib.hid (fun (W' : World) (hb : Below W1.heap.size W1 W') => (have p := HPN.out.below hb; have q := HYR.out.below hb; by
              exact ⟨hb, p.c0, p.c1, p.c2, p.c3, p.c4, p.c5, p.c6, p.c7, p.c8, p.c9, q.c0, q.c1, q.c2, q.c3, q.c4, q.c5, q.c6, q.c7, q.c8, q.c9⟩ : Below W1.heap.size W1 W' ∧ W'.cell? ⟨xb, 0, none⟩ = some (.int .i64 k1) ∧ W'.cell? ⟨xb, 1, none⟩ = some (.int .i64 n1) ∧ W'.cell? ⟨xb, 2, none⟩ = some (.int .i64 x1) ∧ W'.cell? ⟨xb, 3, none⟩ = some (.string ⟨s1.toArray⟩) ∧ W'.cell? ⟨xb, 4, none⟩ = some (.slice a1 l1.length cap1) ∧ W'.cell? ⟨xb, 5, none⟩ = some (.int .i64 k2) ∧ W'.cell? ⟨xb, 6, none⟩ = some (.int .i64 n2) ∧ W'.cell? ⟨xb, 7, none⟩ = some (.int .i64 x2) ∧ W'.cell? ⟨xb, 8, none⟩ = some (.string ⟨s2.toArray⟩) ∧ W'.cell? ⟨xb, 9, none⟩ = some (.slice a2 l2.length cap2) ∧ W'.cell? ⟨g, m * 10, none⟩ = some (.int .i64 y1) ∧ W'.cell? ⟨g, m * 10 + 1, none⟩ = some (.int .i64 y2) ∧ W'.cell? ⟨g, m * 10 + 2, none⟩ = some (.int .i64 y3) ∧ W'.cell? ⟨g, m * 10 + 3, none⟩ = some (.string ⟨y4.toArray⟩) ∧ W'.cell? ⟨g, m * 10 + 4, none⟩ = some (.slice y5 y7.length y6) ∧ W'.cell? ⟨g, m * 10 + 5, none⟩ = some (.int .i64 z1) ∧ W'.cell? ⟨g, m * 10 + 6, none⟩ = some (.int .i64 z2) ∧ W'.cell? ⟨g, m * 10 + 7, none⟩ = some (.int .i64 z3) ∧ W'.cell? ⟨g, m * 10 + 8, none⟩ = some (.string ⟨z4.toArray⟩) ∧ W'.cell? ⟨g, m * 10 + 9, none⟩ = some (.slice z5 z7.length z6)))
            have hbd := hbw.out
            clear hQl hQm hxm hmQ hyr hym hget hy hcl hlb
            rw [show ((m + 1 : Nat) : Int) = (m : Int) + 1 from by omega]
            go_region_held3 (fun W' => Below W1.heap.size W1 W' ∧ W'.cell? ⟨xb, 0, none⟩ = some (.int .i64 k1) ∧ W'.cell? ⟨xb, 1, none⟩ = some (.int .i64 n1) ∧ W'.cell? ⟨xb, 2, none⟩ = some (.int .i64 x1) ∧ W'.cell? ⟨xb, 3, none⟩ = some (.string ⟨s1.toArray⟩) ∧ W'.cell? ⟨xb, 4, none⟩ = some (.slice a1 l1.length cap1) ∧ W'.cell? ⟨xb, 5, none⟩ = some (.int .i64 k2) ∧ W'.cell? ⟨xb, 6, none⟩ = some (.int .i64 n2) ∧ W'.cell? ⟨xb, 7, none⟩ = some (.int .i64 x2) ∧ W'.cell? ⟨xb, 8, none⟩ = some (.string ⟨s2.toArray⟩) ∧ W'.cell? ⟨xb, 9, none⟩ = some (.slice a2 l2.length cap2) ∧ W'.cell? ⟨g, m * 10, none⟩ = some (.int .i64 y1) ∧ W'.cell? ⟨g, m * 10 + 1, none⟩ = some (.int .i64 y2) ∧ W'.cell? ⟨g, m * 10 + 2, none⟩ = some (.int .i64 y3) ∧ W'.cell? ⟨g, m * 10 + 3, none⟩ = some (.string ⟨y4.toArray⟩) ∧ W'.cell? ⟨g, m * 10 + 4, none⟩ = some (.slice y5 y7.length y6) ∧ W'.cell? ⟨g, m * 10 + 5, none⟩ = some (.int .i64 z1) ∧ W'.cell? ⟨g, m * 10 + 6, none⟩ = some (.int .i64 z2) ∧ W'.cell? ⟨g, m * 10 + 7, none⟩ = some (.int .i64 z3) ∧ W'.cell? ⟨g, m * 10 + 8, none⟩ = some (.string ⟨z4.toArray⟩) ∧ W'.cell? ⟨g, m * 10 + 9, none⟩ = some (.slice z5 z7.length z6)) ((refine HS.out _ ?_; first | with_reducible assumption | with_reducible exact Below.drew hbd)) ((first | (go_at_call 24; go_split_ands; refine (HCL.out _ (by with_reducible assumption)).mono ?_; rintro e wa ⟨rfl, ba⟩; have bba : Below W1.heap.size W1 wa := ((by with_reducible assumption : Below W1.heap.size W1 _).trans (ba.mono (by have qq := (by with_reducible assumption : Below W1.heap.size W1 _); exact qq.size))))))
            all_goals
              have bcz := Lib.hid bba
              go_wp2_with fail
              go_meet
              exact ⟨lb, rfl, Lib.hid (fun h => ⟨m, rfl, HB.out.1 h⟩), Lib.hid (fun h => HB.out.2 h), bcz.out⟩
        case rest =>
          obtain ⟨b, rfl, ht, hf, hbx⟩ := hcut
          cases b
          · have hpm := hf.out rfl
            have HPM := Lib.hid (hpos.out.symm.trans hpm)
            clear hpm hf ht hpos
            have HBX := Lib.hid hbx
            have hrw := rowP_below hrow1.out hbx
            have hrd := rowP_below hrw (Below.refl wc.heap.size wc).drew
            have HRW := Lib.hid hrw
            have HRD := Lib.hid hrd
            clear hrw hrd hbx hbw
            have hml : m ≤ i := hmi
            obtain ⟨_, hQl, _, _, _⟩ := HX.out
            obtain ⟨hlc, hcm⟩ := rowP_cap HRW.out
            have hX := HXE.out
            rw [← hX] at HRD HRW
            (go_upto_region 6 with fail)
            go_cut [] from 29 to 43 (fun W' => ∃ Z : List Value, Hid (Z.length = 10 ∧ W'.ownsRow B 42 10 (.slice (some ⟨g, 0, none⟩) l.length cap) l.length (cells2 (Q.take m) ++ (Z ++ (cells2 (Q.drop m) ++ cells2 (l.drop (i + 1)))))) ∧ Hid (Only g wc W'))
            case first =>
              by_cases hlt2 : m < i
              · obtain ⟨wq, hrun, hoq, honq⟩ := own_copy (P := Try.prog) (d := m + 1) (s := m) (m := i - m) 40 3 (cap - (m + 1)) (cap - m) HRD.out Try.underlying40 (by kernel_rfl) (cells2_one _) (by omega) (by omega)
                have hq1 : ¬ cap = m + 1 := by omega
                have hq2 : ¬ cap = m := by omega
                have hq3 : (i : Int) + 1 ≤ cap := by omega
                have hq4 : (m : Int) + 1 ≤ (i : Int) + 1 := by omega
                have hq5 : (m : Int) ≤ i := by omega
                have hq6 : (i : Int) ≤ cap := by omega
                have hq7 : ((i : Int) + 1).toNat = i + 1 := by omega
                have hq8 : ((m : Int) + 1).toNat = m + 1 := by omega
                have hq9 : i + 1 - (m + 1) = i - m := by omega
                have hqa : (0 : Int) ≤ (m : Int) + 1 := by omega
                have hw3 : IntKind.i64.wrap ((m : Int) + 1) = (m : Int) + 1 := IntWalk.i64_in _ (by omega)
                have hw4 : IntKind.i64.wrap ((i : Int) + 1) = (i : Int) + 1 := IntWalk.i64_in _ (by omega)
                have hqc : max ((i : Int) + 1) 0 = (i : Int) + 1 := by omega
                have hqd : (0 : Int) ≤ (i : Int) + 1 := by omega
                have hqb : (cap : Int) ≤ 9223372036854775807 := by unfold maxLen at hcm; omega
                have HOQ := Lib.hid hoq
                have HON := Lib.hid honq
                clear hoq honq
                go_region_held3 (fun _ => True) (trivial) ((first | (refine step_copy_run rfl (.tmp 34) (.tmp 38) 40 40 rfl _ _ rfl rfl hrun ?_)))
                all_goals
                  go_wp2_with fail
                  go_meet
                  obtain ⟨y, e⟩ := copy_list Q x (l.drop (i + 1)) m i hQl hlt2
                  refine ⟨cells2 [y], Lib.hid ⟨by rw [cells2_length]; rfl, ?_⟩, Lib.hid ((Only.refl g wc).drew.trans HON.out)⟩
                  rw [← e]
                  exact HOQ.out
              · obtain rfl : m = i := by omega
                have hq2 : ¬ cap = m := by omega
                have hq3 : (m : Int) + 1 ≤ cap := by omega
                have hq6 : (m : Int) ≤ cap := by omega
                have hq8 : ((m : Int) + 1).toNat = m + 1 := by omega
                have hqa : (0 : Int) ≤ (m : Int) + 1 := by omega
                have hw3 : IntKind.i64.wrap ((m : Int) + 1) = (m : Int) + 1 := IntWalk.i64_in _ (by omega)
                have hqc : max ((m : Int) + 1) 0 = (m : Int) + 1 := by omega
                have hqb : (cap : Int) ≤ 9223372036854775807 := by unfold maxLen at hcm; omega
                obtain ⟨dd, hdd⟩ : ∃ dd, (if cap = m + 1 then some ⟨g, 0, none⟩ else some ⟨g, (m + 1) * 10, none⟩ : Option Addr) = dd := ⟨_, rfl⟩
                all_goals
                  go_region_held3 (fun _ => True) (trivial) ((first | (refine step_copy_run rfl (.tmp 34) (.tmp 38) 40 40 rfl _ _ rfl rfl (run_copy_0 _ _ _ _ 42 _ _ _ _ Try.underlying40 (by kernel_rfl)) ?_)))
                  go_wp2_with fail
                  go_meet
                  refine ⟨cells2 [x], Lib.hid ⟨by rw [cells2_length]; rfl, ?_⟩, Lib.hid (Only.refl g wc).drew⟩
                  rw [← cells2_append, ← cells2_append, ← cells2_append, List.take_of_length_le (by omega), List.drop_eq_nil_of_le (by omega)]
                  exact HRD.out
            case rest =>
              obtain ⟨Z, hZ, hoZ⟩ := hcut
              obtain ⟨hZl, hrz⟩ := hZ.out
              obtain ⟨z0, z1, z2, z3, z4, z5, z6, z7, z8, z9, rfl⟩ := ten_of hZl
              have hpl : (cells2 (Q.take m)).length = m * 10 := by rw [cells2_length, List.length_take, Nat.min_eq_left (by omega)]
              obtain ⟨hcz, hfz, hput⟩ := row_put hrz hpl x
              obtain ⟨e0, e1, e2, e3, e4, e5, e6, e7, e8, e9⟩ := hcz
              have hpx := (HPN.out.below HBX.out).only hoZ.out (fun e => hxg e.symm)
              obtain ⟨b0, b1, b2, b3, b4, b5, b6, b7, b8, b9⟩ := hpx
              simp only [AT.k, AT.n, AT.x, AT.s, AT.a, AT.cap, AT.l, Nat.zero_add] at b0 b1 b2 b3 b4 b5 b6 b7 b8 b9
              have hmn : (m : Int) < l.length := by omega
              have hm0 : (0 : Int) ≤ m := by omega
              have HPUT := Lib.hid hput
              clear hZ hZl hrz hput hpl
              obtain ⟨_, _, _, hnx, _⟩ := HX.out
              have hrow2 : (setTen wc g (m * 10) x).ownsRow B 42 10 (.slice (some ⟨g, 0, none⟩) l.length cap) l.length (cells2 (sortR less (l.take (i + 1)) ++ l.drop (i + 1))) := by
                rw [hnx, ← HXE.out]
                unfold insR
                rw [hQl, HPM.out]
                have q := HPUT.out.1
                rw [← cells2_append, ← cells2_append, ← cells2_append] at q
                simpa using q
              have hon2 : Only g w (setTen wc g (m * 10) x) := ((hon1.out.trans (Only.of_below HBX.out)).trans hoZ.out).trans HPUT.out.2
              rw [HXE.out] at hrow2 hon2
              simp only [setTen, AT.k, AT.n, AT.x, AT.s, AT.a, AT.cap, AT.l] at hrow2 hon2
              have HR2 := Lib.hid hrow2
              have HO2 := Lib.hid hon2
              clear hrow2 hon2 hnx
              go_wp2
              go_round
              case rel => exact ⟨i + 1, by go_num, by omega, HR2, HO2⟩
              case measure => simp [intOf]; omega
          · obtain ⟨m', rfl, he⟩ := ht.out rfl
            have HP2 := Lib.hid (he.symm.trans hpos.out)
            have hw2 : IntKind.i64.wrap (m' : Int) = m' := IntWalk.i64_in _ (by omega)
            have hw1 : IntKind.i64.wrap ((m' : Int) + 1 - 1) = m' := by rw [Int.add_sub_cancel]; exact IntWalk.i64_in _ (by omega)
            have HBX := Lib.hid hbx
            clear he hpos ht hf hbx hbw
            go_wp2
            go_round
            case rel => exact ⟨m', rfl, by omega, HP2, HBX⟩
            case measure => simp [intOf]
    · obtain rfl : i = l.length := by omega
      have hrow2 := hrow.out
      rw [List.take_of_length_le (Nat.le_refl _), List.drop_eq_nil_of_le (Nat.le_refl _), List.append_nil] at hrow2
      have HR2 := Lib.hid hrow2
      have HO2 := Lib.hid hon.out
      clear hrow hrow2 hon
      go_wp2
      go_end0
      exact ⟨rfl, HR2.out, HO2.out⟩
end Go.Proofs.Ytilgncebhgplaaa
/- When two trees are the same (plain), and two stacks. -/
namespace Go.Proofs.Ytilgncebhgplaaa
mutual
def PT.same : PT → PT → Bool
  | .mk k n x s l, .mk k' n' x' s' l' => (k == k' && n == n' && x == x' && s == s' && l.length == l'.length) && PT.sameL l l'
def PT.sameL : List PT → List PT → Bool
  | t :: l, u :: m => t.same u && PT.sameL l m
  | _, _ => true
end
/-- the fields, and the number of elements -/
def AT.hd (t u : AT) : Bool := t.k == u.k && t.n == u.n && t.x == u.x && t.s == u.s && t.l.length == u.l.length
theorem ptsame_eq (t u : AT) : t.pt.same u.pt = (t.hd u && PT.sameL (AT.ptL t.l) (AT.ptL u.l)) := by
  cases t; cases u
  simp [AT.pt, PT.same, AT.hd, AT.k, AT.n, AT.x, AT.s, AT.l]
theorem ptsame_refl (t : PT) : t.same t = true := by
  induction t using PT.ind with
  | h k n x s l ih =>
    have : PT.sameL l l = true := by
      induction l with
      | nil => rfl
      | cons t l ihl => simp only [PT.sameL, ih t (by simp), ihl (fun u hu => ih u (by simp [hu])), Bool.and_self]
    simp [PT.same, this]
theorem ptsame_true {t u : PT} (h : t.same u = true) : t = u := by
  induction t using PT.ind generalizing u with
  | h k n x s l ih =>
    obtain ⟨k', n', x', s', m⟩ := u
    simp only [PT.same, Bool.and_eq_true, beq_iff_eq] at h
    obtain ⟨⟨⟨⟨⟨rfl, rfl⟩, rfl⟩, rfl⟩, hl⟩, hs⟩ := h
    have : l = m := by
      induction l generalizing m with
      | nil => cases m with
        | nil => rfl
        | cons u m => simp at hl
      | cons t l ihl =>
        cases m with
        | nil => simp at hl
        | cons u m =>
          simp only [PT.sameL, Bool.and_eq_true] at hs
          rw [ih t (by simp) hs.1, ihl (fun u hu => ih u (by simp [hu])) m hs.2 (by simpa using hl)]
    rw [this]
theorem ptsame_iff {t u : PT} : t.same u = true ↔ t = u := ⟨ptsame_true, fun h => h ▸ ptsame_refl _⟩
/-- two lists of trees of one length: the first i pairs, the pair i -/
theorem sameL_split (l m : List PT) (i : Nat) (h1 : i < l.length) (h2 : i < m.length) : PT.sameL (l.take (i + 1)) (m.take (i + 1)) = (PT.sameL (l.take i) (m.take i) && (l[i]).same m[i]) := by
  induction l generalizing m i with
  | nil => simp at h1
  | cons t l ih =>
    cases m with
    | nil => simp at h2
    | cons u m =>
      cases i with
      | zero => simp [PT.sameL]
      | succ i =>
        simp only [List.take_succ_cons, PT.sameL, List.getElem_cons_succ]
        rw [ih m i (by simpa using h1) (by simpa using h2), Bool.and_assoc]
theorem sameL_false (l m : List PT) (i : Nat) (h1 : i < l.length) (h2 : i < m.length) (h : (l[i]).same m[i] = false) : PT.sameL l m = false := by
  induction l generalizing m i with
  | nil => simp at h1
  | cons t l ih =>
    cases m with
    | nil => simp at h2
    | cons u m =>
      cases i with
      | zero => simp at h; simp [PT.sameL, h]
      | succ i => simp only [PT.sameL]; rw [ih m i (by simpa using h1) (by simpa using h2) (by simpa using h), Bool.and_false]
end Go.Proofs.Ytilgncebhgplaaa
/- What Digits of the program and Digits of the model return: the number of decimal digits, for every integer. -/
namespace Go.Proofs.Ytilgncebhgplaaa
open Go.RowKit
def digN (n : Nat) : Nat := if n = 0 then 0 else digN (n / 10) + 1
termination_by n
decreasing_by omega
theorem digN_zero : digN 0 = 0 := by rw [digN]; rfl
theorem digN_step (n : Nat) (h : n ≠ 0) : digN n = digN (n / 10) + 1 := by rw [digN, if_neg h]
theorem digN_le (n : Nat) : digN n ≤ n := by
  induction n using Nat.strongRecOn with
  | _ n ih =>
    by_cases h : n = 0
    · subst h; rw [digN_zero]; exact Nat.le_refl _
    · rw [digN_step n h]; have := ih (n / 10) (by omega); omega
def digV (n : Int) : Nat := 1 + digN (n.natAbs / 10)
theorem tdiv10 (x : Int) : (x.tdiv 10).natAbs = x.natAbs / 10 := by rw [Int.natAbs_tdiv]; rfl

theorem digits_spec (n : Int) (w : World) (h0 : -9223372036854775808 ≤ n) (h1 : n ≤ 9223372036854775807) : Calls Try.prog 58 #[.int .i64 n] w fun e w' => e = .returned (.int .i64 (digV n)) ∧ w = w' := by
  have t0 := tdiv10 n
  have t1 : -1000000000000000000 ≤ n.tdiv 10 := by omega
  have t2 : n.tdiv 10 ≤ 1000000000000000000 := by omega
  have hd := digN_le (n.natAbs / 10)
  have HD : Hid (digN (n.natAbs / 10) ≤ 1000000000000000000) := by show digN _ ≤ _; omega
  have T0 := Lib.hid t0
  unfold digV
  clear t0 hd
  clear h0 h1
  go_enter Try.func58, Try.ntmps58
  go_wp2
  go_loop [3, 4] (fun k x => ∃ (x' : Int) (k' : Nat), x = .int .i64 x' ∧ k = .int .i64 k' ∧ k' + digN x'.natAbs = 1 + digN (n.natAbs / 10) ∧ -1000000000000000000 ≤ x' ∧ x' ≤ 1000000000000000000) (fun _ x => (intOf x).natAbs)
  case atStart => exact ⟨_, 1, rfl, rfl, by rw [T0.out], t1, t2⟩
  case round =>
    obtain ⟨x', k', rfl, rfl, hk, b1, b2⟩ := hrel
    by_cases hz : x' = 0
    · subst hz
      go_wp2
      go_ret
      rw [show (0 : Int).natAbs = 0 from rfl, digN_zero] at hk
      exact ⟨ret_int (by omega), rfl⟩
    · have hs := digN_step x'.natAbs (by omega)
      have hb : (k' : Int) ≤ 2000000000000000000 := by have := HD.out; omega
      have hn : (x' != 0) = true := by simpa using hz
      have u0 := tdiv10 x'
      have u1 : -1000000000000000000 ≤ x'.tdiv 10 := by omega
      have u2 : x'.tdiv 10 ≤ 1000000000000000000 := by omega
      have u3 : (x'.tdiv 10).natAbs < x'.natAbs := by omega
      have HK := Lib.hid hk
      have HS := Lib.hid hs
      have U0 := Lib.hid u0
      clear hk hs u0
      go_wp2
      go_round
      case rel => exact ⟨_, k' + 1, rfl, by go_num, by rw [U0.out]; have := HK.out; have := HS.out; omega, u1, u2⟩
      case measure => exact u3
theorem digits_impl (n : Int) (w : World) (h0 : -9223372036854775808 ≤ n) (h1 : n ≤ 9223372036854775807) : Calls Try.prog 54 #[.int .i64 n] w fun e w' => e = .returned (.int .i64 (digV n)) ∧ w = w' := by
  have t0 := tdiv10 n
  have t1 : -1000000000000000000 ≤ n.tdiv 10 := by omega
  have t2 : n.tdiv 10 ≤ 1000000000000000000 := by omega
  have hd := digN_le (n.natAbs / 10)
  have HD : Hid (digN (n.natAbs / 10) ≤ 1000000000000000000) := by show digN _ ≤ _; omega
  have T0 := Lib.hid t0
  unfold digV
  clear t0 hd
  clear h0 h1
  go_enter Try.func54, Try.ntmps54
  go_wp2
  go_loop [0, 3] (fun x k => ∃ (x' : Int) (k' : Nat), x = .int .i64 x' ∧ k = .int .i64 k' ∧ k' + digN x'.natAbs = 1 + digN (n.natAbs / 10) ∧ -1000000000000000000 ≤ x' ∧ x' ≤ 1000000000000000000) (fun x _ => (intOf x).natAbs)
  case atStart => exact ⟨_, 1, rfl, rfl, by rw [T0.out], t1, t2⟩
  case round =>
    obtain ⟨x', k', rfl, rfl, hk, b1, b2⟩ := hrel
    by_cases hz : x' = 0
    · subst hz
      go_wp2
      go_ret
      rw [show (0 : Int).natAbs = 0 from rfl, digN_zero] at hk
      exact ⟨ret_int (by omega), rfl⟩
    · have hs := digN_step x'.natAbs (by omega)
      have hb : (k' : Int) ≤ 2000000000000000000 := by have := HD.out; omega
      have hn : (x' != 0) = true := by simpa using hz
      have u0 := tdiv10 x'
      have u1 : -1000000000000000000 ≤ x'.tdiv 10 := by omega
      have u2 : x'.tdiv 10 ≤ 1000000000000000000 := by omega
      have u3 : (x'.tdiv 10).natAbs < x'.natAbs := by omega
      have HK := Lib.hid hk
      have HS := Lib.hid hs
      have U0 := Lib.hid u0
      clear hk hs u0
      go_wp2
      go_round
      case rel => exact ⟨_, k' + 1, rfl, by go_num, by rw [U0.out]; have := HK.out; have := HS.out; omega, u1, u2⟩
      case measure => exact u3
end Go.Proofs.Ytilgncebhgplaaa
