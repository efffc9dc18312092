import Derived.Test.YtilgncebhgplaaaDoorG0
import Derived.Test.YtilgncebhgplaaaDoorG1
import Derived.Test.YtilgncebhgplaaaDoorG19
import Derived.Test.YtilgncebhgplaaaDoorG6
import Derived.Lib.Hide
import Derived.Outline
import Derived.ProofKit
import Derived.StillTailTactics
import Derived.Test.YtilgncebhgplaaaDoorG7
import Derived.Deep.RegionHeld3
import Derived.Test.YtilgncebhgplaaaDoorG12
/- Slices of trees in the exact laws: as trees without a root of their own. -/
namespace Go.Proofs.YtilgncebhgplaaaDoor
open Go.RowKit
/-- a slice of trees as a tree -/
@[reducible] def lst (p : List PT) : PT := .mk 0 0 0 [] p
theorem lst_pt {X : AT} {p : List PT} (h : X.pt = lst p) : AT.ptL X.l = p := by cases X; simp only [AT.pt, lst, PT.mk.injEq] at h; exact h.2.2.2.2
theorem lst_wf {a : Option Addr} {cap : Nat} {l : List AT} (hl : l.length ≤ 9223372036854775807) (hwf : ∀ t ∈ l, t.pt.Wf) : (AT.mk 0 0 0 [] a cap l).pt.Wf := by
  refine .mk (by omega) (by omega) (by omega) (by simp) (by rw [AT.ptL_length]; exact hl) fun t ht => ?_
  rw [AT.ptL_eq] at ht
  obtain ⟨u, hu, rfl⟩ := List.mem_map.1 ht
  exact hwf u hu
theorem toValS_tree (T : AT) (hwf : T.pt.Wf) (hsz : T.pt.sz ≤ 1048576) (w : World) (N : Nat) (h : T.In w N) (hN : N ≤ w.heap.size) :
    Calls Tryd.prog 32 #[.slice T.a T.l.length T.cap] w fun e w' => ∃ X : AT, X.pt = lst (AT.ptL T.l) ∧ e = .returned (.slice X.a X.l.length X.cap) ∧ X.Own w' w.heap.size ∧ X.blks.Nodup ∧ Below w.heap.size w w' := by
  have hsub : ∀ t ∈ T.l, t.pt.Wf := fun t ht => by
    cases T; exact hwf.sub' t.pt (by rw [AT.ptL_eq]; exact List.mem_map_of_mem ht)
  have hs : T.l.length + PT.szL (AT.ptL T.l) ≤ 1048576 := by
    cases T; simp only [AT.pt, PT.sz, AT.ptL_length, AT.l] at *; omega
  refine (toValS_any T.l hsub hs w N T.a T.cap h.lv' hN).mono fun e w' hp => ?_
  obtain ⟨a', cap', l', h1, h2, h3, h4, h5⟩ := hp
  exact ⟨.mk 0 0 0 [] a' cap' l', by simp [AT.pt, h1], h2, h3.own, h4, h5⟩
theorem szValS_tree (T : AT) (hwf : T.pt.Wf) (w : World) (N left : Nat) (h : T.In w N) (hN : N ≤ w.heap.size) (hleft : left ≤ 1048576) :
    Calls Tryd.prog 29 #[.slice T.a T.l.length T.cap, .int .i64 left] w fun e w' => e = .returned (.int .i64 (szR (T.l.length + PT.szL (AT.ptL T.l)) left)) ∧ Below w.heap.size w w' := by
  have hsub : ∀ t ∈ T.l, t.pt.Wf := fun t ht => by
    cases T; exact hwf.sub' t.pt (by rw [AT.ptL_eq]; exact List.mem_map_of_mem ht)
  have hl : T.l.length ≤ 9223372036854775807 := by
    cases T with
    | mk k n x s a cap l => cases hwf with
      | mk hk hn hx hs hl sub => rw [AT.ptL_length] at hl; exact hl
  exact szValS_any T.l (fun t ht htw => szVal_any t htw) hsub hl w N left T.a T.cap h.lv' hN hleft
theorem eqValS_tree (X Y : AT) (hwf : X.pt.Wf) (hp : AT.ptL X.l = AT.ptL Y.l) (w : World) (hx : X.In w w.heap.size) (hy : Y.In w w.heap.size) :
    Calls Tryd.prog 36 #[.slice X.a X.l.length X.cap, .slice Y.a Y.l.length Y.cap] w fun e w' => e = .returned (.bool true) ∧ Below w.heap.size w w' := by
  have hsub : ∀ t ∈ X.l, t.pt.Wf := fun t ht => by
    cases X; exact hwf.sub' t.pt (by rw [AT.ptL_eq]; exact List.mem_map_of_mem ht)
  have hl : X.l.length ≤ 9223372036854775807 := by
    cases X with
    | mk k n x s a cap l => cases hwf with
      | mk hk hn hx hs hl sub => rw [AT.ptL_length] at hl; exact hl
  exact eqValS_of X.l (fun t ht => eqVal_any t (hsub t ht)) Y.l hp hl w w.heap.size X.a Y.a X.cap Y.cap hx.lv' hy.lv' (Nat.le_refl _)
theorem markS_tree (X : AT) (w : World) (B : Nat) (h : X.Own w B) (hnd : X.blks.Nodup) (hb : PT.cntL (AT.ptL X.l) ≤ 2097152) :
    Calls Tryd.prog 42 #[.slice X.a X.l.length X.cap, .int .i64 1] w fun e w' => e = .returned (.int .i64 (1 + 4 * PT.cntL (AT.ptL X.l) : Nat)) ∧ OnlyBs X.blks w w' := by
  refine (markValS_any X w B 1 h.l' (by rw [← AT.blks_eq]; exact hnd) (Nat.le_refl _) (by omega)).mono fun e w' hp => ?_
  exact ⟨hp.1, by rw [AT.blks_eq]; exact hp.2.2⟩
theorem mark_tree (X : AT) (w : World) (B : Nat) (h : X.Own w B) (hnd : X.blks.Nodup) (hb : X.pt.cnt ≤ 2097152) :
    Calls Tryd.prog 17 #[X.val, .int .i64 1] w fun e w' => (e = .returned (.int .i64 (1 + 4 * PT.cntL (AT.ptL X.l) : Nat)) ∧ OwnL w' B X.a X.cap (AT.markL 1 X.l)) ∧ OnlyBs X.blks w w' := by
  refine (markVal_any X w B 1 h hnd (Nat.le_refl _) (by omega)).mono fun e w' hp => ?_
  exact ⟨⟨hp.1, hp.2.1⟩, hp.2.2⟩
theorem held_tree (X : AT) (w : World) (B : Nat) (h : OwnL w B X.a X.cap (AT.markL 1 X.l)) (hb : X.pt.cnt ≤ 2097152) :
    Calls Tryd.prog 26 #[X.val, .int .i64 1] w fun e w' => e = .returned (.int .i64 (1 + 4 * PT.cntL (AT.ptL X.l) : Nat)) ∧ Below w.heap.size w w' :=
  heldVal_any X w w.heap.size 1 h.lv (Nat.le_refl _) X.k X.n X.x ⟨X.s.toArray⟩ (Nat.le_refl _) (by have := cnt_eq' X; omega)
theorem pt_wf {X : AT} {p : PT} (h : X.pt = p) (hp : p.Wf) : X.pt.Wf := h ▸ hp
theorem pt_sz (T : AT) : T.pt.sz = T.s.length + (T.l.length + PT.szL (AT.ptL T.l)) := by cases T; simp [AT.pt, PT.sz, AT.s, AT.l]
theorem lst_wf_of (T : AT) (h : T.pt.Wf) : (lst (AT.ptL T.l)).Wf := by
  cases T with
  | mk k n x s a cap l => cases h with
    | mk hk hn hx hs hl sub => exact .mk (by omega) (by omega) (by omega) (by simp) hl sub
theorem toValS_lst (T : AT) (hwf : T.pt.Wf) (hs : T.l.length + PT.szL (AT.ptL T.l) ≤ 1048576) (w : World) (N : Nat) (h : T.In w N) (hN : N ≤ w.heap.size) :
    Calls Tryd.prog 32 #[.slice T.a T.l.length T.cap] w fun e w' => ∃ X : AT, X.pt = lst (AT.ptL T.l) ∧ e = .returned (.slice X.a X.l.length X.cap) ∧ X.Own w' w.heap.size ∧ X.blks.Nodup ∧ Below w.heap.size w w' := by
  have hsub : ∀ t ∈ T.l, t.pt.Wf := fun t ht => by
    cases T; exact hwf.sub' t.pt (by rw [AT.ptL_eq]; exact List.mem_map_of_mem ht)
  refine (toValS_any T.l hsub hs w N T.a T.cap h.lv' hN).mono fun e w' hp => ?_
  obtain ⟨a', cap', l', h1, h2, h3, h4, h5⟩ := hp
  exact ⟨.mk 0 0 0 [] a' cap' l', by simp [AT.pt, h1], h2, h3.own, h4, h5⟩
end Go.Proofs.YtilgncebhgplaaaDoor
/- When two trees are the same (plain), and two stacks. -/
namespace Go.Proofs.YtilgncebhgplaaaDoor
mutual
def PT.same : PT → PT → Bool
  | .mk k n x s l, .mk k' n' x' s' l' => (k == k' && n == n' && x == x' && s == s' && l.length == l'.length) && PT.sameL l l'
def PT.sameL : List PT → List PT → Bool
  | t :: l, u :: m => t.same u && PT.sameL l m
  | _, _ => true
end
/-- the fields, and the number of elements -/
def AT.hd (t u : AT) : Bool := t.k == u.k && t.n == u.n && t.x == u.x && t.s == u.s && t.l.length == u.l.length
theorem ptsame_eq (t u : AT) : t.pt.same u.pt = (t.hd u && PT.sameL (AT.ptL t.l) (AT.ptL u.l)) := by
  cases t; cases u
  simp [AT.pt, PT.same, AT.hd, AT.k, AT.n, AT.x, AT.s, AT.l]
theorem ptsame_refl (t : PT) : t.same t = true := by
  induction t using PT.ind with
  | h k n x s l ih =>
    have : PT.sameL l l = true := by
      induction l with
      | nil => rfl
      | cons t l ihl => simp only [PT.sameL, ih t (by simp), ihl (fun u hu => ih u (by simp [hu])), Bool.and_self]
    simp [PT.same, this]
theorem ptsame_true {t u : PT} (h : t.same u = true) : t = u := by
  induction t using PT.ind generalizing u with
  | h k n x s l ih =>
    obtain ⟨k', n', x', s', m⟩ := u
    simp only [PT.same, Bool.and_eq_true, beq_iff_eq] at h
    obtain ⟨⟨⟨⟨⟨rfl, rfl⟩, rfl⟩, rfl⟩, hl⟩, hs⟩ := h
    have : l = m := by
      induction l generalizing m with
      | nil => cases m with
        | nil => rfl
        | cons u m => simp at hl
      | cons t l ihl =>
        cases m with
        | nil => simp at hl
        | cons u m =>
          simp only [PT.sameL, Bool.and_eq_true] at hs
          rw [ih t (by simp) hs.1, ihl (fun u hu => ih u (by simp [hu])) m hs.2 (by simpa using hl)]
    rw [this]
theorem ptsame_iff {t u : PT} : t.same u = true ↔ t = u := ⟨ptsame_true, fun h => h ▸ ptsame_refl _⟩
/-- two lists of trees of one length: the first i pairs, the pair i -/
theorem sameL_split (l m : List PT) (i : Nat) (h1 : i < l.length) (h2 : i < m.length) : PT.sameL (l.take (i + 1)) (m.take (i + 1)) = (PT.sameL (l.take i) (m.take i) && (l[i]).same m[i]) := by
  induction l generalizing m i with
  | nil => simp at h1
  | cons t l ih =>
    cases m with
    | nil => simp at h2
    | cons u m =>
      cases i with
      | zero => simp [PT.sameL]
      | succ i =>
        simp only [List.take_succ_cons, PT.sameL, List.getElem_cons_succ]
        rw [ih m i (by simpa using h1) (by simpa using h2), Bool.and_assoc]
theorem sameL_false (l m : List PT) (i : Nat) (h1 : i < l.length) (h2 : i < m.length) (h : (l[i]).same m[i] = false) : PT.sameL l m = false := by
  induction l generalizing m i with
  | nil => simp at h1
  | cons t l ih =>
    cases m with
    | nil => simp at h2
    | cons u m =>
      cases i with
      | zero => simp at h; simp [PT.sameL, h]
      | succ i => simp only [PT.sameL]; rw [ih m i (by simpa using h1) (by simpa using h2) (by simpa using h), Bool.and_false]
end Go.Proofs.YtilgncebhgplaaaDoor
/- SameVal of the model, and sameVal of the laws. -/
namespace Go.Proofs.YtilgncebhgplaaaDoor
open Go.RowKit
theorem two' (w : World) (a b : Obj) : Below w.heap.size w ((w.alloc a).alloc b) := ((Below.refl w.heap.size w).alloc (Nat.le_refl _) a).alloc (by simp) b
theorem box55 (w : World) (k n x k2 n2 x2 : Int) (s s2 : ByteArray) (a a2 : Option Addr) (len len2 cap cap2 : Nat) (t : TypeId) {wr : World}
    (hb : Below (w.heap.size + 1 + 1) ((w.alloc (.cells #[.int .i64 k, .int .i64 n, .int .i64 x, .string s, .slice a len cap] t)).alloc (.cells #[.int .i64 k2, .int .i64 n2, .int .i64 x2, .string s2, .slice a2 len2 cap2] t)) wr) :
    wr.cell? ⟨w.heap.size, 4, none⟩ = some (.slice a len cap) ∧ wr.cell? ⟨w.heap.size + 1, 4, none⟩ = some (.slice a2 len2 cap2) := by
  refine ⟨?_, ?_⟩ <;> exact (hb.cell (by simp; try omega)).trans (by simp [go_sem])
theorem hd_cases {k k2 n n2 x x2 : Int} {s s2 : List UInt8} {a b : Nat} (h : ¬ (k = k2 ∧ n = n2 ∧ x = x2 ∧ s = s2 ∧ a = b)) :
    ¬ k = k2 ∨ (k = k2 ∧ ¬ n = n2) ∨ (k = k2 ∧ n = n2 ∧ ¬ x = x2) ∨ (k = k2 ∧ n = n2 ∧ x = x2 ∧ (s == s2) = false ∧ (s != s2) = true) ∨ (k = k2 ∧ n = n2 ∧ x = x2 ∧ s = s2 ∧ ¬ (a : Int) = b ∧ ((a : Int) == b) = false) := by
  by_cases h0 : k = k2
  · by_cases h1 : n = n2
    · by_cases h2 : x = x2
      · by_cases h3 : s = s2
        · exact .inr (.inr (.inr (.inr ⟨h0, h1, h2, h3, by intro e; exact h ⟨h0, h1, h2, h3, by omega⟩, by rw [beq_eq_false_iff_ne]; intro e; exact h ⟨h0, h1, h2, h3, by omega⟩⟩)))
        · exact .inr (.inr (.inr (.inl ⟨h0, h1, h2, by simpa using h3, by simpa using h3⟩)))
      · exact .inr (.inr (.inl ⟨h0, h1, h2⟩))
    · exact .inr (.inl ⟨h0, h1⟩)
  · exact .inl h0
end Go.Proofs.YtilgncebhgplaaaDoor
/- A stack is determined by the memory that holds it: so what is left of a walk is a measure. -/
namespace Go.Proofs.YtilgncebhgplaaaDoor
open Go.RowKit
theorem bytes_inj {s t : List UInt8} (h : (ByteArray.mk s.toArray) = ByteArray.mk t.toArray) : s = t := by
  injection h with h
  simpa using congrArg Array.toList h
theorem AT.In.uniq {w : World} {N M : Nat} {T U : AT} (h : T.In w N) (h2 : U.In w M) (hv : T.val = U.val) : T = U := by
  induction T using AT.ind generalizing U with
  | h k n x s a cap l ih =>
    obtain ⟨k2, n2, x2, s2, a2, cap2, m⟩ := U
    simp only [AT.val, Value.agg.injEq] at hv
    have e : [Value.int .i64 k, .int .i64 n, .int .i64 x, .string ⟨s.toArray⟩, .slice a l.length cap] = [Value.int .i64 k2, .int .i64 n2, .int .i64 x2, .string ⟨s2.toArray⟩, .slice a2 m.length cap2] := congrArg Array.toList hv
    simp only [List.cons.injEq, Value.int.injEq, Value.string.injEq, Value.slice.injEq, true_and, and_true] at e
    obtain ⟨rfl, rfl, rfl, es, rfl, hlen, rfl⟩ := e
    obtain rfl := bytes_inj es
    have hl : l = m := by
      refine List.ext_getElem hlen fun j h1 h2' => ?_
      obtain ⟨b, o, ha, _, hC⟩ := h.lv.cell j h1
      obtain ⟨b', o', ha', _, hD⟩ := h2.lv.cell j h2'
      rw [ha] at ha'
      injection ha' with ha'
      injection ha' with e1 e2
      subst e1 e2
      refine ih _ (List.getElem_mem h1) (h.lv.sub _ (List.getElem_mem h1)) (h2.lv.sub _ (List.getElem_mem h2')) ?_
      have q0 := hC.c0.symm.trans hD.c0
      have q1 := hC.c1.symm.trans hD.c1
      have q2 := hC.c2.symm.trans hD.c2
      have q3 := hC.c3.symm.trans hD.c3
      have q4 := hC.c4.symm.trans hD.c4
      injection q0 with q0
      injection q1 with q1
      injection q2 with q2
      injection q3 with q3
      injection q4 with q4
      simp only [AT.val, q0, q1, q2, q3, q4]
    rw [hl]
theorem WalkAt.uniq {w : World} {N B P g cap N' B' g' cap' : Nat} {S S' : List Lev} {d d' : Int} (h : WalkAt w N B P g cap S d) (h' : WalkAt w N' B' P g' cap' S' d') : S = S' := by
  have e := h.rest.symm.trans h'.rest
  simp only [Option.some.injEq, Value.slice.injEq, Addr.mk.injEq, and_true] at e
  obtain ⟨rfl, hlen, rfl⟩ := e
  refine List.ext_getElem hlen fun j h1 h2 => ?_
  have c1 := h.row.cellAt j (by omega)
  have c2 := h'.row.cellAt j (by omega)
  have e := c1.symm.trans c2
  rw [List.getElem?_map, List.getElem?_map, List.getElem?_eq_getElem h1, List.getElem?_eq_getElem h2] at e
  simp only [Option.map_some, Option.some.injEq] at e
  have l1 := h.lv _ (List.getElem_mem h1)
  have l2 := h'.lv _ (List.getElem_mem h2)
  revert e l1 l2
  generalize S[j] = L
  generalize S'[j] = L'
  intro e l1 l2
  obtain ⟨a, c, l⟩ := L
  obtain ⟨a', c', l'⟩ := L'
  simp only [Lev.val, Value.slice.injEq] at e
  obtain ⟨rfl, hl, rfl⟩ := e
  have := AT.In.uniq (T := .mk 0 0 0 [] a c l) (U := .mk 0 0 0 [] a c l') l1.in l2.in (by simp only [AT.val, AT.k, AT.n, AT.x, AT.s, AT.a, AT.cap, AT.l, hl])
  injection this with _ _ _ _ _ _ this
  rw [this]
/-- how many values are left on a stack -/
def remN (S : List Lev) : Nat := (S.map fun L => PT.cntL (AT.ptL L.l)).sum
theorem remN_append (S T : List Lev) : remN (S ++ T) = remN S + remN T := by simp [remN]
theorem remN_empty (S : List Lev) (h : ∀ L ∈ S, L.l = []) : remN S = 0 := by
  induction S with
  | nil => rfl
  | cons L S ih =>
    have h1 := h L (by simp)
    have h2 := ih (fun L hL => h L (by simp [hL]))
    simp only [remN, List.map_cons, List.sum_cons, h1, AT.ptL, PT.cntL] at *
    omega
theorem cnt_eq (t : AT) : t.pt.cnt = PT.cntL (AT.ptL t.l) + 1 := by cases t; simp [AT.pt, PT.cnt, AT.l]
theorem remN_step (S1 E : List Lev) (L : Lev) (t : AT) (tl : List AT) (a c) (hE : ∀ L ∈ E, L.l = []) (hl : L.l = t :: tl) : remN (S1 ++ L :: E) = remN (S1 ++ [⟨a, c, tl⟩, ⟨t.a, t.cap, t.l⟩]) + 1 := by
  have h1 : remN (L :: E) = PT.cntL (AT.ptL L.l) + remN E := by simp [remN]
  rw [remN_append, remN_append, h1, remN_empty E hE, hl]
  simp only [remN, List.map_cons, List.map_nil, List.sum_cons, List.sum_nil, AT.ptL, PT.cntL, cnt_eq]
  omega
/-- the measure: what is left of the walk at P -/
theorem left_eq {w : World} {N B P g cap : Nat} {S : List Lev} {d : Int} (h : WalkAt w N B P g cap S d) (F : List Lev → Nat) : (Classical.epsilon fun n : Nat => ∃ N B g cap S d, WalkAt w N B P g cap S d ∧ n = F S) = F S := by
  have := Classical.epsilon_spec (p := fun n : Nat => ∃ N B g cap S d, WalkAt w N B P g cap S d ∧ n = F S) ⟨F S, N, B, g, cap, S, d, h, rfl⟩
  obtain ⟨_, _, _, _, S', _, h', e⟩ := this
  rw [e, h.uniq h']
/-- the measure of a loop over the walk at P whose condition lies in the slot m -/
theorem leftM_ex (P : Nat) : ∃ M : Value → World → Nat, (∀ (w : World) (N B g cap : Nat) (S : List Lev) (d : Int), WalkAt w N B P g cap S d → M (.bool true) w = remN S + 1) ∧ ∀ w, M (.bool false) w = 0 :=
  ⟨fun m w => match m with | .bool true => (Classical.epsilon fun n : Nat => ∃ N B g cap S d, WalkAt w N B P g cap S d ∧ n = remN S) + 1 | _ => 0,
    fun w N B g cap S d h => by show _ + 1 = _; rw [left_eq h remN], fun _ => rfl⟩
end Go.Proofs.YtilgncebhgplaaaDoor
/- The program's walk begun: walkOf. -/
namespace Go.Proofs.YtilgncebhgplaaaDoor
open Go.RowKit
theorem walkof_any (T : AT) (w : World) (N : Nat) (hin : T.In w N) (hN : N ≤ w.heap.size) :
    Calls Tryd.prog 57 #[T.val] w fun e w' => e = .returned (.pointer (some ⟨w.heap.size + 3, 0, none⟩)) ∧ WalkAt w' (w.heap.size + 2) (w.heap.size + 2) (w.heap.size + 3) (w.heap.size + 2) 1 [⟨some ⟨w.heap.size + 1, 0, none⟩, 1, [T]⟩] 0 ∧ Below w.heap.size w w' ∧ w'.heap.size = w.heap.size + 4 := by
  have H := Lib.hid hin
  clear hin
  obtain ⟨k, n, x, s, a, cap, l⟩ := T
  show Calls Tryd.prog 57 #[.agg #[.int .i64 k, .int .i64 n, .int .i64 x, .string ⟨s.toArray⟩, .slice a l.length cap]] w _
  go_enter Tryd.func57, Tryd.ntmps57
  go_wp2
  go_ret
  have hb : Below w.heap.size w ((((w.alloc (.cells #[.int .i64 k, .int .i64 n, .int .i64 x, .string ⟨s.toArray⟩, .slice a l.length cap] 29)).alloc (.cells #[.int .i64 k, .int .i64 n, .int .i64 x, .string ⟨s.toArray⟩, .slice a l.length cap] 29)).alloc (.cells #[.slice (some ⟨w.heap.size + 1, 0, none⟩) 1 1] 27)).alloc (.cells #[.slice (some ⟨w.heap.size + 1 + 1, 0, none⟩) 1 1, .int .i64 0] 97)) :=
    ((((Below.refl _ _).alloc (Nat.le_refl _) _).alloc (by simp) _).alloc (by simp; omega) _).alloc (by simp; omega) _
  refine ⟨rfl, ?_, hb, by simp⟩
  exact {
    rest := by simp [go_sem]
    deep := by simp [go_sem]
    fr := fun o => by simp [go_sem]
    row := by
      refine ⟨rfl, .inr ⟨w.heap.size + 2, 1, #[.slice (some ⟨w.heap.size + 1, 0, none⟩) 1 1], rfl, Nat.le_refl _, ?_, Nat.le_refl _, by unfold maxLen; omega, rfl, rfl⟩⟩
      rw [Below.heap_alloc _ _ _ (by simp)]
      have := heap_alloc_new ((w.alloc (.cells #[.int .i64 k, .int .i64 n, .int .i64 x, .string ⟨s.toArray⟩, .slice a l.length cap] 29)).alloc (.cells #[.int .i64 k, .int .i64 n, .int .i64 x, .string ⟨s.toArray⟩, .slice a l.length cap] 29)) (.cells #[.slice (some ⟨w.heap.size + 1, 0, none⟩) 1 1] 27)
      simpa using this
    pB := by omega
    pN := Nat.le_refl _
    ne := by omega
    lv := fun L hL => by
      obtain rfl : L = ⟨some ⟨w.heap.size + 1, 0, none⟩, 1, [.mk k n x s a cap l]⟩ := by simpa using hL
      refine ⟨Nat.le_refl _, fun j hj => ⟨w.heap.size + 1, 0, rfl, by omega, ?_⟩, fun t ht => ?_⟩
      · obtain rfl : j = 0 := by simp at hj; exact hj
        refine ⟨?_, ?_, ?_, ?_, ?_⟩ <;> simp [go_sem, AT.k, AT.n, AT.x, AT.s, AT.a, AT.cap, AT.l]
      · obtain rfl : t = .mk k n x s a cap l := by simpa using ht
        exact (H.out.blw hb hN).mono (by omega) }
end Go.Proofs.YtilgncebhgplaaaDoor
/- CountOf and DeepOf of the program. -/
namespace Go.Proofs.YtilgncebhgplaaaDoor
open Go.RowKit
/-- what holds at the head of a loop over a walk: the box of the value at hand lies at X and is no part of the walk -/
structure HeadAt (w wr : World) (B P g cap : Nat) (S : List Lev) (d : Int) (X : Nat) (T : AT) : Prop where
  walk : WalkAt wr B B P g cap S d
  x : CellsAt wr X 0 T
  xP : X ≠ P
  xg : X ≠ g
  xB : w.heap.size ≤ X
  bB : w.heap.size ≤ B
  below : Below w.heap.size w wr
theorem HeadAt.xlt {w wr : World} {B P g cap : Nat} {S : List Lev} {d : Int} {X : Nat} {T : AT} (h : HeadAt w wr B P g cap S d X T) : X < wr.heap.size := cell_lt h.x.c0
/-- a step, read at the head of such a loop -/
theorem next_head {w wr : World} {B P g cap : Nat} {S : List Lev} {d : Int} (h : WalkAt wr B B P g cap S d) (hB : w.heap.size ≤ B) (hb : Below w.heap.size w wr) (hS : S.length ≤ 4194304) :
    Calls Tryd.prog 58 #[.pointer (some ⟨P, 0, none⟩)] wr fun e w' =>
      (∃ (S1 E : List Lev) (L : Lev) (t : AT) (tl : List AT) (a' : Option Addr) (c' g' cap' : Nat), S = S1 ++ L :: E ∧ (∀ L' ∈ E, L'.l = []) ∧ L.l = t :: tl ∧ e = .returned (.tuple #[t.val, .bool true]) ∧
        WalkAt w' B B P g' cap' (S1 ++ [⟨a', c', tl⟩, ⟨t.a, t.cap, t.l⟩]) (S1.length + 1 : Nat) ∧ (g' = g ∨ wr.heap.size ≤ g') ∧ Only2 P g wr w' ∧ Below w.heap.size w w') ∨
      ((∀ L' ∈ S, L'.l = []) ∧ e = .returned (.tuple #[(AT.leaf 0 0 0 []).val, .bool false]) ∧ Only2 P g wr w' ∧ Below w.heap.size w w') := by
  have hl := h.lt
  have hp := h.pB
  have hs := hb.size
  refine (next_any wr B B P g cap S d h hS).mono fun e w' hpost => ?_
  rcases hpost with ⟨S1, E, L, t, tl, a', c', g', cap', h1, h2, h3, h4, h5, h6, h7⟩ | ⟨h1, h2, h3⟩
  · exact .inl ⟨S1, E, L, t, tl, a', c', g', cap', h1, h2, h3, h4, h5, h6, h7, hb.trans (h7.below (by omega) (by omega) (by omega))⟩
  · exact .inr ⟨h1, h2, h3, hb.trans (h3.below (by omega) (by omega) (by omega))⟩
/-- walkOf, its blocks as letters -/
theorem walkof_head (T : AT) (w : World) (N : Nat) (hin : T.In w N) (hN : N ≤ w.heap.size) (w1 : World) (hb1 : Below w.heap.size w w1) :
    Calls Tryd.prog 57 #[T.val] w1 fun e w' => ∃ P g b B, e = .returned (.pointer (some ⟨P, 0, none⟩)) ∧ WalkAt w' B B P g 1 [⟨some ⟨b, 0, none⟩, 1, [T]⟩] 0 ∧ w1.heap.size ≤ B ∧ Below w1.heap.size w1 w' ∧ Below w.heap.size w w' := by
  refine (walkof_any T w1 N (hin.blw hb1 hN) (Nat.le_trans hN hb1.size)).mono fun e w' h => ?_
  exact ⟨_, _, _, _, h.1, h.2.1, by omega, h.2.2.1, hb1.trans (h.2.2.1.mono hb1.size)⟩
/-- the box of the value at hand, and the walk behind it: the head of the next round -/
theorem HeadAt.new {w wr : World} {B P g cap : Nat} {S : List Lev} {d : Int} {t : AT} (h : WalkAt wr B B P g cap S d) (hB : w.heap.size ≤ B) (hb : Below w.heap.size w wr) :
    HeadAt w (wr.alloc (.cells #[.int .i64 t.k, .int .i64 t.n, .int .i64 t.x, .string ⟨t.s.toArray⟩, .slice t.a t.l.length t.cap] 29)) B P g cap S d wr.heap.size t where
  walk := h.blw (vbox _ _)
  x := by refine ⟨?_, ?_, ?_, ?_, ?_⟩ <;> simp [go_sem]
  xP := by have := h.lt; omega
  xg := by have := h.lt; omega
  xB := hb.size
  bB := hB
  below := hb.alloc hb.size _
theorem HeadAt.step {w wr w' : World} {B P g cap g' cap' : Nat} {S S' : List Lev} {d d' : Int} {X : Nat} {t : AT} (h : HeadAt w wr B P g cap S d X t) (hw : WalkAt w' B B P g' cap' S' d') (hg : g' = g ∨ wr.heap.size ≤ g') (ho : Only2 P g wr w') (hb : Below w.heap.size w w') : HeadAt w w' B P g' cap' S' d' X t where
  walk := hw
  x := h.x.keep (ho.block X h.xlt h.xP h.xg)
  xP := h.xP
  xg := by have := h.xlt; have := h.xg; omega
  xB := h.xB
  bB := h.bB
  below := hb
end Go.Proofs.YtilgncebhgplaaaDoor
/- SameVal of the program. -/
namespace Go.Proofs.YtilgncebhgplaaaDoor
open Go.RowKit
set_option maxHeartbeats 4000000 in
theorem fields_impl (T U : AT) (w : World) : Calls Tryd.prog 61 #[T.val, U.val] w fun e w' => e = .returned (.bool (T.hd U)) ∧ Below w.heap.size w w' := by
  obtain ⟨k, n, x, s, a, cap, l⟩ := T
  obtain ⟨k2, n2, x2, s2, b, cap2, m⟩ := U
  have hsame : ∀ B, (AT.mk k n x s a cap l).hd (AT.mk k2 n2 x2 s2 b cap2 m) = B ↔ (k == k2 && n == n2 && x == x2 && s == s2 && l.length == m.length) = B := fun B => Iff.rfl
  have HS := Lib.hid hsame
  clear hsame
  show Calls Tryd.prog 61 #[.agg #[.int .i64 k, .int .i64 n, .int .i64 x, .string ⟨s.toArray⟩, .slice a l.length cap], .agg #[.int .i64 k2, .int .i64 n2, .int .i64 x2, .string ⟨s2.toArray⟩, .slice b m.length cap2]] w _
  by_cases hf : k = k2 ∧ n = n2 ∧ x = x2 ∧ s = s2 ∧ l.length = m.length
  · obtain ⟨rfl, rfl, rfl, rfl, hlen⟩ := hf
    have HR : Hid ((AT.mk k n x s a cap l).hd (AT.mk k n x s b cap2 m) = true) := Lib.hid ((HS.out true).2 (by simp [hlen]))
    rw [← hlen]
    clear hlen HS
    go_enter Tryd.func61, Tryd.ntmps61
    go_wp2
    go_ret
    exact ⟨by rw [HR.out]; rfl, two' _ _ _⟩
  · have hfalse : (k == k2 && n == n2 && x == x2 && s == s2 && l.length == m.length) = false := by
      rw [Bool.eq_false_iff]
      intro h
      simp only [Bool.and_eq_true, beq_iff_eq] at h
      exact hf ⟨h.1.1.1.1, h.1.1.1.2, h.1.1.2, h.1.2, h.2⟩
    have HR : Hid ((AT.mk k n x s a cap l).hd (AT.mk k2 n2 x2 s2 b cap2 m) = false) := Lib.hid ((HS.out false).2 hfalse)
    clear hfalse HS
    rcases hd_cases hf with h0 | ⟨rfl, h1⟩ | ⟨rfl, rfl, h2⟩ | ⟨rfl, rfl, rfl, h3, h4⟩ | ⟨rfl, rfl, rfl, rfl, h5, h6⟩
    all_goals clear hf
    all_goals
      go_enter Tryd.func61, Tryd.ntmps61
      go_wp2
      go_ret
      exact ⟨by rw [HR.out]; rfl, two' _ _ _⟩
/-- two stacks, level by level -/
def sameS : List Lev → List Lev → Bool
  | L :: S, M :: R => PT.sameL (AT.ptL L.l) (AT.ptL M.l) && sameS S R
  | _, _ => true
theorem sameS_append (S R S' R' : List Lev) (h : S.length = R.length) : sameS (S ++ S') (R ++ R') = (sameS S R && sameS S' R') := by
  induction S generalizing R with
  | nil => cases R with
    | nil => simp [sameS]
    | cons M R => simp at h
  | cons L S ih =>
    cases R with
    | nil => simp at h
    | cons M R => simp only [List.cons_append, sameS]; rw [ih R (by simpa using h), Bool.and_assoc]
theorem sameS_empty (S R : List Lev) (h : ∀ L ∈ S, L.l = []) : sameS S R = true := by
  induction S generalizing R with
  | nil => rfl
  | cons L S ih =>
    cases R with
    | nil => rfl
    | cons M R =>
      simp only [sameS, h L (by simp), AT.ptL, ih R (fun L hL => h L (by simp [hL]))]
      cases h2 : AT.ptL M.l <;> simp [PT.sameL]
def lens (S : List Lev) : List Nat := S.map fun L => L.l.length
theorem zeros_split (A A' Z Z' : List Nat) (a a' : Nat) (hZ : ∀ z ∈ Z, z = 0) (hZ' : ∀ z ∈ Z', z = 0) (h : A ++ (a + 1) :: Z = A' ++ (a' + 1) :: Z') : A = A' ∧ a = a' ∧ Z = Z' := by
  induction A generalizing A' with
  | nil =>
    cases A' with
    | nil => simp at h; exact ⟨rfl, h.1, h.2⟩
    | cons x A' =>
      simp only [List.nil_append, List.cons_append, List.cons.injEq] at h
      have := hZ (a' + 1) (by rw [h.2]; simp)
      omega
  | cons x A ih =>
    cases A' with
    | nil =>
      simp only [List.nil_append, List.cons_append, List.cons.injEq] at h
      have := hZ' (a + 1) (by rw [← h.2]; simp)
      omega
    | cons y A' =>
      simp only [List.cons_append, List.cons.injEq] at h
      obtain ⟨rfl, h⟩ := h
      obtain ⟨rfl, h2⟩ := ih A' h
      exact ⟨rfl, h2⟩
theorem lens_empty {S : List Lev} (h : ∀ L ∈ S, L.l = []) : ∀ z ∈ lens S, z = 0 := by
  intro z hz
  obtain ⟨L, hL, rfl⟩ := List.mem_map.1 hz
  rw [h L hL]; rfl
theorem lens_none {S R : List Lev} (h : lens S = lens R) (hS : ∀ L ∈ S, L.l = []) : ∀ L ∈ R, L.l = [] := by
  intro L hL
  have : L.l.length ∈ lens S := by rw [h]; exact List.mem_map_of_mem hL
  exact List.length_eq_zero_iff.1 (lens_empty hS _ this)
/-- the two walks' steps, side by side -/
theorem sameS_step {S1 E R1 F : List Lev} {L M : Lev} {t u : AT} {tl ul : List AT} (a c a' c') (hE : ∀ L ∈ E, L.l = []) (hF : ∀ L ∈ F, L.l = []) (hl : L.l = t :: tl) (hm : M.l = u :: ul) (h : lens (S1 ++ L :: E) = lens (R1 ++ M :: F)) :
    (sameS (S1 ++ L :: E) (R1 ++ M :: F) = (t.hd u && sameS (S1 ++ [Lev.mk a c tl, Lev.mk t.a t.cap t.l]) (R1 ++ [Lev.mk a' c' ul, Lev.mk u.a u.cap u.l]))) ∧ (t.hd u = true → lens (S1 ++ [Lev.mk a c tl, Lev.mk t.a t.cap t.l]) = lens (R1 ++ [Lev.mk a' c' ul, Lev.mk u.a u.cap u.l])) := by
  simp only [lens, List.map_append, List.map_cons, hl, hm, List.length_cons] at h
  obtain ⟨h1, h2, h3⟩ := zeros_split _ _ _ _ _ _ (lens_empty hE) (lens_empty hF) h
  have hlen : S1.length = R1.length := by simpa using congrArg List.length h1
  constructor
  · rw [sameS_append _ _ _ _ hlen, sameS_append _ _ _ _ hlen]
    simp only [sameS, sameS_empty E F hE, hl, hm, AT.ptL, PT.sameL, ptsame_eq, Bool.and_true]
    cases t.hd u <;> cases sameS S1 R1 <;> cases PT.sameL (AT.ptL t.l) (AT.ptL u.l) <;> cases PT.sameL (AT.ptL tl) (AT.ptL ul) <;> rfl
  · intro hh
    simp only [AT.hd, Bool.and_eq_true, beq_iff_eq] at hh
    simp only [lens, List.map_append, List.map_cons, List.map_nil, h2, hh.2]
    rw [h1]
end Go.Proofs.YtilgncebhgplaaaDoor
/- When a value is right (plain), and the contents of values. -/
namespace Go.Proofs.YtilgncebhgplaaaDoor
open Go.RowKit
/-- within the bounds of the kind -/
def okF (k n x : Int) (s : List UInt8) (len : Nat) : Bool :=
  if k = 1 then true else if k = 2 then decide (0 ≤ n ∧ n ≤ 1) else if k = 3 then decide (-1000000000000000 ≤ n ∧ n ≤ 1000000000000000) else if k = 4 then fltOk n x else if k = 5 then decide (0 ≤ n ∧ n ≤ 2) else if k = 6 then decide (x < 0) && decOk n x else if k = 7 then (runes s).isSome else if k = 8 then true else if k = 9 then true else if k = 10 then decide (len % 2 = 0) else if k = 11 then decide (0 ≤ n ∧ n ≤ 1000000000000000) && decide (len = 1) else false
/-- what the kind does not use is zero -/
def zF (k n x : Int) (s : List UInt8) (len : Nat) : Bool :=
  if k = 1 then n == 0 && x == 0 && s == [] && len == 0 else if k = 2 then x == 0 && s == [] && len == 0 else if k = 3 then x == 0 && s == [] && len == 0 else if k = 4 then s == [] && len == 0 else if k = 5 then x == 0 && s == [] && len == 0 else if k = 6 then s == [] && len == 0 else if k = 7 then n == 0 && x == 0 && len == 0 else if k = 8 then n == 0 && x == 0 && len == 0 else if k = 9 then n == 0 && x == 0 && s == [] else if k = 10 then n == 0 && x == 0 && s == [] else if k = 11 then x == 0 && s == [] else false
def nodeF (k n x : Int) (s : List UInt8) (len : Nat) : Bool := okF k n x s len && zF k n x s len
mutual
def PT.ok : PT → Bool
  | .mk k n x s l => nodeF k n x s l.length && PT.okL l
def PT.okL : List PT → Bool
  | [] => true
  | t :: l => t.ok && PT.okL l
end
def AT.node (t : AT) : Bool := nodeF t.k t.n t.x t.s t.l.length
theorem ok_eq (t : AT) : t.pt.ok = (t.node && PT.okL (AT.ptL t.l)) := by cases t; simp [AT.pt, PT.ok, AT.node, AT.k, AT.n, AT.x, AT.s, AT.l]
def conOf (t : AT) : Value :=
  if t.k = 1 then .iface 99 (.agg #[]) else if t.k = 2 then .iface 100 (.int .i64 t.n) else if t.k = 3 then .iface 101 (.int .i64 t.n) else if t.k = 4 then .iface 102 (.agg #[.int .i64 t.n, .int .i64 t.x]) else if t.k = 5 then .iface 103 (.int .i64 t.n) else if t.k = 6 then .iface 104 (.agg #[.int .i64 t.n, .int .i64 t.x]) else if t.k = 7 then .iface 105 (.string ⟨t.s.toArray⟩) else if t.k = 8 then .iface 106 (.string ⟨t.s.toArray⟩) else if t.k = 9 then .iface 107 (.slice t.a t.l.length t.cap) else if t.k = 10 then .iface 108 (.slice t.a t.l.length t.cap) else if t.k = 11 then .iface 110 (.agg #[.int .i64 t.n, .slice t.a t.l.length t.cap]) else .nilIface
def conAT (t : AT) : AT :=
  if t.k = 1 then .mk 1 0 0 [] none 0 [] else if t.k = 2 then .mk 2 t.n 0 [] none 0 [] else if t.k = 3 then .mk 3 t.n 0 [] none 0 [] else if t.k = 4 then .mk 4 t.n t.x [] none 0 [] else if t.k = 5 then .mk 5 t.n 0 [] none 0 [] else if t.k = 6 then .mk 6 t.n t.x [] none 0 [] else if t.k = 7 then .mk 7 0 0 t.s none 0 [] else if t.k = 8 then .mk 8 0 0 t.s none 0 [] else if t.k = 9 then .mk 9 0 0 [] t.a t.cap t.l else if t.k = 10 then .mk 10 0 0 [] t.a t.cap t.l else if t.k = 11 then .mk 11 t.n 0 [] t.a t.cap t.l else t
theorem con_cases (t : AT) : (t.k < 1 ∨ 11 < t.k) ∨ t.k = 1 ∨ t.k = 2 ∨ t.k = 3 ∨ t.k = 4 ∨ t.k = 5 ∨ t.k = 6 ∨ t.k = 7 ∨ t.k = 8 ∨ t.k = 9 ∨ t.k = 10 ∨ t.k = 11 := by omega
theorem con_kind (t : AT) : ((t.k < 1 ∨ 11 < t.k) ∧ conOf t = .nilIface ∧ okF t.k t.n t.x t.s t.l.length = false) ∨ (t.k = 1 ∧ conOf t = .iface 99 (.agg #[]) ∧ conAT t = .mk 1 0 0 [] none 0 []) ∨ (t.k = 2 ∧ conOf t = .iface 100 (.int .i64 t.n) ∧ conAT t = .mk 2 t.n 0 [] none 0 []) ∨ (t.k = 3 ∧ conOf t = .iface 101 (.int .i64 t.n) ∧ conAT t = .mk 3 t.n 0 [] none 0 []) ∨ (t.k = 4 ∧ conOf t = .iface 102 (.agg #[.int .i64 t.n, .int .i64 t.x]) ∧ conAT t = .mk 4 t.n t.x [] none 0 []) ∨ (t.k = 5 ∧ conOf t = .iface 103 (.int .i64 t.n) ∧ conAT t = .mk 5 t.n 0 [] none 0 []) ∨ (t.k = 6 ∧ conOf t = .iface 104 (.agg #[.int .i64 t.n, .int .i64 t.x]) ∧ conAT t = .mk 6 t.n t.x [] none 0 []) ∨ (t.k = 7 ∧ conOf t = .iface 105 (.string ⟨t.s.toArray⟩) ∧ conAT t = .mk 7 0 0 t.s none 0 []) ∨ (t.k = 8 ∧ conOf t = .iface 106 (.string ⟨t.s.toArray⟩) ∧ conAT t = .mk 8 0 0 t.s none 0 []) ∨ (t.k = 9 ∧ conOf t = .iface 107 (.slice t.a t.l.length t.cap) ∧ conAT t = .mk 9 0 0 [] t.a t.cap t.l) ∨ (t.k = 10 ∧ conOf t = .iface 108 (.slice t.a t.l.length t.cap) ∧ conAT t = .mk 10 0 0 [] t.a t.cap t.l) ∨ (t.k = 11 ∧ conOf t = .iface 110 (.agg #[.int .i64 t.n, .slice t.a t.l.length t.cap]) ∧ conAT t = .mk 11 t.n 0 [] t.a t.cap t.l) := by
  rcases con_cases t with h | h | h | h | h | h | h | h | h | h | h | h
  · left
    refine ⟨h, ?_, ?_⟩
    · unfold conOf
      rw [if_neg (by omega)]; rw [if_neg (by omega)]; rw [if_neg (by omega)]; rw [if_neg (by omega)]; rw [if_neg (by omega)]; rw [if_neg (by omega)]; rw [if_neg (by omega)]; rw [if_neg (by omega)]; rw [if_neg (by omega)]; rw [if_neg (by omega)]; rw [if_neg (by omega)]
    · unfold okF
      rw [if_neg (by omega)]; rw [if_neg (by omega)]; rw [if_neg (by omega)]; rw [if_neg (by omega)]; rw [if_neg (by omega)]; rw [if_neg (by omega)]; rw [if_neg (by omega)]; rw [if_neg (by omega)]; rw [if_neg (by omega)]; rw [if_neg (by omega)]; rw [if_neg (by omega)]
  · right; left
    refine ⟨h, ?_, ?_⟩
    · unfold conOf; rw [h]; rfl
    · unfold conAT; rw [h]; rfl
  · right; right; left
    refine ⟨h, ?_, ?_⟩
    · unfold conOf; rw [h]; rfl
    · unfold conAT; rw [h]; rfl
  · right; right; right; left
    refine ⟨h, ?_, ?_⟩
    · unfold conOf; rw [h]; rfl
    · unfold conAT; rw [h]; rfl
  · right; right; right; right; left
    refine ⟨h, ?_, ?_⟩
    · unfold conOf; rw [h]; rfl
    · unfold conAT; rw [h]; rfl
  · right; right; right; right; right; left
    refine ⟨h, ?_, ?_⟩
    · unfold conOf; rw [h]; rfl
    · unfold conAT; rw [h]; rfl
  · right; right; right; right; right; right; left
    refine ⟨h, ?_, ?_⟩
    · unfold conOf; rw [h]; rfl
    · unfold conAT; rw [h]; rfl
  · right; right; right; right; right; right; right; left
    refine ⟨h, ?_, ?_⟩
    · unfold conOf; rw [h]; rfl
    · unfold conAT; rw [h]; rfl
  · right; right; right; right; right; right; right; right; left
    refine ⟨h, ?_, ?_⟩
    · unfold conOf; rw [h]; rfl
    · unfold conAT; rw [h]; rfl
  · right; right; right; right; right; right; right; right; right; left
    refine ⟨h, ?_, ?_⟩
    · unfold conOf; rw [h]; rfl
    · unfold conAT; rw [h]; rfl
  · right; right; right; right; right; right; right; right; right; right; left
    refine ⟨h, ?_, ?_⟩
    · unfold conOf; rw [h]; rfl
    · unfold conAT; rw [h]; rfl
  · right; right; right; right; right; right; right; right; right; right; right; skip
    refine ⟨h, ?_, ?_⟩
    · unfold conOf; rw [h]; rfl
    · unfold conAT; rw [h]; rfl
theorem con_hd (t : AT) (h : 1 ≤ t.k ∧ t.k ≤ 11) : (conAT t).hd t = zF t.k t.n t.x t.s t.l.length := by
  rcases con_kind t with ⟨h2, _⟩ | ⟨hk, _, hc⟩ | ⟨hk, _, hc⟩ | ⟨hk, _, hc⟩ | ⟨hk, _, hc⟩ | ⟨hk, _, hc⟩ | ⟨hk, _, hc⟩ | ⟨hk, _, hc⟩ | ⟨hk, _, hc⟩ | ⟨hk, _, hc⟩ | ⟨hk, _, hc⟩ | ⟨hk, _, hc⟩
  · omega
  all_goals
    rw [hc]
    obtain ⟨k, n, x, s, a, cap, l⟩ := t
    simp only [AT.k] at hk
    subst hk
    have e1 : ((0 : Int) == x) = (x == 0) := BEq.comm
    have e2 : ((0 : Int) == n) = (n == 0) := BEq.comm
    have e3 : ((0 : Nat) == l.length) = (l.length == 0) := BEq.comm
    simp [AT.hd, zF, AT.k, AT.n, AT.x, AT.s, AT.l, e1, e2, e3]
end Go.Proofs.YtilgncebhgplaaaDoor
/- When a tree is one of the compact format: what the model asks, and what the writer comes upon: plain. -/
namespace Go.Proofs.YtilgncebhgplaaaDoor
/-- names in order, each compared with the next one -/
def ordN : List PT → Bool
  | t :: _ :: u :: l => bltB (t.tight hdFor) (u.tight hdFor) && ordN (u :: l)
  | _ => true
mutual
def PT.fit13 : PT → Bool
  | .mk k _ _ _ l => PT.fit13L l && (!decide (k = 10) || ordN l) && !decide (k = 6)
def PT.fit13L : List PT → Bool
  | [] => true
  | t :: l => t.fit13 && PT.fit13L l
end
mutual
def PT.has6 : PT → Bool
  | .mk k _ _ _ l => decide (k = 6) || PT.has6L l
def PT.has6L : List PT → Bool
  | [] => false
  | t :: l => t.has6 || PT.has6L l
end
theorem fit_has6 (T : PT) : T.has6 = true → T.fit13 = false := by
  induction T using PT.ind with
  | h k n x s l ih =>
    intro h
    have hl : PT.has6L l = true → PT.fit13L l = false := by
      clear h
      induction l with
      | nil => intro h; simp [PT.has6L] at h
      | cons t l ihl =>
        intro h
        rw [PT.has6L] at h
        rw [PT.fit13L]
        cases h1 : t.has6
        · rw [h1] at h
          rw [ihl (fun u hu => ih u (List.mem_cons_of_mem _ hu)) (by simpa using h), Bool.and_false]
        · rw [ih t List.mem_cons_self h1, Bool.false_and]
    rw [PT.has6] at h
    rw [PT.fit13]
    by_cases h6 : k = 6
    · simp [h6]
    · rw [hl (by simpa [h6] using h)]
      simp
theorem blt_nil {b : List UInt8} (h : b ≠ []) : bltB [] b = true := by
  cases b with
  | nil => exact absurd rfl h
  | cons x b => rfl
theorem hdB_ne {h : Hd} (o : hdOk h) : hdB h ≠ [] := by rw [hdB_yes o]; simp
theorem hdFor_ne {k n : Int} (h1 : 0 ≤ k ∧ k ≤ 7) (h2 : 0 ≤ n ∧ n ≤ 1000000000000000) : hdB (hdFor k n) ≠ [] := hdB_ne (for_is h1 h2).1
/-- a right value that is no decimal number has a head -/
theorem hd1_ne {k n x : Int} {s : List UInt8} {len : Nat} (h : nodeF k n x s len = true) (h6 : k ≠ 6) (hs : s.length ≤ 1000000000000000) (hl : len ≤ 1000000000000000) : hd1 k n x s len ≠ [] := by
  have ho : okF k n x s len = true := by unfold nodeF at h; simp at h; exact h.1
  unfold okF at ho
  unfold hd1
  by_cases h1 : k = 1
  · rw [if_pos h1]; exact hdB_ne (by decide)
  rw [if_neg h1] at ho ⊢
  by_cases h2 : k = 2
  · rw [if_pos h2]
    split
    · exact hdB_ne (by decide)
    · exact hdB_ne (by decide)
  rw [if_neg h2] at ho ⊢
  by_cases h3 : k = 3
  · rw [if_pos h3] at ho ⊢
    have ho := of_decide_eq_true ho
    rw [if_pos ho]
    split
    · exact hdFor_ne (by omega) (by omega)
    · exact hdFor_ne (by omega) (by omega)
  rw [if_neg h3] at ho ⊢
  by_cases h4 : k = 4
  · rw [if_pos h4] at ho ⊢
    have := bits_back ho
    exact hdB_ne (hd_of (by omega) (by omega) (by omega))
  rw [if_neg h4] at ho ⊢
  by_cases h5 : k = 5
  · rw [if_pos h5] at ho ⊢
    have ho := of_decide_eq_true ho
    rw [if_pos ho]
    exact hdB_ne (hd_of (by omega) (by omega) (by omega))
  rw [if_neg h5] at ho ⊢
  rw [if_neg h6] at ho
  by_cases h7 : k = 7
  · rw [if_pos h7]
    have := hdFor_ne (k := 3) (n := s.length) (by omega) (by omega)
    simp [this]
  rw [if_neg h7] at ho ⊢
  by_cases h8 : k = 8
  · rw [if_pos h8]
    have := hdFor_ne (k := 2) (n := s.length) (by omega) (by omega)
    simp [this]
  rw [if_neg h8] at ho ⊢
  by_cases h9 : k = 9
  · rw [if_pos h9]; exact hdFor_ne (by omega) (by omega)
  rw [if_neg h9] at ho ⊢
  by_cases h10 : k = 10
  · rw [if_pos h10]; exact hdFor_ne (by omega) (by omega)
  rw [if_neg h10] at ho ⊢
  by_cases h11 : k = 11
  · rw [if_pos h11] at ho ⊢
    have ho : (0 ≤ n ∧ n ≤ 1000000000000000) ∧ len = 1 := by simpa using ho
    rw [if_pos ho.1]; exact hdFor_ne (by omega) (by omega)
  · rw [if_neg h11] at ho; cases ho
theorem tight_ne {T : PT} (h : T.ok = true) (h6 : T.has6 = false) (hs : T.sz ≤ 1048576) : T.tight hdFor ≠ [] := by
  obtain ⟨k, n, x, s, l⟩ := T
  rw [PT.ok] at h
  rw [PT.has6] at h6
  rw [PT.sz] at hs
  simp only [Bool.and_eq_true] at h
  simp only [Bool.or_eq_false_iff, decide_eq_false_iff_not] at h6
  rw [tight_split]
  have := hd1_ne h.1 h6.1 (by omega) (by omega)
  simp [this]
/-- the names behind the first one -/
def disN (l : List PT) : Bool := !ordN l
theorem disNames_ord : ∀ (m : Nat) (t : PT) (l : List PT), l.length ≤ m → disNames (t.tight hdFor) (l.drop 1) = !ordN (t :: l)
  | _, t, [], _ => by simp [disNames, ordN]
  | _, t, [_], _ => by simp [disNames, ordN]
  | 0, t, y :: u :: l, h => by simp at h
  | m + 1, t, y :: u :: l, h => by
    have ih := disNames_ord m u l (by simp at h; omega)
    show disNames (t.tight hdFor) (u :: l) = _
    rw [disNames_cons, ih, ordN]
    simp
/-- a right tree with no decimal number in it is one of the format just where the writer comes upon no disorder -/
theorem fit_dis (T : PT) : T.ok = true → T.has6 = false → T.sz ≤ 1048576 → T.fit13 = !T.dis := by
  induction T using PT.ind with
  | h k n x s l ih =>
    intro h h6 hs
    rw [PT.ok] at h
    rw [PT.has6] at h6
    rw [PT.sz] at hs
    simp only [Bool.and_eq_true] at h
    simp only [Bool.or_eq_false_iff, decide_eq_false_iff_not] at h6
    obtain ⟨hn, hok⟩ := h
    obtain ⟨hk6, h6l⟩ := h6
    have all : ∀ l : List PT, (∀ t ∈ l, t.ok = true → t.has6 = false → t.sz ≤ 1048576 → t.fit13 = !t.dis) → PT.okL l = true → PT.has6L l = false → PT.szL l ≤ 1048576 → PT.fit13L l = !PT.disL l ∧ ∀ t ∈ l, t.tight hdFor ≠ [] := by
      intro l
      induction l with
      | nil => intro _ _ _ _; exact ⟨rfl, fun t ht => by cases ht⟩
      | cons t l ihl =>
        intro hi ho h6 hz
        rw [PT.okL, Bool.and_eq_true] at ho
        rw [PT.has6L, Bool.or_eq_false_iff] at h6
        rw [PT.szL] at hz
        have h1 := hi t List.mem_cons_self ho.1 h6.1 (by omega)
        obtain ⟨h2, h3⟩ := ihl (fun u hu => hi u (List.mem_cons_of_mem _ hu)) ho.2 h6.2 (by omega)
        refine ⟨by rw [PT.fit13L, PT.disL, h1, h2]; simp, fun u hu => ?_⟩
        rcases List.mem_cons.1 hu with rfl | hu
        · exact tight_ne ho.1 h6.1 (by omega)
        · exact h3 u hu
    obtain ⟨hL, hne⟩ := all l ih hok h6l (by omega)
    rw [PT.fit13, PT.dis, hL]
    have hz : opn1 k n = false → l = [] := fun ho => by
      unfold nodeF at hn
      simp only [Bool.and_eq_true] at hn
      obtain ⟨h1, h2⟩ := hn
      have h9 : k ≠ 9 := fun e => by subst e; rw [opn1_9] at ho; cases ho
      have h10 : k ≠ 10 := fun e => by subst e; rw [opn1_10] at ho; cases ho
      have h11 : k ≠ 11 := fun e => by
        subst e
        rw [opn1_11] at ho
        have h3 : (0 ≤ n ∧ n ≤ 1000000000000000) ∧ l.length = 1 := by simpa [okF] using h1
        rw [decide_eq_true h3.1] at ho
        cases ho
      apply List.length_eq_zero_iff.1
      unfold zF at h2
      simp only [h9, h10, h11, if_false] at h2
      repeat' split at h2
      all_goals simp_all
    cases ho : opn1 k n
    · obtain rfl := hz ho
      simp [PT.disL, ordN, hk6]
    · have h6' : (!decide (k = 6)) = true := by simp [hk6]
      rw [h6']
      by_cases h10 : k = 10
      · subst h10
        have hd : disNames [] l = !ordN l := by
          cases l with
          | nil => rfl
          | cons t l =>
            rw [disNames_cons, blt_nil (hne t List.mem_cons_self), disNames_ord _ t l (Nat.le_refl _)]
            rfl
        rw [hd]
        cases PT.disL l <;> cases ordN l <;> rfl
      · simp [h10]
end Go.Proofs.YtilgncebhgplaaaDoor
