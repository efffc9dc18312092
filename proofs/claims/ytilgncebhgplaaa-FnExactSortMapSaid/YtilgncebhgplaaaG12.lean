import Derived.Test.YtilgncebhgplaaaG11
/- The comparison's stack: pairs of slices still to be compared, level by level. -/
namespace Go.Proofs.Ytilgncebhgplaaa
open Go.RowKit
abbrev Lev2 := Lev × Lev
def lvcells (S : List Lev2) : List Value := S.flatMap fun p => [p.1.val, p.2.val]
theorem lvcells_append (S R : List Lev2) : lvcells (S ++ R) = lvcells S ++ lvcells R := by simp [lvcells]
theorem lvcells_one (p : Lev2) : lvcells [p] = [p.1.val, p.2.val] := by simp [lvcells]
theorem lvcells_length (S : List Lev2) : (lvcells S).length = S.length * 2 := by
  induction S with
  | nil => rfl
  | cons p S ih => simp only [lvcells, List.flatMap_cons, List.length_append] at *; simp only [List.length_cons, List.length_nil]; omega
/-- what the stack still says, its top first -/
def stk (f : NumF) (S : List Lev2) : Int := S.foldl (fun acc p => orI (PT.cmpL f (AT.ptL p.1.l) (AT.ptL p.2.l)) acc) 0
theorem stk_snoc (f : NumF) (S : List Lev2) (p : Lev2) : stk f (S ++ [p]) = orI (PT.cmpL f (AT.ptL p.1.l) (AT.ptL p.2.l)) (stk f S) := by simp [stk]
theorem orI_assoc (a b c : Int) : orI (orI a b) c = orI a (orI b c) := by
  unfold orI
  by_cases h : a = 0
  · rw [if_pos h, if_pos h]
  · rw [if_neg h, if_neg h, if_neg h]
theorem orI_z (a : Int) : orI a 0 = a := by unfold orI; split <;> simp_all
theorem cmpL_none (f : NumF) (l m : List PT) (h : l = [] ∨ m = []) : PT.cmpL f l m = cmpI l.length m.length := by
  rcases h with rfl | rfl
  · cases m with
    | nil => rfl
    | cons u m => simp only [PT.cmpL, cmpI, List.length_nil, List.length_cons]; rw [if_pos (by omega)]
  · cases l with
    | nil => rfl
    | cons u m => simp only [PT.cmpL, cmpI, List.length_nil, List.length_cons]; rw [if_neg (by omega), if_pos (by omega)]
def hdA (f : NumF) (t u : AT) : Int := hdV f t.k t.n t.x t.s u.k u.n u.x u.s
theorem cmpA (f : NumF) (t u : AT) : t.pt.cmp f u.pt = orI (hdA f t u) (PT.cmpL f (AT.ptL t.l) (AT.ptL u.l)) := by cases t; cases u; rfl
/-- a step: the heads are taken off, what is in them goes on top -/
theorem stk_step (f : NumF) (S : List Lev2) (L M L' M' La Ma : Lev) (t u : AT) (tl ul : List AT) (h1 : L.l = t :: tl) (h2 : M.l = u :: ul) (h3 : L'.l = tl) (h4 : M'.l = ul) (h5 : La.l = t.l) (h6 : Ma.l = u.l) :
    stk f (S ++ [(L, M)]) = orI (hdA f t u) (stk f (S ++ [(L', M')] ++ [(La, Ma)])) := by
  rw [stk_snoc, stk_snoc, stk_snoc, h1, h2, h3, h4, h5, h6]
  simp only [AT.ptL, PT.cmpL]
  rw [cmpA, orI_assoc, orI_assoc]
def wt (S : List Lev2) : Nat := (S.map fun p => 2 * PT.cntL (AT.ptL p.1.l) + 1).sum
theorem wt_append (S R : List Lev2) : wt (S ++ R) = wt S + wt R := by simp [wt]
theorem wt_step (S : List Lev2) (L M L' M' La Ma : Lev) (t : AT) (tl : List AT) (h1 : L.l = t :: tl) (h3 : L'.l = tl) (h5 : La.l = t.l) : wt (S ++ [(L, M)]) = wt (S ++ [(L', M')] ++ [(La, Ma)]) + 1 := by
  rw [wt_append, wt_append, wt_append]
  have hc : t.pt.cnt = PT.cntL (AT.ptL t.l) + 1 := by cases t; simp [AT.pt, PT.cnt, AT.l]
  simp only [wt, List.map_cons, List.map_nil, List.sum_cons, List.sum_nil, h1, h3, h5, AT.ptL, PT.cntL, hc]
  omega
theorem wt_len (S : List Lev2) : S.length ≤ wt S := by
  induction S with
  | nil => simp
  | cons p S ih => simp only [wt, List.map_cons, List.sum_cons, List.length_cons] at *; omega
structure StkAt (w : World) (N B g cap : Nat) (S : List Lev2) : Prop where
  row : w.ownsRow B 53 2 (.slice (some ⟨g, 0, none⟩) S.length cap) S.length (lvcells S)
  lv : ∀ p ∈ S, Lv w N p.1.a p.1.cap p.1.l ∧ Lv w N p.2.a p.2.cap p.2.l
  nB : N ≤ B
theorem StkAt.lt {w : World} {N B g cap : Nat} {S : List Lev2} (h : StkAt w N B g cap S) : B ≤ g ∧ g < w.heap.size := h.row.lt g rfl
theorem StkAt.kept {w w' : World} {N B g cap : Nat} {S : List Lev2} (h : StkAt w N B g cap S) (hk : ∀ k, k = g ∨ k < N → w'.heap[k]? = w.heap[k]?) : StkAt w' N B g cap S where
  row := own_heap h.row (fun k hg => hk k (.inl (by simp [Value.ownBlock] at hg; exact hg.symm)))
  lv p hp := ⟨(h.lv p hp).1.kept fun k hkN => hk k (.inr hkN), (h.lv p hp).2.kept fun k hkN => hk k (.inr hkN)⟩
  nB := h.nB
theorem StkAt.blw {w w' : World} {N B g cap : Nat} {S : List Lev2} (h : StkAt w N B g cap S) (hb : Below w.heap.size w w') : StkAt w' N B g cap S := by
  have hl := h.lt
  have h2 := h.nB
  exact h.kept fun k hk => hb.block k (by rcases hk with rfl | hk <;> omega)
theorem own_take2 {w : World} {B E n cap g k : Nat} {xs : List Value} (h : w.ownsRow B E 2 (.slice (some ⟨g, 0, none⟩) n cap) n xs) (hk : k ≤ n) : w.ownsRow B E 2 (.slice (some ⟨g, 0, none⟩) k cap) k (xs.take (k * 2)) := by
  have hl := h.1
  refine ⟨by rw [List.length_take]; omega, ?_⟩
  rcases h.2 with ⟨h, _⟩ | ⟨g', cap', cur, h, hb, hg, hnc, hcm, hcs, htake⟩
  · cases h
  · injection h with h1 h2 h3
    injection h1 with h1
    injection h1 with h1
    subst h1
    subst h3
    refine .inr ⟨g, cap, cur, rfl, hb, hg, by omega, hcm, hcs, ?_⟩
    rw [← htake, List.take_take]
    congr 1
    omega
theorem StkAt.pop {w : World} {N B g cap : Nat} {S : List Lev2} {p : Lev2} (h : StkAt w N B g cap (S ++ [p])) : StkAt w N B g cap S where
  row := by
    have := own_take2 h.row (k := S.length) (by simp)
    rwa [lvcells_append, List.take_append_of_le_length (by rw [lvcells_length]; exact Nat.le_refl _), List.take_of_length_le (by rw [lvcells_length]; exact Nat.le_refl _)] at this
  lv q hq := h.lv q (by simp [hq])
  nB := h.nB
theorem StkAt.top {w : World} {N B g cap : Nat} {S : List Lev2} {L M : Lev} (h : StkAt w N B g cap (S ++ [(L, M)])) :
    w.cell? ⟨g, S.length * 2, none⟩ = some L.val ∧ w.cell? ⟨g, S.length * 2 + 1, none⟩ = some M.val ∧ (∀ o, w.frozen? ⟨g, o, none⟩ = false) ∧ Lv w N L.a L.cap L.l ∧ Lv w N M.a M.cap M.l := by
  have h0 := h.row.cellAt (S.length * 2) (by rw [List.length_append, List.length_singleton]; omega)
  have h1 := h.row.cellAt (S.length * 2 + 1) (by rw [List.length_append, List.length_singleton]; omega)
  rw [lvcells_append, List.getElem?_append_right (by rw [lvcells_length]; omega), lvcells_length] at h0 h1
  have hl := h.lv (L, M) (by simp)
  exact ⟨by rw [h0, Nat.sub_self]; simp [lvcells], by rw [h1, show S.length * 2 + 1 - S.length * 2 = 1 by omega]; simp [lvcells], h.row.frozenAt, hl.1, hl.2⟩
theorem StkAt.setTop {w : World} {N B g cap : Nat} {S : List Lev2} {L M : Lev} (h : StkAt w N B g cap (S ++ [(L, M)])) (L' M' : Lev) (hL : Lv w N L'.a L'.cap L'.l) (hM : Lv w N M'.a M'.cap M'.l) :
    StkAt ((w.setCell ⟨g, S.length * 2, none⟩ L'.val).setCell ⟨g, S.length * 2 + 1, none⟩ M'.val) N B g cap (S ++ [(L', M')]) where
  row := by
    have h1 := (h.row.stored (S.length * 2) L'.val).1
    have h2 := (h1.stored (S.length * 2 + 1) M'.val).1
    rw [lvcells_append, lvcells_one] at h2
    rw [lvcells_append, lvcells_one]
    have hl := lvcells_length S
    rw [List.set_append, if_neg (by omega), List.set_append, if_neg (by omega), hl, Nat.sub_self, show S.length * 2 + 1 - S.length * 2 = 1 by omega] at h2
    simpa using h2
  lv p hp := by
    have hk : ∀ k, k < N → ((w.setCell ⟨g, S.length * 2, none⟩ L'.val).setCell ⟨g, S.length * 2 + 1, none⟩ M'.val).heap[k]? = w.heap[k]? := fun k hk => by
      have := h.lt; have := h.nB
      exact (Below.heap_setCell _ _ _ _ (by show k ≠ g; omega)).trans (Below.heap_setCell _ _ _ _ (by show k ≠ g; omega))
    rcases List.mem_append.1 hp with hp | hp
    · exact ⟨(h.lv p (by simp [hp])).1.kept hk, (h.lv p (by simp [hp])).2.kept hk⟩
    · obtain rfl : p = (L', M') := by simpa using hp
      exact ⟨hL.kept hk, hM.kept hk⟩
  nB := h.nB
theorem levInfo : (Try.prog.info? 53).map (fun i => (i.zero, i.size, i.bytes)) = some (some (.agg #[.slice none 0 0, .slice none 0 0]), 2, 48) := by kernel_rfl
/-- a stack of one level in a new block -/
theorem stk_new (w : World) (N : Nat) (L M : Lev) (hL : Lv w N L.a L.cap L.l) (hM : Lv w N M.a M.cap M.l) (hN : N ≤ w.heap.size) : StkAt (w.alloc (.cells #[L.val, M.val] 53)) N w.heap.size w.heap.size 1 [(L, M)] where
  row := ⟨rfl, .inr ⟨w.heap.size, 1, #[L.val, M.val], rfl, Nat.le_refl _, heap_alloc_new w _, Nat.le_refl _, by unfold maxLen; omega, rfl, rfl⟩⟩
  lv p hp := by
    obtain rfl : p = (L, M) := by simpa using hp
    exact ⟨hL.below (vbox w _) hN, hM.below (vbox w _) hN⟩
  nB := hN
/-- behind the append of a level -/
theorem StkAt.push {w w1 : World} {N B g cap gg cap2 : Nat} {S : List Lev2} {L M : Lev} {ob : Obj} (h : StkAt w N B g cap S) (hL : Lv w N L.a L.cap L.l) (hM : Lv w N M.a M.cap M.l) {n c : Nat}
    (hown : w1.ownsRow B 53 2 (.slice (some ⟨gg, 0, none⟩) (S.length + 1) cap2) (S.length + 1) (lvcells S ++ [L.val, M.val])) (hgrow : (w.alloc ob).grownBy w1 (Value.slice (some ⟨g, 0, none⟩) n c).ownBlock) :
    StkAt w1 N B gg cap2 (S ++ [(L, M)]) ∧ Below B w w1 := by
  have hl := h.lt
  have hn := h.nB
  have hO : Only g w w1 := (Only.of_below (vbox w ob)).trans (.of_grown hgrow)
  have hk : ∀ k, k < N → w1.heap[k]? = w.heap[k]? := fun k hk => hO.block k (by omega) (by omega)
  refine ⟨⟨by rw [List.length_append, List.length_singleton, lvcells_append, lvcells_one]; exact hown, fun p hp => ?_, hn⟩, hO.below B hl.1 (by omega)⟩
  rcases List.mem_append.1 hp with hp | hp
  · exact ⟨(h.lv p hp).1.kept hk, (h.lv p hp).2.kept hk⟩
  · obtain rfl : p = (L, M) := by simpa using hp
    exact ⟨hL.kept hk, hM.kept hk⟩
theorem StkAt.cap {w : World} {N B g cap : Nat} {S : List Lev2} (h : StkAt w N B g cap S) : S.length ≤ cap ∧ cap ≤ maxLen := (own_cap h.row).2
end Go.Proofs.Ytilgncebhgplaaa
/- A stack is determined by the memory that holds it: so what is left of a walk is a measure. -/
namespace Go.Proofs.Ytilgncebhgplaaa
open Go.RowKit
theorem bytes_inj {s t : List UInt8} (h : (ByteArray.mk s.toArray) = ByteArray.mk t.toArray) : s = t := by
  injection h with h
  simpa using congrArg Array.toList h
theorem AT.In.uniq {w : World} {N M : Nat} {T U : AT} (h : T.In w N) (h2 : U.In w M) (hv : T.val = U.val) : T = U := by
  induction T using AT.ind generalizing U with
  | h k n x s a cap l ih =>
    obtain ⟨k2, n2, x2, s2, a2, cap2, m⟩ := U
    simp only [AT.val, Value.agg.injEq] at hv
    have e : [Value.int .i64 k, .int .i64 n, .int .i64 x, .string ⟨s.toArray⟩, .slice a l.length cap] = [Value.int .i64 k2, .int .i64 n2, .int .i64 x2, .string ⟨s2.toArray⟩, .slice a2 m.length cap2] := congrArg Array.toList hv
    simp only [List.cons.injEq, Value.int.injEq, Value.string.injEq, Value.slice.injEq, true_and, and_true] at e
    obtain ⟨rfl, rfl, rfl, es, rfl, hlen, rfl⟩ := e
    obtain rfl := bytes_inj es
    have hl : l = m := by
      refine List.ext_getElem hlen fun j h1 h2' => ?_
      obtain ⟨b, o, ha, _, hC⟩ := h.lv.cell j h1
      obtain ⟨b', o', ha', _, hD⟩ := h2.lv.cell j h2'
      rw [ha] at ha'
      injection ha' with ha'
      injection ha' with e1 e2
      subst e1 e2
      refine ih _ (List.getElem_mem h1) (h.lv.sub _ (List.getElem_mem h1)) (h2.lv.sub _ (List.getElem_mem h2')) ?_
      have q0 := hC.c0.symm.trans hD.c0
      have q1 := hC.c1.symm.trans hD.c1
      have q2 := hC.c2.symm.trans hD.c2
      have q3 := hC.c3.symm.trans hD.c3
      have q4 := hC.c4.symm.trans hD.c4
      injection q0 with q0
      injection q1 with q1
      injection q2 with q2
      injection q3 with q3
      injection q4 with q4
      simp only [AT.val, q0, q1, q2, q3, q4]
    rw [hl]
theorem WalkAt.uniq {w : World} {N B P g cap N' B' g' cap' : Nat} {S S' : List Lev} {d d' : Int} (h : WalkAt w N B P g cap S d) (h' : WalkAt w N' B' P g' cap' S' d') : S = S' := by
  have e := h.rest.symm.trans h'.rest
  simp only [Option.some.injEq, Value.slice.injEq, Addr.mk.injEq, and_true] at e
  obtain ⟨rfl, hlen, rfl⟩ := e
  refine List.ext_getElem hlen fun j h1 h2 => ?_
  have c1 := h.row.cellAt j (by omega)
  have c2 := h'.row.cellAt j (by omega)
  have e := c1.symm.trans c2
  rw [List.getElem?_map, List.getElem?_map, List.getElem?_eq_getElem h1, List.getElem?_eq_getElem h2] at e
  simp only [Option.map_some, Option.some.injEq] at e
  have l1 := h.lv _ (List.getElem_mem h1)
  have l2 := h'.lv _ (List.getElem_mem h2)
  revert e l1 l2
  generalize S[j] = L
  generalize S'[j] = L'
  intro e l1 l2
  obtain ⟨a, c, l⟩ := L
  obtain ⟨a', c', l'⟩ := L'
  simp only [Lev.val, Value.slice.injEq] at e
  obtain ⟨rfl, hl, rfl⟩ := e
  have := AT.In.uniq (T := .mk 0 0 0 [] a c l) (U := .mk 0 0 0 [] a c l') l1.in l2.in (by simp only [AT.val, AT.k, AT.n, AT.x, AT.s, AT.a, AT.cap, AT.l, hl])
  injection this with _ _ _ _ _ _ this
  rw [this]
/-- how many values are left on a stack -/
def remN (S : List Lev) : Nat := (S.map fun L => PT.cntL (AT.ptL L.l)).sum
theorem remN_append (S T : List Lev) : remN (S ++ T) = remN S + remN T := by simp [remN]
theorem remN_empty (S : List Lev) (h : ∀ L ∈ S, L.l = []) : remN S = 0 := by
  induction S with
  | nil => rfl
  | cons L S ih =>
    have h1 := h L (by simp)
    have h2 := ih (fun L hL => h L (by simp [hL]))
    simp only [remN, List.map_cons, List.sum_cons, h1, AT.ptL, PT.cntL] at *
    omega
theorem cnt_eq (t : AT) : t.pt.cnt = PT.cntL (AT.ptL t.l) + 1 := by cases t; simp [AT.pt, PT.cnt, AT.l]
theorem remN_step (S1 E : List Lev) (L : Lev) (t : AT) (tl : List AT) (a c) (hE : ∀ L ∈ E, L.l = []) (hl : L.l = t :: tl) : remN (S1 ++ L :: E) = remN (S1 ++ [⟨a, c, tl⟩, ⟨t.a, t.cap, t.l⟩]) + 1 := by
  have h1 : remN (L :: E) = PT.cntL (AT.ptL L.l) + remN E := by simp [remN]
  rw [remN_append, remN_append, h1, remN_empty E hE, hl]
  simp only [remN, List.map_cons, List.map_nil, List.sum_cons, List.sum_nil, AT.ptL, PT.cntL, cnt_eq]
  omega
/-- the measure: what is left of the walk at P -/
theorem left_eq {w : World} {N B P g cap : Nat} {S : List Lev} {d : Int} (h : WalkAt w N B P g cap S d) (F : List Lev → Nat) : (Classical.epsilon fun n : Nat => ∃ N B g cap S d, WalkAt w N B P g cap S d ∧ n = F S) = F S := by
  have := Classical.epsilon_spec (p := fun n : Nat => ∃ N B g cap S d, WalkAt w N B P g cap S d ∧ n = F S) ⟨F S, N, B, g, cap, S, d, h, rfl⟩
  obtain ⟨_, _, _, _, S', _, h', e⟩ := this
  rw [e, h.uniq h']
/-- the measure of a loop over the walk at P whose condition lies in the slot m -/
theorem leftM_ex (P : Nat) : ∃ M : Value → World → Nat, (∀ (w : World) (N B g cap : Nat) (S : List Lev) (d : Int), WalkAt w N B P g cap S d → M (.bool true) w = remN S + 1) ∧ ∀ w, M (.bool false) w = 0 :=
  ⟨fun m w => match m with | .bool true => (Classical.epsilon fun n : Nat => ∃ N B g cap S d, WalkAt w N B P g cap S d ∧ n = remN S) + 1 | _ => 0,
    fun w N B g cap S d h => by show _ + 1 = _; rw [left_eq h remN], fun _ => rfl⟩
end Go.Proofs.Ytilgncebhgplaaa
