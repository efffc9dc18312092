/- A stack is determined by the memory that holds it: so what is left of a walk is a measure. -/
import Derived.Test.YtgfebmnlcihpnaaWalk
namespace Go.Proofs.Ytgfebmnlcihpnaa
open Go.RowKit
theorem bytes_inj {s t : List UInt8} (h : (ByteArray.mk s.toArray) = ByteArray.mk t.toArray) : s = t := by
  injection h with h
  simpa using congrArg Array.toList h
theorem AT.In.uniq {w : World} {N M : Nat} {T U : AT} (h : T.In w N) (h2 : U.In w M) (hv : T.val = U.val) : T = U := by
  induction T using AT.ind generalizing U with
  | h k n x s a cap l ih =>
    obtain ⟨k2, n2, x2, s2, a2, cap2, m⟩ := U
    simp only [AT.val, Value.agg.injEq] at hv
    have e : [Value.int .i64 k, .int .i64 n, .int .i64 x, .string ⟨s.toArray⟩, .slice a l.length cap] = [Value.int .i64 k2, .int .i64 n2, .int .i64 x2, .string ⟨s2.toArray⟩, .slice a2 m.length cap2] := congrArg Array.toList hv
    simp only [List.cons.injEq, Value.int.injEq, Value.string.injEq, Value.slice.injEq, true_and, and_true] at e
    obtain ⟨rfl, rfl, rfl, es, rfl, hlen, rfl⟩ := e
    obtain rfl := bytes_inj es
    have hl : l = m := by
      refine List.ext_getElem hlen fun j h1 h2' => ?_
      obtain ⟨b, o, ha, _, hC⟩ := h.lv.cell j h1
      obtain ⟨b', o', ha', _, hD⟩ := h2.lv.cell j h2'
      rw [ha] at ha'
      injection ha' with ha'
      injection ha' with e1 e2
      subst e1 e2
      refine ih _ (List.getElem_mem h1) (h.lv.sub _ (List.getElem_mem h1)) (h2.lv.sub _ (List.getElem_mem h2')) ?_
      have q0 := hC.c0.symm.trans hD.c0
      have q1 := hC.c1.symm.trans hD.c1
      have q2 := hC.c2.symm.trans hD.c2
      have q3 := hC.c3.symm.trans hD.c3
      have q4 := hC.c4.symm.trans hD.c4
      injection q0 with q0
      injection q1 with q1
      injection q2 with q2
      injection q3 with q3
      injection q4 with q4
      simp only [AT.val, q0, q1, q2, q3, q4]
    rw [hl]
theorem WalkAt.uniq {w : World} {N B P g cap N' B' g' cap' : Nat} {S S' : List Lev} {d d' : Int} (h : WalkAt w N B P g cap S d) (h' : WalkAt w N' B' P g' cap' S' d') : S = S' := by
  have e := h.rest.symm.trans h'.rest
  simp only [Option.some.injEq, Value.slice.injEq, Addr.mk.injEq, and_true] at e
  obtain ⟨rfl, hlen, rfl⟩ := e
  refine List.ext_getElem hlen fun j h1 h2 => ?_
  have c1 := h.row.cellAt j (by omega)
  have c2 := h'.row.cellAt j (by omega)
  have e := c1.symm.trans c2
  rw [List.getElem?_map, List.getElem?_map, List.getElem?_eq_getElem h1, List.getElem?_eq_getElem h2] at e
  simp only [Option.map_some, Option.some.injEq] at e
  have l1 := h.lv _ (List.getElem_mem h1)
  have l2 := h'.lv _ (List.getElem_mem h2)
  revert e l1 l2
  generalize S[j] = L
  generalize S'[j] = L'
  intro e l1 l2
  obtain ⟨a, c, l⟩ := L
  obtain ⟨a', c', l'⟩ := L'
  simp only [Lev.val, Value.slice.injEq] at e
  obtain ⟨rfl, hl, rfl⟩ := e
  have := AT.In.uniq (T := .mk 0 0 0 [] a c l) (U := .mk 0 0 0 [] a c l') l1.in l2.in (by simp only [AT.val, AT.k, AT.n, AT.x, AT.s, AT.a, AT.cap, AT.l, hl])
  injection this with _ _ _ _ _ _ this
  rw [this]
/-- how many values are left on a stack -/
def remN (S : List Lev) : Nat := (S.map fun L => PT.cntL (AT.ptL L.l)).sum
theorem remN_append (S T : List Lev) : remN (S ++ T) = remN S + remN T := by simp [remN]
theorem remN_empty (S : List Lev) (h : ∀ L ∈ S, L.l = []) : remN S = 0 := by
  induction S with
  | nil => rfl
  | cons L S ih =>
    have h1 := h L (by simp)
    have h2 := ih (fun L hL => h L (by simp [hL]))
    simp only [remN, List.map_cons, List.sum_cons, h1, AT.ptL, PT.cntL] at *
    omega
theorem cnt_eq (t : AT) : t.pt.cnt = PT.cntL (AT.ptL t.l) + 1 := by cases t; simp [AT.pt, PT.cnt, AT.l]
theorem remN_step (S1 E : List Lev) (L : Lev) (t : AT) (tl : List AT) (a c) (hE : ∀ L ∈ E, L.l = []) (hl : L.l = t :: tl) : remN (S1 ++ L :: E) = remN (S1 ++ [⟨a, c, tl⟩, ⟨t.a, t.cap, t.l⟩]) + 1 := by
  have h1 : remN (L :: E) = PT.cntL (AT.ptL L.l) + remN E := by simp [remN]
  rw [remN_append, remN_append, h1, remN_empty E hE, hl]
  simp only [remN, List.map_cons, List.map_nil, List.sum_cons, List.sum_nil, AT.ptL, PT.cntL, cnt_eq]
  omega
/-- the measure: what is left of the walk at P -/
theorem left_eq {w : World} {N B P g cap : Nat} {S : List Lev} {d : Int} (h : WalkAt w N B P g cap S d) (F : List Lev → Nat) : (Classical.epsilon fun n : Nat => ∃ N B g cap S d, WalkAt w N B P g cap S d ∧ n = F S) = F S := by
  have := Classical.epsilon_spec (p := fun n : Nat => ∃ N B g cap S d, WalkAt w N B P g cap S d ∧ n = F S) ⟨F S, N, B, g, cap, S, d, h, rfl⟩
  obtain ⟨_, _, _, _, S', _, h', e⟩ := this
  rw [e, h.uniq h']
/-- the measure of a loop over the walk at P whose condition lies in the slot m -/
theorem leftM_ex (P : Nat) : ∃ M : Value → World → Nat, (∀ (w : World) (N B g cap : Nat) (S : List Lev) (d : Int), WalkAt w N B P g cap S d → M (.bool true) w = remN S + 1) ∧ ∀ w, M (.bool false) w = 0 :=
  ⟨fun m w => match m with | .bool true => (Classical.epsilon fun n : Nat => ∃ N B g cap S d, WalkAt w N B P g cap S d ∧ n = remN S) + 1 | _ => 0,
    fun w N B g cap S d h => by show _ + 1 = _; rw [left_eq h remN], fun _ => rfl⟩
end Go.Proofs.Ytgfebmnlcihpnaa
