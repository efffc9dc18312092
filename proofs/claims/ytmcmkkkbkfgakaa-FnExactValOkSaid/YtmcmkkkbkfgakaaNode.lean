/- When a value is right (plain), and the contents of values. -/
import Derived.Test.YtmcmkkkbkfgakaaContentOk
import Derived.Test.YtmcmkkkbkfgakaaSameImpl
namespace Go.Proofs.Ytmcmkkkbkfgakaa
open Go.RowKit
/-- within the bounds of the kind -/
def okF (k n x : Int) (s : List UInt8) (len : Nat) : Bool :=
  if k = 1 then true else if k = 2 then decide (0 ≤ n ∧ n ≤ 1) else if k = 3 then decide (-1000000000000000 ≤ n ∧ n ≤ 1000000000000000) else if k = 4 then fltOk n x else if k = 5 then decide (0 ≤ n ∧ n ≤ 2) else if k = 6 then decide (x < 0) && decOk n x else if k = 7 then (runes s).isSome else if k = 8 then true else if k = 9 then true else if k = 10 then decide (len % 2 = 0) else if k = 11 then decide (0 ≤ n ∧ n ≤ 1000000000000000) && decide (len = 1) else false
/-- what the kind does not use is zero -/
def zF (k n x : Int) (s : List UInt8) (len : Nat) : Bool :=
  if k = 1 then n == 0 && x == 0 && s == [] && len == 0 else if k = 2 then x == 0 && s == [] && len == 0 else if k = 3 then x == 0 && s == [] && len == 0 else if k = 4 then s == [] && len == 0 else if k = 5 then x == 0 && s == [] && len == 0 else if k = 6 then s == [] && len == 0 else if k = 7 then n == 0 && x == 0 && len == 0 else if k = 8 then n == 0 && x == 0 && len == 0 else if k = 9 then n == 0 && x == 0 && s == [] else if k = 10 then n == 0 && x == 0 && s == [] else if k = 11 then x == 0 && s == [] else false
def nodeF (k n x : Int) (s : List UInt8) (len : Nat) : Bool := okF k n x s len && zF k n x s len
mutual
def PT.ok : PT → Bool
  | .mk k n x s l => nodeF k n x s l.length && PT.okL l
def PT.okL : List PT → Bool
  | [] => true
  | t :: l => t.ok && PT.okL l
end
def AT.node (t : AT) : Bool := nodeF t.k t.n t.x t.s t.l.length
theorem ok_eq (t : AT) : t.pt.ok = (t.node && PT.okL (AT.ptL t.l)) := by cases t; simp [AT.pt, PT.ok, AT.node, AT.k, AT.n, AT.x, AT.s, AT.l]
def conOf (t : AT) : Value :=
  if t.k = 1 then .iface 107 (.agg #[]) else if t.k = 2 then .iface 108 (.int .i64 t.n) else if t.k = 3 then .iface 90 (.int .i64 t.n) else if t.k = 4 then .iface 109 (.agg #[.int .i64 t.n, .int .i64 t.x]) else if t.k = 5 then .iface 110 (.int .i64 t.n) else if t.k = 6 then .iface 94 (.agg #[.int .i64 t.n, .int .i64 t.x]) else if t.k = 7 then .iface 91 (.string ⟨t.s.toArray⟩) else if t.k = 8 then .iface 111 (.string ⟨t.s.toArray⟩) else if t.k = 9 then .iface 92 (.slice t.a t.l.length t.cap) else if t.k = 10 then .iface 112 (.slice t.a t.l.length t.cap) else if t.k = 11 then .iface 114 (.agg #[.int .i64 t.n, .slice t.a t.l.length t.cap]) else .nilIface
def conAT (t : AT) : AT :=
  if t.k = 1 then .mk 1 0 0 [] none 0 [] else if t.k = 2 then .mk 2 t.n 0 [] none 0 [] else if t.k = 3 then .mk 3 t.n 0 [] none 0 [] else if t.k = 4 then .mk 4 t.n t.x [] none 0 [] else if t.k = 5 then .mk 5 t.n 0 [] none 0 [] else if t.k = 6 then .mk 6 t.n t.x [] none 0 [] else if t.k = 7 then .mk 7 0 0 t.s none 0 [] else if t.k = 8 then .mk 8 0 0 t.s none 0 [] else if t.k = 9 then .mk 9 0 0 [] t.a t.cap t.l else if t.k = 10 then .mk 10 0 0 [] t.a t.cap t.l else if t.k = 11 then .mk 11 t.n 0 [] t.a t.cap t.l else t
theorem con_cases (t : AT) : (t.k < 1 ∨ 11 < t.k) ∨ t.k = 1 ∨ t.k = 2 ∨ t.k = 3 ∨ t.k = 4 ∨ t.k = 5 ∨ t.k = 6 ∨ t.k = 7 ∨ t.k = 8 ∨ t.k = 9 ∨ t.k = 10 ∨ t.k = 11 := by omega
theorem con_kind (t : AT) : ((t.k < 1 ∨ 11 < t.k) ∧ conOf t = .nilIface ∧ okF t.k t.n t.x t.s t.l.length = false) ∨ (t.k = 1 ∧ conOf t = .iface 107 (.agg #[]) ∧ conAT t = .mk 1 0 0 [] none 0 []) ∨ (t.k = 2 ∧ conOf t = .iface 108 (.int .i64 t.n) ∧ conAT t = .mk 2 t.n 0 [] none 0 []) ∨ (t.k = 3 ∧ conOf t = .iface 90 (.int .i64 t.n) ∧ conAT t = .mk 3 t.n 0 [] none 0 []) ∨ (t.k = 4 ∧ conOf t = .iface 109 (.agg #[.int .i64 t.n, .int .i64 t.x]) ∧ conAT t = .mk 4 t.n t.x [] none 0 []) ∨ (t.k = 5 ∧ conOf t = .iface 110 (.int .i64 t.n) ∧ conAT t = .mk 5 t.n 0 [] none 0 []) ∨ (t.k = 6 ∧ conOf t = .iface 94 (.agg #[.int .i64 t.n, .int .i64 t.x]) ∧ conAT t = .mk 6 t.n t.x [] none 0 []) ∨ (t.k = 7 ∧ conOf t = .iface 91 (.string ⟨t.s.toArray⟩) ∧ conAT t = .mk 7 0 0 t.s none 0 []) ∨ (t.k = 8 ∧ conOf t = .iface 111 (.string ⟨t.s.toArray⟩) ∧ conAT t = .mk 8 0 0 t.s none 0 []) ∨ (t.k = 9 ∧ conOf t = .iface 92 (.slice t.a t.l.length t.cap) ∧ conAT t = .mk 9 0 0 [] t.a t.cap t.l) ∨ (t.k = 10 ∧ conOf t = .iface 112 (.slice t.a t.l.length t.cap) ∧ conAT t = .mk 10 0 0 [] t.a t.cap t.l) ∨ (t.k = 11 ∧ conOf t = .iface 114 (.agg #[.int .i64 t.n, .slice t.a t.l.length t.cap]) ∧ conAT t = .mk 11 t.n 0 [] t.a t.cap t.l) := by
  rcases con_cases t with h | h | h | h | h | h | h | h | h | h | h | h
  · left
    refine ⟨h, ?_, ?_⟩
    · unfold conOf
      rw [if_neg (by omega)]; rw [if_neg (by omega)]; rw [if_neg (by omega)]; rw [if_neg (by omega)]; rw [if_neg (by omega)]; rw [if_neg (by omega)]; rw [if_neg (by omega)]; rw [if_neg (by omega)]; rw [if_neg (by omega)]; rw [if_neg (by omega)]; rw [if_neg (by omega)]
    · unfold okF
      rw [if_neg (by omega)]; rw [if_neg (by omega)]; rw [if_neg (by omega)]; rw [if_neg (by omega)]; rw [if_neg (by omega)]; rw [if_neg (by omega)]; rw [if_neg (by omega)]; rw [if_neg (by omega)]; rw [if_neg (by omega)]; rw [if_neg (by omega)]; rw [if_neg (by omega)]
  · right; left
    refine ⟨h, ?_, ?_⟩
    · unfold conOf; rw [h]; rfl
    · unfold conAT; rw [h]; rfl
  · right; right; left
    refine ⟨h, ?_, ?_⟩
    · unfold conOf; rw [h]; rfl
    · unfold conAT; rw [h]; rfl
  · right; right; right; left
    refine ⟨h, ?_, ?_⟩
    · unfold conOf; rw [h]; rfl
    · unfold conAT; rw [h]; rfl
  · right; right; right; right; left
    refine ⟨h, ?_, ?_⟩
    · unfold conOf; rw [h]; rfl
    · unfold conAT; rw [h]; rfl
  · right; right; right; right; right; left
    refine ⟨h, ?_, ?_⟩
    · unfold conOf; rw [h]; rfl
    · unfold conAT; rw [h]; rfl
  · right; right; right; right; right; right; left
    refine ⟨h, ?_, ?_⟩
    · unfold conOf; rw [h]; rfl
    · unfold conAT; rw [h]; rfl
  · right; right; right; right; right; right; right; left
    refine ⟨h, ?_, ?_⟩
    · unfold conOf; rw [h]; rfl
    · unfold conAT; rw [h]; rfl
  · right; right; right; right; right; right; right; right; left
    refine ⟨h, ?_, ?_⟩
    · unfold conOf; rw [h]; rfl
    · unfold conAT; rw [h]; rfl
  · right; right; right; right; right; right; right; right; right; left
    refine ⟨h, ?_, ?_⟩
    · unfold conOf; rw [h]; rfl
    · unfold conAT; rw [h]; rfl
  · right; right; right; right; right; right; right; right; right; right; left
    refine ⟨h, ?_, ?_⟩
    · unfold conOf; rw [h]; rfl
    · unfold conAT; rw [h]; rfl
  · right; right; right; right; right; right; right; right; right; right; right; skip
    refine ⟨h, ?_, ?_⟩
    · unfold conOf; rw [h]; rfl
    · unfold conAT; rw [h]; rfl
theorem con_hd (t : AT) (h : 1 ≤ t.k ∧ t.k ≤ 11) : (conAT t).hd t = zF t.k t.n t.x t.s t.l.length := by
  rcases con_kind t with ⟨h2, _⟩ | ⟨hk, _, hc⟩ | ⟨hk, _, hc⟩ | ⟨hk, _, hc⟩ | ⟨hk, _, hc⟩ | ⟨hk, _, hc⟩ | ⟨hk, _, hc⟩ | ⟨hk, _, hc⟩ | ⟨hk, _, hc⟩ | ⟨hk, _, hc⟩ | ⟨hk, _, hc⟩ | ⟨hk, _, hc⟩
  · omega
  all_goals
    rw [hc]
    obtain ⟨k, n, x, s, a, cap, l⟩ := t
    simp only [AT.k] at hk
    subst hk
    have e1 : ((0 : Int) == x) = (x == 0) := BEq.comm
    have e2 : ((0 : Int) == n) = (n == 0) := BEq.comm
    have e3 : ((0 : Nat) == l.length) = (l.length == 0) := BEq.comm
    simp [AT.hd, zF, AT.k, AT.n, AT.x, AT.s, AT.l, e1, e2, e3]
end Go.Proofs.Ytmcmkkkbkfgakaa
