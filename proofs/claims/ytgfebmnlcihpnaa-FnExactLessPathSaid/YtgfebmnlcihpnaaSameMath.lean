/- When two trees are the same (plain), and two stacks. -/
import Derived.Test.YtgfebmnlcihpnaaCount
namespace Go.Proofs.Ytgfebmnlcihpnaa
mutual
def PT.same : PT → PT → Bool
  | .mk k n x s l, .mk k' n' x' s' l' => (k == k' && n == n' && x == x' && s == s' && l.length == l'.length) && PT.sameL l l'
def PT.sameL : List PT → List PT → Bool
  | t :: l, u :: m => t.same u && PT.sameL l m
  | _, _ => true
end
/-- the fields, and the number of elements -/
def AT.hd (t u : AT) : Bool := t.k == u.k && t.n == u.n && t.x == u.x && t.s == u.s && t.l.length == u.l.length
theorem ptsame_eq (t u : AT) : t.pt.same u.pt = (t.hd u && PT.sameL (AT.ptL t.l) (AT.ptL u.l)) := by
  cases t; cases u
  simp [AT.pt, PT.same, AT.hd, AT.k, AT.n, AT.x, AT.s, AT.l]
theorem ptsame_refl (t : PT) : t.same t = true := by
  induction t using PT.ind with
  | h k n x s l ih =>
    have : PT.sameL l l = true := by
      induction l with
      | nil => rfl
      | cons t l ihl => simp only [PT.sameL, ih t (by simp), ihl (fun u hu => ih u (by simp [hu])), Bool.and_self]
    simp [PT.same, this]
theorem ptsame_true {t u : PT} (h : t.same u = true) : t = u := by
  induction t using PT.ind generalizing u with
  | h k n x s l ih =>
    obtain ⟨k', n', x', s', m⟩ := u
    simp only [PT.same, Bool.and_eq_true, beq_iff_eq] at h
    obtain ⟨⟨⟨⟨⟨rfl, rfl⟩, rfl⟩, rfl⟩, hl⟩, hs⟩ := h
    have : l = m := by
      induction l generalizing m with
      | nil => cases m with
        | nil => rfl
        | cons u m => simp at hl
      | cons t l ihl =>
        cases m with
        | nil => simp at hl
        | cons u m =>
          simp only [PT.sameL, Bool.and_eq_true] at hs
          rw [ih t (by simp) hs.1, ihl (fun u hu => ih u (by simp [hu])) m hs.2 (by simpa using hl)]
    rw [this]
theorem ptsame_iff {t u : PT} : t.same u = true ↔ t = u := ⟨ptsame_true, fun h => h ▸ ptsame_refl _⟩
/-- two lists of trees of one length: the first i pairs, the pair i -/
theorem sameL_split (l m : List PT) (i : Nat) (h1 : i < l.length) (h2 : i < m.length) : PT.sameL (l.take (i + 1)) (m.take (i + 1)) = (PT.sameL (l.take i) (m.take i) && (l[i]).same m[i]) := by
  induction l generalizing m i with
  | nil => simp at h1
  | cons t l ih =>
    cases m with
    | nil => simp at h2
    | cons u m =>
      cases i with
      | zero => simp [PT.sameL]
      | succ i =>
        simp only [List.take_succ_cons, PT.sameL, List.getElem_cons_succ]
        rw [ih m i (by simpa using h1) (by simpa using h2), Bool.and_assoc]
theorem sameL_false (l m : List PT) (i : Nat) (h1 : i < l.length) (h2 : i < m.length) (h : (l[i]).same m[i] = false) : PT.sameL l m = false := by
  induction l generalizing m i with
  | nil => simp at h1
  | cons t l ih =>
    cases m with
    | nil => simp at h2
    | cons u m =>
      cases i with
      | zero => simp at h; simp [PT.sameL, h]
      | succ i => simp only [PT.sameL]; rw [ih m i (by simpa using h1) (by simpa using h2) (by simpa using h), Bool.and_false]
end Go.Proofs.Ytgfebmnlcihpnaa
