/- SameVal of the program. -/
import Derived.Test.YtmcmkkkbkfgakaaSameSpec
import Derived.Test.YtmcmkkkbkfgakaaCountImpl
import Derived.Deep.RegionHeld3
namespace Go.Proofs.Ytmcmkkkbkfgakaa
open Go.RowKit
set_option maxHeartbeats 4000000 in
theorem fields_impl (T U : AT) (w : World) : Calls Try.prog 65 #[T.val, U.val] w fun e w' => e = .returned (.bool (T.hd U)) ∧ Below w.heap.size w w' := by
  obtain ⟨k, n, x, s, a, cap, l⟩ := T
  obtain ⟨k2, n2, x2, s2, b, cap2, m⟩ := U
  have hsame : ∀ B, (AT.mk k n x s a cap l).hd (AT.mk k2 n2 x2 s2 b cap2 m) = B ↔ (k == k2 && n == n2 && x == x2 && s == s2 && l.length == m.length) = B := fun B => Iff.rfl
  have HS := Lib.hid hsame
  clear hsame
  show Calls Try.prog 65 #[.agg #[.int .i64 k, .int .i64 n, .int .i64 x, .string ⟨s.toArray⟩, .slice a l.length cap], .agg #[.int .i64 k2, .int .i64 n2, .int .i64 x2, .string ⟨s2.toArray⟩, .slice b m.length cap2]] w _
  by_cases hf : k = k2 ∧ n = n2 ∧ x = x2 ∧ s = s2 ∧ l.length = m.length
  · obtain ⟨rfl, rfl, rfl, rfl, hlen⟩ := hf
    have HR : Hid ((AT.mk k n x s a cap l).hd (AT.mk k n x s b cap2 m) = true) := Lib.hid ((HS.out true).2 (by simp [hlen]))
    rw [← hlen]
    clear hlen HS
    go_enter Try.func65, Try.ntmps65
    go_wp2
    go_ret
    exact ⟨by rw [HR.out]; rfl, two' _ _ _⟩
  · have hfalse : (k == k2 && n == n2 && x == x2 && s == s2 && l.length == m.length) = false := by
      rw [Bool.eq_false_iff]
      intro h
      simp only [Bool.and_eq_true, beq_iff_eq] at h
      exact hf ⟨h.1.1.1.1, h.1.1.1.2, h.1.1.2, h.1.2, h.2⟩
    have HR : Hid ((AT.mk k n x s a cap l).hd (AT.mk k2 n2 x2 s2 b cap2 m) = false) := Lib.hid ((HS.out false).2 hfalse)
    clear hfalse HS
    rcases hd_cases hf with h0 | ⟨rfl, h1⟩ | ⟨rfl, rfl, h2⟩ | ⟨rfl, rfl, rfl, h3, h4⟩ | ⟨rfl, rfl, rfl, rfl, h5, h6⟩
    all_goals clear hf
    all_goals
      go_enter Try.func65, Try.ntmps65
      go_wp2
      go_ret
      exact ⟨by rw [HR.out]; rfl, two' _ _ _⟩
/-- two stacks, level by level -/
def sameS : List Lev → List Lev → Bool
  | L :: S, M :: R => PT.sameL (AT.ptL L.l) (AT.ptL M.l) && sameS S R
  | _, _ => true
theorem sameS_append (S R S' R' : List Lev) (h : S.length = R.length) : sameS (S ++ S') (R ++ R') = (sameS S R && sameS S' R') := by
  induction S generalizing R with
  | nil => cases R with
    | nil => simp [sameS]
    | cons M R => simp at h
  | cons L S ih =>
    cases R with
    | nil => simp at h
    | cons M R => simp only [List.cons_append, sameS]; rw [ih R (by simpa using h), Bool.and_assoc]
theorem sameS_empty (S R : List Lev) (h : ∀ L ∈ S, L.l = []) : sameS S R = true := by
  induction S generalizing R with
  | nil => rfl
  | cons L S ih =>
    cases R with
    | nil => rfl
    | cons M R =>
      simp only [sameS, h L (by simp), AT.ptL, ih R (fun L hL => h L (by simp [hL]))]
      cases h2 : AT.ptL M.l <;> simp [PT.sameL]
def lens (S : List Lev) : List Nat := S.map fun L => L.l.length
theorem zeros_split (A A' Z Z' : List Nat) (a a' : Nat) (hZ : ∀ z ∈ Z, z = 0) (hZ' : ∀ z ∈ Z', z = 0) (h : A ++ (a + 1) :: Z = A' ++ (a' + 1) :: Z') : A = A' ∧ a = a' ∧ Z = Z' := by
  induction A generalizing A' with
  | nil =>
    cases A' with
    | nil => simp at h; exact ⟨rfl, h.1, h.2⟩
    | cons x A' =>
      simp only [List.nil_append, List.cons_append, List.cons.injEq] at h
      have := hZ (a' + 1) (by rw [h.2]; simp)
      omega
  | cons x A ih =>
    cases A' with
    | nil =>
      simp only [List.nil_append, List.cons_append, List.cons.injEq] at h
      have := hZ' (a + 1) (by rw [← h.2]; simp)
      omega
    | cons y A' =>
      simp only [List.cons_append, List.cons.injEq] at h
      obtain ⟨rfl, h⟩ := h
      obtain ⟨rfl, h2⟩ := ih A' h
      exact ⟨rfl, h2⟩
theorem lens_empty {S : List Lev} (h : ∀ L ∈ S, L.l = []) : ∀ z ∈ lens S, z = 0 := by
  intro z hz
  obtain ⟨L, hL, rfl⟩ := List.mem_map.1 hz
  rw [h L hL]; rfl
theorem lens_none {S R : List Lev} (h : lens S = lens R) (hS : ∀ L ∈ S, L.l = []) : ∀ L ∈ R, L.l = [] := by
  intro L hL
  have : L.l.length ∈ lens S := by rw [h]; exact List.mem_map_of_mem hL
  exact List.length_eq_zero_iff.1 (lens_empty hS _ this)
/-- the two walks' steps, side by side -/
theorem sameS_step {S1 E R1 F : List Lev} {L M : Lev} {t u : AT} {tl ul : List AT} (a c a' c') (hE : ∀ L ∈ E, L.l = []) (hF : ∀ L ∈ F, L.l = []) (hl : L.l = t :: tl) (hm : M.l = u :: ul) (h : lens (S1 ++ L :: E) = lens (R1 ++ M :: F)) :
    (sameS (S1 ++ L :: E) (R1 ++ M :: F) = (t.hd u && sameS (S1 ++ [Lev.mk a c tl, Lev.mk t.a t.cap t.l]) (R1 ++ [Lev.mk a' c' ul, Lev.mk u.a u.cap u.l]))) ∧ (t.hd u = true → lens (S1 ++ [Lev.mk a c tl, Lev.mk t.a t.cap t.l]) = lens (R1 ++ [Lev.mk a' c' ul, Lev.mk u.a u.cap u.l])) := by
  simp only [lens, List.map_append, List.map_cons, hl, hm, List.length_cons] at h
  obtain ⟨h1, h2, h3⟩ := zeros_split _ _ _ _ _ _ (lens_empty hE) (lens_empty hF) h
  have hlen : S1.length = R1.length := by simpa using congrArg List.length h1
  constructor
  · rw [sameS_append _ _ _ _ hlen, sameS_append _ _ _ _ hlen]
    simp only [sameS, sameS_empty E F hE, hl, hm, AT.ptL, PT.sameL, ptsame_eq, Bool.and_true]
    cases t.hd u <;> cases sameS S1 R1 <;> cases PT.sameL (AT.ptL t.l) (AT.ptL u.l) <;> cases PT.sameL (AT.ptL tl) (AT.ptL ul) <;> rfl
  · intro hh
    simp only [AT.hd, Bool.and_eq_true, beq_iff_eq] at hh
    simp only [lens, List.map_append, List.map_cons, List.map_nil, h2, hh.2]
    rw [h1]
end Go.Proofs.Ytmcmkkkbkfgakaa
