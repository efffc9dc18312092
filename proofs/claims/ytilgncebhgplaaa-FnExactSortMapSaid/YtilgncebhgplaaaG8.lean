import Derived.Test.YtilgncebhgplaaaG4
import Derived.Test.YtilgncebhgplaaaG6
import Derived.Test.YtilgncebhgplaaaG7
import Derived.Test.YtilgncebhgplaaaG0
import Derived.Lib.Hide
import Derived.ProofKit
import Derived.Laws.Cover1
import Derived.Outline
import Derived.StillTailTactics
import Derived.Test.YtilgncebhgplaaaG1
import Derived.Test.YtilgncebhgplaaaRows
import Derived.Laws.StructEq
import Derived.WalkKit
import Derived.IntWalk
import Derived.Laws.Shifts
import Derived.Test.YtilgncebhgplaaaG5
/- The order of trees (plain): what a comparison returns, by kind, numbers, bytes, elements. -/
namespace Go.Proofs.Ytilgncebhgplaaa
open Go.RowKit
def cmpI (a b : Int) : Int := if a < b then -1 else if b < a then 1 else 0
def cmpS (s t : List UInt8) : Int := if Op.bytesLess s t then -1 else if s = t then 0 else 1
def orI (a b : Int) : Int := if a = 0 then b else a
def byV (l r : Bool) : Int := if l then -1 else if r then 1 else 0
def plainV (_k n x m y : Int) : Int := orI (cmpI n m) (cmpI x y)
def numV (k n x m y : Int) : Int :=
  if (k == 4 && fltOk n x && fltOk m y) = true then byV (lessF n x m y) (lessF m y n x)
  else if (k == 6 && decOk n x && decOk m y) = true then byV (lessB n x m y) (lessB m y n x) else plainV k n x m y
/-- a way to compare two values' numbers, of one kind -/
abbrev NumF := Int → Int → Int → Int → Int → Int
def hdV (f : NumF) (k n x : Int) (s : List UInt8) (k' n' x' : Int) (s' : List UInt8) : Int := orI (cmpI k k') (orI (f k n x n' x') (cmpS s s'))
mutual
def PT.cmp (f : NumF) : PT → PT → Int
  | .mk k n x s l, .mk k' n' x' s' l' => orI (hdV f k n x s k' n' x' s') (PT.cmpL f l l')
def PT.cmpL (f : NumF) : List PT → List PT → Int
  | [], [] => 0
  | [], _ :: _ => -1
  | _ :: _, [] => 1
  | t :: l, u :: m => orI (t.cmp f u) (PT.cmpL f l m)
end
/-- -1, 0 or 1 -/
def Sgn (a : Int) : Prop := a = -1 ∨ a = 0 ∨ a = 1
theorem orI_zero (b : Int) : orI 0 b = b := rfl
theorem orI_ne {a : Int} (h : a ≠ 0) (b : Int) : orI a b = a := if_neg h
theorem sgn_cmpI (a b : Int) : Sgn (cmpI a b) := by unfold cmpI Sgn; split <;> (try split) <;> omega
theorem sgn_cmpS (a b : List UInt8) : Sgn (cmpS a b) := by unfold cmpS Sgn; split <;> (try split) <;> omega
theorem sgn_or {a b : Int} (h : Sgn a) (k : Sgn b) : Sgn (orI a b) := by unfold orI; split <;> assumption
theorem sgn_byV (l r : Bool) : Sgn (byV l r) := by cases l <;> cases r <;> simp [byV, Sgn]
theorem sgn_plain (k n x m y : Int) : Sgn (plainV k n x m y) := sgn_or (sgn_cmpI _ _) (sgn_cmpI _ _)
theorem sgn_num (k n x m y : Int) : Sgn (numV k n x m y) := by
  unfold numV; split
  · exact sgn_byV _ _
  · split
    · exact sgn_byV _ _
    · exact sgn_plain _ _ _ _ _
theorem cmpI_zero {a b : Int} : cmpI a b = 0 ↔ a = b := by unfold cmpI; split <;> (try split) <;> omega
theorem cmpI_anti (a b : Int) : cmpI b a = -cmpI a b := by unfold cmpI; repeat' split <;> omega
theorem cmpI_neg {a b : Int} : cmpI a b < 0 ↔ a < b := by unfold cmpI; split <;> (try split) <;> omega
theorem or_zero {a b : Int} : orI a b = 0 ↔ a = 0 ∧ b = 0 := by unfold orI; split <;> omega
theorem or_neg {a b : Int} : orI a b < 0 ↔ a < 0 ∨ (a = 0 ∧ b < 0) := by unfold orI; split <;> omega
theorem or_anti {a b a' b' : Int} (h : a' = -a) (k : a = 0 → b' = -b) : orI a' b' = -orI a b := by
  unfold orI
  by_cases h0 : a = 0
  · rw [if_pos (by omega), if_pos h0]; exact k h0
  · rw [if_neg (by omega), if_neg h0]; exact h
theorem bl_irrefl (s : List UInt8) : Op.bytesLess s s = false := by
  induction s with
  | nil => rfl
  | cons a s ih => simp [Op.bytesLess, ih]
theorem bl_tri (s t : List UInt8) : s ≠ t → Op.bytesLess s t = !Op.bytesLess t s := by
  induction s generalizing t with
  | nil => cases t with
    | nil => intro h; exact absurd rfl h
    | cons b t => intro _; rfl
  | cons a s ih =>
    cases t with
    | nil => intro _; rfl
    | cons b t =>
      intro h
      simp only [Op.bytesLess]
      by_cases hab : a = b
      · subst hab
        have : s ≠ t := fun e => h (by rw [e])
        simp [ih t this]
      · have hba : b ≠ a := fun e => hab e.symm
        rcases UInt8.lt_or_lt_of_ne hab with hl | hl
        · have hn : ¬ b < a := UInt8.lt_asymm hl
          simp [hl, hn, hab, hba]
        · have hn : ¬ a < b := UInt8.lt_asymm hl
          simp [hl, hn, hab, hba]
theorem bl_trans (s t u : List UInt8) : Op.bytesLess s t = true → Op.bytesLess t u = true → Op.bytesLess s u = true := by
  induction s generalizing t u with
  | nil => cases t with
    | nil => intro h; cases h
    | cons b t => cases u with
      | nil => intro _ h; cases h
      | cons c u => intro _ _; rfl
  | cons a s ih =>
    cases t with
    | nil => intro h; cases h
    | cons b t => cases u with
      | nil => intro _ h; cases h
      | cons c u =>
        simp only [Op.bytesLess, Bool.or_eq_true, decide_eq_true_eq, Bool.and_eq_true, beq_iff_eq]
        rintro (h1 | ⟨rfl, h1⟩) (h2 | ⟨rfl, h2⟩)
        · exact .inl (UInt8.lt_trans h1 h2)
        · exact .inl h1
        · exact .inl h2
        · exact .inr ⟨rfl, ih t u h1 h2⟩
theorem cmpS_zero {s t : List UInt8} : cmpS s t = 0 ↔ s = t := by
  unfold cmpS
  by_cases h : s = t
  · subst h; rw [bl_irrefl]; simp
  · cases hb : Op.bytesLess s t <;> simp [h]
theorem cmpS_anti (s t : List UInt8) : cmpS t s = -cmpS s t := by
  by_cases h : s = t
  · subst h; simp [cmpS, bl_irrefl]
  · have h2 : t ≠ s := fun e => h e.symm
    have := bl_tri s t h
    unfold cmpS
    cases hb : Op.bytesLess t s <;> simp [this, hb, h, h2]
theorem cmpS_neg {s t : List UInt8} : cmpS s t < 0 ↔ Op.bytesLess s t = true := by
  unfold cmpS
  cases hb : Op.bytesLess s t
  · by_cases h : s = t <;> simp [h]
  · simp
theorem lessF_anti {n x N X : Int} : ¬ (lessF n x N X = true ∧ lessF N X n x = true) := by
  rintro ⟨h, k⟩
  simp only [lessF, Bool.and_eq_true] at h k
  exact less_anti ⟨h.2, k.2⟩
theorem byV_anti {l r : Bool} (h : ¬ (l = true ∧ r = true)) : byV r l = -byV l r := by cases l <;> cases r <;> simp_all [byV]
theorem plain_anti (k n x m y : Int) : plainV k m y n x = -plainV k n x m y := or_anti (cmpI_anti _ _) (fun _ => cmpI_anti _ _)
theorem num_anti (k n x m y : Int) : numV k m y n x = -numV k n x m y := by
  unfold numV
  rw [show (k == 4 && fltOk m y && fltOk n x) = (k == 4 && fltOk n x && fltOk m y) by rw [Bool.and_assoc, Bool.and_assoc, Bool.and_comm (fltOk m y)], show (k == 6 && decOk m y && decOk n x) = (k == 6 && decOk n x && decOk m y) by rw [Bool.and_assoc, Bool.and_assoc, Bool.and_comm (decOk m y)]]
  split
  · exact byV_anti lessF_anti
  · split
    · exact byV_anti less_anti
    · exact plain_anti _ _ _ _ _
theorem plain_zero {k n x m y : Int} : plainV k n x m y = 0 ↔ n = m ∧ x = y := by unfold plainV; rw [or_zero, cmpI_zero, cmpI_zero]
theorem plain_refl (k n x : Int) : plainV k n x n x = 0 := plain_zero.2 ⟨rfl, rfl⟩
theorem byV_refl {l : Bool} (h : ¬ (l = true ∧ l = true)) : byV l l = 0 := by cases l <;> simp_all [byV]
theorem num_refl (k n x : Int) : numV k n x n x = 0 := by
  unfold numV; split
  · exact byV_refl lessF_anti
  · split
    · exact byV_refl less_anti
    · exact plain_refl _ _ _
/-- of numbers that the values of the kind may have, two are alike only if they are one -/
theorem num_zero {k n x m y : Int} (h : numV k n x m y = 0) : n = m ∧ x = y := by
  unfold numV at h
  split at h
  · rename_i hc
    simp only [Bool.and_eq_true] at hc
    have ht := lessF_tri hc.1.2 hc.2
    by_cases hq : n = m ∧ x = y
    · exact hq
    · have := ht.2 hq
      cases h1 : lessF n x m y <;> cases h2 : lessF m y n x <;> simp_all [byV]
  · split at h
    · rename_i hc
      simp only [Bool.and_eq_true] at hc
      have ht := less_tri hc.1.2 hc.2
      by_cases hq : n = m ∧ x = y
      · exact hq
      · have := ht.2 hq
        cases h1 : lessB n x m y <;> cases h2 : lessB m y n x <;> simp_all [byV]
    · exact plain_zero.1 h
/-- what is asked of a way to compare numbers -/
structure NumOk (f : NumF) : Prop where
  sgn : ∀ k n x m y, Sgn (f k n x m y)
  anti : ∀ k n x m y, f k m y n x = -f k n x m y
  zero : ∀ k n x m y, f k n x m y = 0 → n = m ∧ x = y
  refl : ∀ k n x, f k n x n x = 0
theorem numOk : NumOk numV := ⟨sgn_num, num_anti, fun _ _ _ _ _ => num_zero, num_refl⟩
theorem plainOk : NumOk plainV := ⟨sgn_plain, plain_anti, fun _ _ _ _ _ => plain_zero.1, plain_refl⟩
theorem hd_sgn {f : NumF} (hf : NumOk f) (k n x : Int) (s : List UInt8) (k' n' x' : Int) (s' : List UInt8) : Sgn (hdV f k n x s k' n' x' s') := sgn_or (sgn_cmpI _ _) (sgn_or (hf.sgn _ _ _ _ _) (sgn_cmpS _ _))
theorem hd_anti {f : NumF} (hf : NumOk f) (k n x : Int) (s : List UInt8) (k' n' x' : Int) (s' : List UInt8) : hdV f k' n' x' s' k n x s = -hdV f k n x s k' n' x' s' := by
  refine or_anti (cmpI_anti _ _) fun h => ?_
  obtain rfl := cmpI_zero.1 h
  exact or_anti (hf.anti _ _ _ _ _) (fun _ => cmpS_anti _ _)
theorem hd_zero {f : NumF} (hf : NumOk f) {k n x : Int} {s : List UInt8} {k' n' x' : Int} {s' : List UInt8} : hdV f k n x s k' n' x' s' = 0 ↔ k = k' ∧ n = n' ∧ x = x' ∧ s = s' := by
  unfold hdV
  rw [or_zero, or_zero, cmpI_zero, cmpS_zero]
  constructor
  · rintro ⟨rfl, h, rfl⟩
    obtain ⟨rfl, rfl⟩ := hf.zero _ _ _ _ _ h
    exact ⟨rfl, rfl, rfl, rfl⟩
  · rintro ⟨rfl, rfl, rfl, rfl⟩
    exact ⟨rfl, hf.refl _ _ _, rfl⟩
theorem cmp_sgn {f : NumF} (hf : NumOk f) (t u : PT) : Sgn (t.cmp f u) := by
  induction t using PT.ind generalizing u with
  | h k n x s l ih =>
    obtain ⟨k', n', x', s', m⟩ := u
    simp only [PT.cmp]
    refine sgn_or (hd_sgn hf _ _ _ _ _ _ _ _) ?_
    induction l generalizing m with
    | nil => cases m <;> simp [PT.cmpL, Sgn]
    | cons t l ihl =>
      cases m with
      | nil => simp [PT.cmpL, Sgn]
      | cons u m => exact sgn_or (ih t (by simp) u) (ihl (fun u hu => ih u (by simp [hu])) m)
theorem cmpL_sgn {f : NumF} (hf : NumOk f) (l m : List PT) : Sgn (PT.cmpL f l m) := by
  induction l generalizing m with
  | nil => cases m <;> simp [PT.cmpL, Sgn]
  | cons t l ihl =>
    cases m with
    | nil => simp [PT.cmpL, Sgn]
    | cons u m => exact sgn_or (cmp_sgn hf t u) (ihl m)
theorem cmp_anti {f : NumF} (hf : NumOk f) (t u : PT) : u.cmp f t = -t.cmp f u := by
  induction t using PT.ind generalizing u with
  | h k n x s l ih =>
    obtain ⟨k', n', x', s', m⟩ := u
    simp only [PT.cmp]
    refine or_anti (hd_anti hf _ _ _ _ _ _ _ _) fun _ => ?_
    induction l generalizing m with
    | nil => cases m <;> simp [PT.cmpL]
    | cons t l ihl =>
      cases m with
      | nil => simp [PT.cmpL]
      | cons u m => exact or_anti (ih t (by simp) u) (fun _ => ihl (fun u hu => ih u (by simp [hu])) m)
theorem cmp_zero {f : NumF} (hf : NumOk f) {t u : PT} : t.cmp f u = 0 ↔ t = u := by
  induction t using PT.ind generalizing u with
  | h k n x s l ih =>
    obtain ⟨k', n', x', s', m⟩ := u
    have hl : PT.cmpL f l m = 0 ↔ l = m := by
      induction l generalizing m with
      | nil => cases m <;> simp [PT.cmpL]
      | cons t l ihl =>
        cases m with
        | nil => simp [PT.cmpL]
        | cons u m =>
          simp only [PT.cmpL]
          rw [or_zero, ih t (by simp), ihl (fun u hu => ih u (by simp [hu])) m, List.cons.injEq]
    simp only [PT.cmp]
    rw [or_zero, hd_zero hf, hl, PT.mk.injEq]
    constructor
    · rintro ⟨⟨a, b, c, d⟩, e⟩; exact ⟨a, b, c, d, e⟩
    · rintro ⟨a, b, c, d, e⟩; exact ⟨⟨a, b, c, d⟩, e⟩
theorem cmp_refl {f : NumF} (hf : NumOk f) (t : PT) : t.cmp f t = 0 := (cmp_zero hf).2 rfl
/-- is less -/
def PT.less (t u : PT) : Bool := decide (t.cmp numV u < 0)
theorem less_asym (t u : PT) : ¬ (t.less u = true ∧ u.less t = true) := by
  unfold PT.less
  rw [cmp_anti numOk t u]
  simp only [decide_eq_true_eq]
  omega
theorem less_one (t u : PT) : (t.less u || u.less t) = !t.same u := by
  have hs := cmp_sgn numOk t u
  have hz := cmp_zero numOk (t := t) (u := u)
  unfold PT.less
  rw [cmp_anti numOk t u]
  cases h : t.same u
  · have : t ≠ u := fun e => by rw [e, ptsame_refl] at h; cases h
    have h0 : t.cmp numV u ≠ 0 := fun e => this (hz.1 e)
    unfold Sgn at hs
    simp; omega
  · have h0 := hz.2 (ptsame_true h)
    simp [h0]
/-- lists of trees: the first i pairs are the same, the pair i is not -/
theorem cmpL_at (f : NumF) (l m : List PT) (i : Nat) (h1 : i < l.length) (h2 : i < m.length) (h : l.take i = m.take i) (hf : NumOk f) (hne : (l[i]).cmp f m[i] ≠ 0) : PT.cmpL f l m = (l[i]).cmp f m[i] := by
  induction l generalizing m i with
  | nil => simp at h1
  | cons t l ih =>
    cases m with
    | nil => simp at h2
    | cons u m =>
      cases i with
      | zero => exact orI_ne hne _
      | succ i =>
        simp only [List.take_succ_cons, List.cons.injEq] at h
        obtain ⟨rfl, h⟩ := h
        simp only [PT.cmpL, cmp_refl hf, orI_zero]
        exact ih m i (by simpa using h1) (by simpa using h2) h (by simpa using hne)
theorem cmpL_end (f : NumF) (l m : List PT) (hf : NumOk f) (h : l.take (min l.length m.length) = m.take (min l.length m.length)) : PT.cmpL f l m = cmpI l.length m.length := by
  induction l generalizing m with
  | nil => cases m with
    | nil => rfl
    | cons u m => simp only [PT.cmpL, cmpI, List.length_nil, List.length_cons]; rw [if_pos (by omega)]
  | cons t l ih =>
    cases m with
    | nil => simp only [PT.cmpL, cmpI, List.length_nil, List.length_cons]; rw [if_neg (by omega), if_pos (by omega)]
    | cons u m =>
      simp only [List.length_cons, Nat.add_min_add_right, List.take_succ_cons, List.cons.injEq] at h
      obtain ⟨rfl, h⟩ := h
      simp only [PT.cmpL, cmp_refl hf, orI_zero]
      rw [ih m h]
      unfold cmpI
      simp only [List.length_cons]
      repeat' split <;> omega
end Go.Proofs.Ytilgncebhgplaaa
/- The library's cmp: Compare at int and string, Or at int. -/
namespace Go.Proofs.Ytilgncebhgplaaa
open Go.RowKit
set_option maxRecDepth 100000
theorem nan_int (x : Int) (w : World) : Calls Try.prog 52 #[.int .i64 x] w fun e w' => e = .returned (.bool false) ∧ w = w' := by
  go_enter Try.func52, Try.ntmps52
  go_wp2
  go_ret
  exact ⟨rfl, rfl⟩
theorem compare_int (x y : Int) (w : World) : Calls Try.prog 37 #[.int .i64 x, .int .i64 y] w fun e w' => e = .returned (.int .i64 (cmpI x y)) ∧ w = w' := by
  have hn := fun z => nan_int z w
  rcases Int.lt_trichotomy x y with h | h | h
  · have hv : cmpI x y = -1 := if_pos h
    rw [hv]
    clear hv
    go_enter Try.func37, Try.ntmps37
    go_wp2_with (go_at_call 52; refine (hn _).mono ?_; rintro e w' ⟨rfl, rfl⟩)
    go_ret
    exact ⟨rfl, rfl⟩
  · subst h
    have hv : cmpI x x = 0 := cmpI_zero.2 rfl
    rw [hv]
    clear hv
    go_enter Try.func37, Try.ntmps37
    go_wp2_with (go_at_call 52; refine (hn _).mono ?_; rintro e w' ⟨rfl, rfl⟩)
    go_ret
    exact ⟨rfl, rfl⟩
  · have hv : cmpI x y = 1 := by unfold cmpI; rw [if_neg (by omega), if_pos h]
    rw [hv]
    have h2 : ¬ x < y := by omega
    clear hv
    go_enter Try.func37, Try.ntmps37
    go_wp2_with (go_at_call 52; refine (hn _).mono ?_; rintro e w' ⟨rfl, rfl⟩)
    go_ret
    exact ⟨rfl, rfl⟩
theorem nan_str (s : ByteArray) (w : World) : Calls Try.prog 60 #[.string s] w fun e w' => e = .returned (.bool false) ∧ w = w' := by
  have h : (s.toList == s.toList) = true := by simp
  have h2 : (s.toList != s.toList) = false := by simp
  go_enter Try.func60, Try.ntmps60
  go_wp2
  go_ret
  exact ⟨by simp, rfl⟩
theorem compare_str (s t : List UInt8) (w : World) : Calls Try.prog 51 #[.string ⟨s.toArray⟩, .string ⟨t.toArray⟩] w fun e w' => e = .returned (.int .i64 (cmpS s t)) ∧ w = w' := by
  have hn := fun z => nan_str z w
  cases h : Op.bytesLess s t
  · by_cases he : s = t
    · subst he
      have hv : cmpS s s = 0 := cmpS_zero.2 rfl
      rw [hv]
      have heq : (s == s) = true := by simp
      clear hv
      go_enter Try.func51, Try.ntmps51
      go_wp2_with (go_at_call 60; refine (hn _).mono ?_; rintro e w' ⟨rfl, rfl⟩)
      go_ret
      exact ⟨rfl, rfl⟩
    · have hv : cmpS s t = 1 := by unfold cmpS; rw [h]; simp [he]
      rw [hv]
      have heq : (s == t) = false := by simpa using he
      clear hv he
      go_enter Try.func51, Try.ntmps51
      go_wp2_with (go_at_call 60; refine (hn _).mono ?_; rintro e w' ⟨rfl, rfl⟩)
      go_ret
      exact ⟨rfl, rfl⟩
  · have hv : cmpS s t = -1 := by unfold cmpS; rw [h]; rfl
    rw [hv]
    clear hv
    go_enter Try.func51, Try.ntmps51
    go_wp2_with (go_at_call 60; refine (hn _).mono ?_; rintro e w' ⟨rfl, rfl⟩)
    go_ret
    exact ⟨rfl, rfl⟩
theorem or_int (a b : Int) (w : World) (g cap : Nat) (c0 : w.cell? ⟨g, 0, none⟩ = some (.int .i64 a)) (c1 : w.cell? ⟨g, 1, none⟩ = some (.int .i64 b)) : Calls Try.prog 50 #[.slice (some ⟨g, 0, none⟩) 2 cap] w fun e w' => e = .returned (.int .i64 (orI a b)) ∧ w = w' := by
  by_cases ha : a = 0
  · subst ha
    rw [orI_zero]
    by_cases hb : b = 0
    · subst hb
      go_enter Try.func50, Try.ntmps50
      go_wp2
      go_loopw [8] (fun i wr => wr = w ∧ (i = .int .i64 0 ∨ i = .int .i64 1 ∨ i = .int .i64 2)) (fun i _ => 2 - (intOf i).toNat)
      case atStart => exact ⟨rfl, .inl rfl⟩
      case round =>
        obtain ⟨rfl, rfl | rfl | rfl⟩ := hrel
        · go_wp2
          go_roundw
          case rel => exact ⟨trivial, .inr (.inl rfl)⟩
          case measure => simp [intOf]
        · go_wp2
          go_roundw
          case rel => exact ⟨trivial, .inr (.inr rfl)⟩
          case measure => simp [intOf]
        · go_wp2
          go_ret
          exact ⟨rfl, rfl⟩
    · go_enter Try.func50, Try.ntmps50
      go_wp2
      go_loopw [8] (fun i wr => wr = w ∧ (i = .int .i64 0 ∨ i = .int .i64 1)) (fun i _ => 2 - (intOf i).toNat)
      case atStart => exact ⟨rfl, .inl rfl⟩
      case round =>
        obtain ⟨rfl, rfl | rfl⟩ := hrel
        · go_wp2
          go_roundw
          case rel => exact ⟨trivial, .inr rfl⟩
          case measure => simp [intOf]
        · go_wp2
          go_ret
          exact ⟨rfl, rfl⟩
  · rw [orI_ne ha]
    go_enter Try.func50, Try.ntmps50
    go_wp2
    go_loopw [8] (fun i wr => wr = w ∧ i = .int .i64 0) (fun i _ => 2 - (intOf i).toNat)
    case atStart => exact ⟨rfl, rfl⟩
    case round =>
      obtain ⟨rfl, rfl⟩ := hrel
      go_wp2
      go_ret
      exact ⟨rfl, rfl⟩
end Go.Proofs.Ytilgncebhgplaaa
/- SameVal of the model, and sameVal of the laws. -/
namespace Go.Proofs.Ytilgncebhgplaaa
open Go.RowKit
theorem two' (w : World) (a b : Obj) : Below w.heap.size w ((w.alloc a).alloc b) := ((Below.refl w.heap.size w).alloc (Nat.le_refl _) a).alloc (by simp) b
theorem box55 (w : World) (k n x k2 n2 x2 : Int) (s s2 : ByteArray) (a a2 : Option Addr) (len len2 cap cap2 : Nat) (t : TypeId) {wr : World}
    (hb : Below (w.heap.size + 1 + 1) ((w.alloc (.cells #[.int .i64 k, .int .i64 n, .int .i64 x, .string s, .slice a len cap] t)).alloc (.cells #[.int .i64 k2, .int .i64 n2, .int .i64 x2, .string s2, .slice a2 len2 cap2] t)) wr) :
    wr.cell? ⟨w.heap.size, 4, none⟩ = some (.slice a len cap) ∧ wr.cell? ⟨w.heap.size + 1, 4, none⟩ = some (.slice a2 len2 cap2) := by
  refine ⟨?_, ?_⟩ <;> exact (hb.cell (by simp; try omega)).trans (by simp [go_sem])
theorem hd_cases {k k2 n n2 x x2 : Int} {s s2 : List UInt8} {a b : Nat} (h : ¬ (k = k2 ∧ n = n2 ∧ x = x2 ∧ s = s2 ∧ a = b)) :
    ¬ k = k2 ∨ (k = k2 ∧ ¬ n = n2) ∨ (k = k2 ∧ n = n2 ∧ ¬ x = x2) ∨ (k = k2 ∧ n = n2 ∧ x = x2 ∧ (s == s2) = false ∧ (s != s2) = true) ∨ (k = k2 ∧ n = n2 ∧ x = x2 ∧ s = s2 ∧ ¬ (a : Int) = b ∧ ((a : Int) == b) = false) := by
  by_cases h0 : k = k2
  · by_cases h1 : n = n2
    · by_cases h2 : x = x2
      · by_cases h3 : s = s2
        · exact .inr (.inr (.inr (.inr ⟨h0, h1, h2, h3, by intro e; exact h ⟨h0, h1, h2, h3, by omega⟩, by rw [beq_eq_false_iff_ne]; intro e; exact h ⟨h0, h1, h2, h3, by omega⟩⟩)))
        · exact .inr (.inr (.inr (.inl ⟨h0, h1, h2, by simpa using h3, by simpa using h3⟩)))
      · exact .inr (.inr (.inl ⟨h0, h1, h2⟩))
    · exact .inr (.inl ⟨h0, h1⟩)
  · exact .inl h0
end Go.Proofs.Ytilgncebhgplaaa
/- compareIntegers of the program, l7Plain of the model. -/
namespace Go.Proofs.Ytilgncebhgplaaa
open Go.RowKit
set_option maxRecDepth 100000
set_option maxHeartbeats 4000000 in
theorem ints_impl (T U : AT) (w : World) : Calls Try.prog 44 #[T.val, U.val] w fun e w' => e = .returned (.int .i64 (plainV T.k T.n T.x U.n U.x)) ∧ Below w.heap.size w w' := by
  obtain ⟨k, n, x, s, a, cap, l⟩ := T
  obtain ⟨k2, n2, x2, s2, b, cap2, m⟩ := U
  show Calls Try.prog 44 #[.agg #[.int .i64 k, .int .i64 n, .int .i64 x, .string ⟨s.toArray⟩, .slice a l.length cap], .agg #[.int .i64 k2, .int .i64 n2, .int .i64 x2, .string ⟨s2.toArray⟩, .slice b m.length cap2]] w fun e w' => e = .returned (.int .i64 (orI (cmpI n n2) (cmpI x x2))) ∧ Below w.heap.size w w'
  have h1 := fun W => (compare_int n n2 W).mono (fun e w' h => (⟨h.1, h.2.symm⟩ : e = .returned (.int .i64 (cmpI n n2)) ∧ w' = W))
  have h2 := fun W => (compare_int x x2 W).mono (fun e w' h => (⟨h.1, h.2.symm⟩ : e = .returned (.int .i64 (cmpI x x2)) ∧ w' = W))
  have h3 := fun W g cap c0 c1 => or_int (cmpI n n2) (cmpI x x2) W g cap c0 c1
  generalize cmpI n n2 = c1 at *
  generalize cmpI x x2 = c2 at *
  generalize orI c1 c2 = c3 at *
  go_enter Try.func44, Try.ntmps44
  go_wp2_with fail
  have hB := two' w (.cells #[.int .i64 k, .int .i64 n, .int .i64 x, .string ⟨s.toArray⟩, .slice a l.length cap] 28) (.cells #[.int .i64 k2, .int .i64 n2, .int .i64 x2, .string ⟨s2.toArray⟩, .slice b m.length cap2] 28)
  have hc : ((w.alloc (.cells #[.int .i64 k, .int .i64 n, .int .i64 x, .string ⟨s.toArray⟩, .slice a l.length cap] 28)).alloc (.cells #[.int .i64 k2, .int .i64 n2, .int .i64 x2, .string ⟨s2.toArray⟩, .slice b m.length cap2] 28)).cell? ⟨w.heap.size, 1, none⟩ = some (.int .i64 n) ∧ ((w.alloc (.cells #[.int .i64 k, .int .i64 n, .int .i64 x, .string ⟨s.toArray⟩, .slice a l.length cap] 28)).alloc (.cells #[.int .i64 k2, .int .i64 n2, .int .i64 x2, .string ⟨s2.toArray⟩, .slice b m.length cap2] 28)).cell? ⟨w.heap.size, 2, none⟩ = some (.int .i64 x) ∧ ((w.alloc (.cells #[.int .i64 k, .int .i64 n, .int .i64 x, .string ⟨s.toArray⟩, .slice a l.length cap] 28)).alloc (.cells #[.int .i64 k2, .int .i64 n2, .int .i64 x2, .string ⟨s2.toArray⟩, .slice b m.length cap2] 28)).cell? ⟨w.heap.size + 1, 1, none⟩ = some (.int .i64 n2) ∧ ((w.alloc (.cells #[.int .i64 k, .int .i64 n, .int .i64 x, .string ⟨s.toArray⟩, .slice a l.length cap] 28)).alloc (.cells #[.int .i64 k2, .int .i64 n2, .int .i64 x2, .string ⟨s2.toArray⟩, .slice b m.length cap2] 28)).cell? ⟨w.heap.size + 1, 2, none⟩ = some (.int .i64 x2) := by refine ⟨?_, ?_, ?_, ?_⟩ <;> simp [go_sem]
  generalize ((w.alloc (.cells #[.int .i64 k, .int .i64 n, .int .i64 x, .string ⟨s.toArray⟩, .slice a l.length cap] 28)).alloc (.cells #[.int .i64 k2, .int .i64 n2, .int .i64 x2, .string ⟨s2.toArray⟩, .slice b m.length cap2] 28)) = W0 at *
  obtain ⟨e1, e2, e3, e4⟩ := hc
  replace hB := hB.drew
  refine wp_region_still_tail 10 (by kernel_rfl) (by kernel_rfl) ?_
  simp only [List.take_succ_cons, List.take_zero, List.drop_succ_cons, List.drop_zero]
  still_step
  still_step
  still_step
  still_step
  still_call (h1 _)
  still_step
  still_step
  still_step
  still_step
  still_call (h2 _)
  refine wpStill_nil ?_
  change wpList _ _ _ _ _ (World.drew _)
  generalize (World.drew _) = w2 at *
  go_wp2_with (go_at_call 50; refine (h3 _ _ _ (by simp [go_sem]) (by simp [go_sem])).mono ?_; rintro e w' ⟨rfl, rfl⟩)
  go_ret
  exact ⟨rfl, hB.alloc hB.size _⟩
end Go.Proofs.Ytilgncebhgplaaa
/- '==' and '!=' on floating-point numbers. -/
namespace Go.Proofs.Ytilgncebhgplaaa
open Go.RowKit
theorem flt_equal (n x N X : Int) (w : World) : (Op.equalIn 10000 58 (.agg #[.int .i64 n, .int .i64 x]) (.agg #[.int .i64 N, .int .i64 X])).run Try.prog w = .ok (n == N && x == X) w := by
  rw [show (10000 : Nat) = 9998 + 1 + 1 from rfl, run_equalIn_agg w (9998 + 1) 58 _ _ (by kernel_rfl) (by kernel_rfl)]
  simp [Op.eqFields, Program.fieldsOf, Try.underlying58, Try.underlying3, go_sem]
  by_cases h : n = N <;> by_cases k : x = X <;> simp [h, k]
theorem flt_eql (n x N X : Int) (w : World) : (binOp .eql 58 (.agg #[.int .i64 n, .int .i64 x]) (.agg #[.int .i64 N, .int .i64 X])).run Try.prog w = .ok (.bool (n == N && x == X)) w := by
  rw [run_eql_struct, flt_equal]; rfl
theorem flt_neq (n x N X : Int) (w : World) : (binOp .neq 58 (.agg #[.int .i64 n, .int .i64 x]) (.agg #[.int .i64 N, .int .i64 X])).run Try.prog w = .ok (.bool (!(n == N && x == X))) w := by
  rw [run_neq_struct, flt_equal]; rfl
end Go.Proofs.Ytilgncebhgplaaa
/- What FltOk of the program and of the model returns: whether the two fields form a floating-point number. -/
namespace Go.Proofs.Ytilgncebhgplaaa
open Go.RowKit
theorem fbox (w : World) (o : Obj) : Below w.heap.size w (w.alloc o) := (Below.refl _ _).alloc (Nat.le_refl _) _
def fltLim (e : Int) : Nat := 65535 / 2 ^ (e - 30).toNat
theorem fltLim_le (e : Int) : fltLim e ≤ 65535 := Nat.div_le_self _ _
theorem fltLim_low {e : Int} (h : e ≤ 30) : fltLim e = 65535 := by unfold fltLim; rw [show (e - 30).toNat = 0 by omega]
theorem lim_shift {e : Int} (h : 30 < e) : Op.shift .shr .i64 65535 .i64 (e - 30) = pure (.int .i64 (fltLim e)) := by
  rw [shift_shr_any _ _ _ _ (by omega)]
  unfold fltLim
  by_cases hk : (e - 30).toNat ≤ 64
  · rw [show min (e - 30).toNat (IntKind.bits .i64) = (e - 30).toNat from Nat.min_eq_left hk, Int.natCast_ediv, Int.natCast_pow]; rfl
  · have h1 : 2 ^ 64 ≤ 2 ^ (e - 30).toNat := Nat.pow_le_pow_right (by decide) (by omega)
    rw [show min (e - 30).toNat (IntKind.bits .i64) = 64 from Nat.min_eq_right (by show 64 ≤ _; omega), Nat.div_eq_of_lt (by omega)]; rfl
theorem fltOk_even {m e : Int} (hz : ¬ (m = 0 ∧ e = 0)) (h : m.tmod 2 = 0) : fltOk m e = false := by
  rw [Bool.eq_false_iff]; intro hv
  obtain ⟨_, _, _, r3, r4⟩ := fltOk_range hv
  by_cases hm : m = 0
  · exact hz ⟨hm, r3 hm⟩
  · exact (r4 hm).1 h
theorem fltOk_deep {m e : Int} (h : e < -16) : fltOk m e = false := by
  rw [Bool.eq_false_iff]; intro hv
  have := (fltOk_range hv).1
  omega
theorem fltOk_lim {m e : Int} (h : m.tmod 2 ≠ 0) (he : -16 ≤ e) : fltOk m e = decide (-(fltLim e : Int) ≤ m ∧ m ≤ fltLim e) := by
  have hL := fltLim_le e
  have hm : m ≠ 0 := by rintro rfl; exact h rfl
  rw [Bool.eq_iff_iff, decide_eq_true_eq]
  constructor
  · intro hv
    have := ((fltOk_range hv).2.2.2.2 hm).2
    have h2 : m.natAbs ≤ fltLim e := (Nat.le_div_iff_mul_le (two_pos _)).2 this
    omega
  · intro hv
    have h2 : m.natAbs ≤ fltLim e := by omega
    exact fltOk_of h he (by omega) ((Nat.le_div_iff_mul_le (two_pos _)).1 h2)
set_option maxRecDepth 100000 in
set_option maxHeartbeats 1000000 in
theorem fltok_impl (m e : Int) (w : World) (h0 : -9223372036854775808 ≤ m) (h1 : m ≤ 9223372036854775807) (k0 : -9223372036854775808 ≤ e) (k1 : e ≤ 9223372036854775807) :
    Calls Try.prog 38 #[.agg #[.int .i64 m, .int .i64 e]] w fun r w' => r = .returned (.bool (fltOk m e)) ∧ Below w.heap.size w w' := by
  have hg := fun x y xs ys w => run_eqGuard_agg (P := Try.prog) w .eql 58 x y xs ys (by kernel_rfl)
  have hq := fun w => flt_eql m e 0 0 w
  by_cases hz : m = 0 ∧ e = 0
  · obtain ⟨rfl, rfl⟩ := hz
    rw [show ((0 : Int) == 0 && (0 : Int) == 0) = true by decide] at hq
    rw [fltOk_zero]
    go_enter Try.func38, Try.ntmps38
    go_wp2
    go_ret
    exact ⟨rfl, fbox _ _⟩
  · rw [show ((m == 0 && e == 0)) = false by rw [Bool.eq_false_iff]; simpa using hz] at hq
    by_cases hm : m.tmod 2 = 0
    · rw [fltOk_even hz hm]
      have hb : (m.tmod 2 == 0) = true := by simpa using hm
      go_enter Try.func38, Try.ntmps38
      go_wp2
      go_ret
      exact ⟨rfl, fbox _ _⟩
    · have hb : (m.tmod 2 == 0) = false := by simpa using hm
      have hb2 : (m % 2 == 0) = false := by rw [Bool.eq_false_iff]; intro h; exact hm (Int.tmod_eq_zero_of_dvd (Int.dvd_of_emod_eq_zero (by simpa using h)))
      by_cases he : e < -16
      · rw [fltOk_deep he]
        go_enter Try.func38, Try.ntmps38
        go_wp2
        go_ret
        exact ⟨rfl, fbox _ _⟩
      · rw [fltOk_lim hm (by omega)]
        by_cases hi : 30 < e
        · have hL := fltLim_le e
          have hs := lim_shift hi
          generalize fltLim e = L at *
          by_cases b1 : -(L : Int) ≤ m
          · by_cases b2 : m ≤ L
            · rw [show decide (-(L : Int) ≤ m ∧ m ≤ L) = true by simp; omega]
              clear hz
              go_enter Try.func38, Try.ntmps38
              go_wp2
              go_ret
              exact ⟨rfl, fbox _ _⟩
            · rw [show decide (-(L : Int) ≤ m ∧ m ≤ L) = false by simp; omega]
              clear hz
              go_enter Try.func38, Try.ntmps38
              go_wp2
              go_ret
              exact ⟨rfl, fbox _ _⟩
          · rw [show decide (-(L : Int) ≤ m ∧ m ≤ L) = false by simp; omega]
            clear hz
            go_enter Try.func38, Try.ntmps38
            go_wp2
            go_ret
            exact ⟨rfl, fbox _ _⟩
        · rw [fltLim_low (by omega)]
          by_cases b1 : -(65535 : Int) ≤ m
          · by_cases b2 : m ≤ 65535
            · rw [show decide (-((65535 : Nat) : Int) ≤ m ∧ m ≤ (65535 : Nat)) = true by simp; omega]
              clear hz
              go_enter Try.func38, Try.ntmps38
              go_wp2
              go_ret
              exact ⟨rfl, fbox _ _⟩
            · rw [show decide (-((65535 : Nat) : Int) ≤ m ∧ m ≤ (65535 : Nat)) = false by simp; omega]
              clear hz
              go_enter Try.func38, Try.ntmps38
              go_wp2
              go_ret
              exact ⟨rfl, fbox _ _⟩
          · rw [show decide (-((65535 : Nat) : Int) ≤ m ∧ m ≤ (65535 : Nat)) = false by simp; omega]
            clear hz
            go_enter Try.func38, Try.ntmps38
            go_wp2
            go_ret
            exact ⟨rfl, fbox _ _⟩
theorem fltOk_zero_e {e : Int} (h : ¬ e = 0) : fltOk 0 e = false := by unfold fltOk; rw [if_pos rfl]; simpa using h
set_option maxRecDepth 100000 in
set_option maxHeartbeats 1000000 in
theorem fltok_spec (m e : Int) (w : World) (h0 : -9223372036854775808 ≤ m) (h1 : m ≤ 9223372036854775807) (k0 : -9223372036854775808 ≤ e) (k1 : e ≤ 9223372036854775807) :
    Calls Try.prog 45 #[.agg #[.int .i64 m, .int .i64 e]] w fun r w' => r = .returned (.bool (fltOk m e)) ∧ Below w.heap.size w w' := by
  by_cases hz : m = 0
  · subst hz
    by_cases he : e = 0
    · subst he
      rw [fltOk_zero]
      go_enter Try.func45, Try.ntmps45
      go_wp2
      go_ret
      exact ⟨rfl, fbox _ _⟩
    · rw [fltOk_zero_e he]
      have hb : (e == 0) = false := by simpa using he
      go_enter Try.func45, Try.ntmps45
      go_wp2
      go_ret
      exact ⟨rfl, fbox _ _⟩
  · have hzb : (m == 0) = false := by simpa using hz
    by_cases hm : -65535 ≤ m ∧ m ≤ 65535
    · have e1 : decide (-65535 ≤ m ∧ m ≤ 65535) = true := by simpa using hm
      by_cases ht : m.tmod 2 = 0
      · rw [fltOk_even (fun h => hz h.1) ht]
        have hb : (m.tmod 2 == 0) = true := by simpa using ht
        clear hm
        go_enter Try.func45, Try.ntmps45
        go_wp2_with (go_at_call 56; refine (in_any _ _ _ _).mono ?_; rintro r w' ⟨rfl, rfl⟩)
        go_ret
        exact ⟨rfl, fbox _ _⟩
      · have hb : (m.tmod 2 == 0) = false := by simpa using ht
        by_cases he : -16 ≤ e ∧ e ≤ 45
        · have e2 : decide (-16 ≤ e ∧ e ≤ 45) = true := by simpa using he
          obtain ⟨c0, c1⟩ := he
          by_cases hi : e ≤ 30
          · rw [fltOk_lim ht c0, fltLim_low hi, show decide (-((65535 : Nat) : Int) ≤ m ∧ m ≤ (65535 : Nat)) = true by simp; omega]
            clear hm c0 c1
            go_enter Try.func45, Try.ntmps45
            go_wp2_with (go_at_call 56; refine (in_any _ _ _ _).mono ?_; rintro r w' ⟨rfl, rfl⟩)
            go_ret
            exact ⟨rfl, fbox _ _⟩
          · have hp : (0 : Int) < 2 ^ (e - 30).toNat := Int.pow_pos (by decide)
            have hp2 : (2 : Int) ^ (e - 30).toNat ≤ 32768 := by
              have h1 : 2 ^ (e - 30).toNat ≤ 2 ^ 15 := Nat.pow_le_pow_right (by decide) (by omega)
              have h2 : ((2 ^ (e - 30).toNat : Nat) : Int) = (2 : Int) ^ (e - 30).toNat := by rw [Int.natCast_pow]; rfl
              omega
            have hs : Op.shift .shl .i64 m .i64 (e - 30) = pure (.int .i64 (m * 2 ^ (e - 30).toNat)) := by
              rw [shift_shl_any _ _ _ _ (by omega), show min (e - 30).toNat (IntKind.bits .i64) = (e - 30).toNat from Nat.min_eq_left (by show _ ≤ 64; omega)]
              have b1 : m * 2 ^ (e - 30).toNat ≤ 65535 * 32768 := Int.le_trans (Int.mul_le_mul_of_nonneg_right hm.2 (Int.le_of_lt hp)) (Int.mul_le_mul_of_nonneg_left hp2 (by decide))
              have b2 : -m * 2 ^ (e - 30).toNat ≤ 65535 * 32768 := Int.le_trans (Int.mul_le_mul_of_nonneg_right (by omega) (Int.le_of_lt hp)) (Int.mul_le_mul_of_nonneg_left hp2 (by decide))
              rw [Int.neg_mul] at b2
              rw [IntWalk.i64_in _ (by omega)]
            have hv : fltOk m e = decide (-65535 ≤ m * 2 ^ (e - 30).toNat ∧ m * 2 ^ (e - 30).toNat ≤ 65535) := by
              rw [Bool.eq_iff_iff, decide_eq_true_eq]
              have h2 : ((m.natAbs * 2 ^ (e - 30).toNat : Nat) : Int) = ((m * 2 ^ (e - 30).toNat).natAbs : Int) := by rw [Int.natAbs_mul, Int.natAbs_pow]; rfl
              constructor
              · intro h
                have := ((fltOk_range h).2.2.2.2 hz).2
                omega
              · intro h
                exact fltOk_of ht c0 (by omega) (by omega)
            rw [hv]
            obtain ⟨B, e3⟩ : ∃ B, decide (-65535 ≤ m * 2 ^ (e - 30).toNat ∧ m * 2 ^ (e - 30).toNat ≤ 65535) = B := ⟨_, rfl⟩
            rw [e3]
            have hi3 : 30 < e := by omega
            have hi2 : decide (e ≤ 30) = false := by simpa using hi
            generalize m * 2 ^ (e - 30).toNat = p at *
            clear hv hm c0 c1 hp hp2 hi
            go_enter Try.func45, Try.ntmps45
            go_wp2_with (go_at_call 56; refine (in_any _ _ _ _).mono ?_; rintro r w' ⟨rfl, rfl⟩)
            go_ret
            exact ⟨rfl, fbox _ _⟩
        · have e2 : decide (-16 ≤ e ∧ e ≤ 45) = false := by simpa using he
          rw [show fltOk m e = false by rw [Bool.eq_false_iff]; intro h; have := fltOk_range h; omega]
          clear hm he
          go_enter Try.func45, Try.ntmps45
          go_wp2_with (go_at_call 56; refine (in_any _ _ _ _).mono ?_; rintro r w' ⟨rfl, rfl⟩)
          go_ret
          exact ⟨rfl, fbox _ _⟩
    · have e1 : decide (-65535 ≤ m ∧ m ≤ 65535) = false := by simpa using hm
      rw [show fltOk m e = false by rw [Bool.eq_false_iff]; intro h; have := fltOk_range h; omega]
      clear hm
      go_enter Try.func45, Try.ntmps45
      go_wp2_with (go_at_call 56; refine (in_any _ _ _ _).mono ?_; rintro r w' ⟨rfl, rfl⟩)
      go_ret
      exact ⟨rfl, fbox _ _⟩
end Go.Proofs.Ytilgncebhgplaaa
/- What FltNew of the program and of the model returns: the number's one valid form, or none where there is none. -/
namespace Go.Proofs.Ytilgncebhgplaaa
open Go.RowKit
theorem fcell {W w1 : World} (hb : Below W.heap.size W w1) : (∀ b o, b < W.heap.size → w1.cell? ⟨b, o, none⟩ = W.cell? ⟨b, o, none⟩) ∧ (∀ b o, b < W.heap.size → w1.frozen? ⟨b, o, none⟩ = W.frozen? ⟨b, o, none⟩) :=
  ⟨fun b o h => hb.cell (p := ⟨b, o, none⟩) h, fun b o h => hb.frozen (p := ⟨b, o, none⟩) h⟩
def FNewPost (m e : Int) (w : World) (r : Ending) (w' : World) : Prop := ∃ (M E : Int) (ok : Bool), r = .returned (.tuple #[.agg #[.int .i64 M, .int .i64 E], .bool ok]) ∧ IsFlt m e M E ok ∧ Below w.heap.size w w'

end Go.Proofs.Ytilgncebhgplaaa
/- What FltDec of the program and of the model returns: the same number as a decimal number. -/
namespace Go.Proofs.Ytilgncebhgplaaa
open Go.RowKit
theorem shl_of {m e : Int} (he : 0 ≤ e) (h2 : e ≤ 64) (h : (m * 2 ^ e.toNat).natAbs < 9223372036854775808) : Op.shift .shl .i64 m .i64 e = pure (.int .i64 (m * 2 ^ e.toNat)) := by
  rw [shift_shl_any _ _ _ _ he, show min e.toNat (IntKind.bits .i64) = e.toNat from Nat.min_eq_left (by show _ ≤ 64; omega), IntWalk.i64_in _ (by omega)]
theorem high_bound {m e : Int} (h : fltOk m e = true) (he : 0 ≤ e) : (m * 2 ^ e.toNat).natAbs < 70368744177664 := by
  have h1 := flt_small h he
  rw [Int.natAbs_mul, Int.natAbs_pow]
  exact h1
theorem high_wrap {m e : Int} (h : fltOk m e = true) (he : 0 ≤ e) : wrap64 (m * 2 ^ e.toNat) = m * 2 ^ e.toNat := by
  have := high_bound h he
  exact IntWalk.wrap64_in _ (by omega)
theorem pow5 {k : Int} (h0 : 0 ≤ k) (h1 : k ≤ 17) : powV 5 k = 5 ^ k.toNat := by unfold powV; rw [if_pos ⟨by decide, h0, h1⟩]
def FDecPost (m e : Int) (w : World) (r : Ending) (w' : World) : Prop := r = .returned (.agg #[.int .i64 (decFN m e), .int .i64 (decFX m e)]) ∧ Below w.heap.size w w'
set_option maxRecDepth 100000 in
set_option maxHeartbeats 2000000 in
theorem fltdec_impl (m e : Int) (w : World) (h0 : -9223372036854775808 ≤ m) (h1 : m ≤ 9223372036854775807) (k0 : -9223372036854775808 ≤ e) (k1 : e ≤ 9223372036854775807) :
    Calls Try.prog 53 #[.agg #[.int .i64 m, .int .i64 e]] w (FDecPost m e w) := by
  obtain ⟨W0, hW⟩ : ∃ W0 : World, W0 = (w.alloc (.cells #[.int .i64 m, .int .i64 e] 58)).alloc (.cells #[.int .i64 0, .int .i64 0] 60) := ⟨_, rfl⟩
  have hcells : ∀ W', Below W0.heap.size W0 W' → W'.cell? ⟨w.heap.size, 0, none⟩ = some (.int .i64 m) ∧ W'.cell? ⟨w.heap.size, 1, none⟩ = some (.int .i64 e) ∧ W'.cell? ⟨w.heap.size + 1, 0, none⟩ = some (.int .i64 0) ∧ W'.cell? ⟨w.heap.size + 1, 1, none⟩ = some (.int .i64 0) ∧ W'.frozen? ⟨w.heap.size + 1, 0, none⟩ = false ∧ W'.frozen? ⟨w.heap.size + 1, 1, none⟩ = false := fun W' hb => by
    subst hW
    exact ⟨(hb.cell (p := ⟨w.heap.size, 0, none⟩) (by simp; omega)).trans (by simp [go_sem]), (hb.cell (p := ⟨w.heap.size, 1, none⟩) (by simp; omega)).trans (by simp [go_sem]), (hb.cell (p := ⟨w.heap.size + 1, 0, none⟩) (by simp)).trans (by simp [go_sem]), (hb.cell (p := ⟨w.heap.size + 1, 1, none⟩) (by simp)).trans (by simp [go_sem]), (hb.frozen (p := ⟨w.heap.size + 1, 0, none⟩) (by simp)).trans (by simp [go_sem]), (hb.frozen (p := ⟨w.heap.size + 1, 1, none⟩) (by simp)).trans (by simp [go_sem])⟩
  have hend : ∀ W', Below W0.heap.size W0 W' → Below w.heap.size w W' := fun W' hb => by
    subst hW
    exact ((Below.refl _ _).alloc (Nat.le_refl _) _).alloc (by simp) _ |>.trans (hb.mono (by simp; omega))
  have hsz : W0.heap.size = w.heap.size + 2 := by subst hW; simp
  have hB := Below.refl W0.heap.size W0
  have hN := Nat.le_refl W0.heap.size
  have cok := relCall (fun W => fltok_impl m e W h0 h1 k0 k1) (N := W0.heap.size) (W0 := W0)
  unfold FDecPost
  cases hv : fltOk m e
  · rw [hv] at cok
    rw [(decF_bad hv).1, (decF_bad hv).2]
    clear h0 h1 k0 k1
    go_enter Try.func53, Try.ntmps53
    go_wp2_with fail
    rw [← hW]
    refine (cok _ hB hN).mono ?_
    rintro r w1 ⟨rfl, hb, hn⟩
    obtain ⟨f0, f1, r0, r1, z0, z1⟩ := hcells _ hb
    go_wp2
    refine bodyPost_ret (v := .agg #[.int .i64 0, .int .i64 0]) (by simp [results, Try.results53, go_sem, r0, r1]) rfl ⟨rfl, ?_⟩
    exact ((hend _ hb).setCell (by simp) _).setCell (by simp) _
  · rw [hv] at cok
    obtain ⟨a0, a1, a2, a3, a4⟩ := fltOk_range hv
    by_cases he : 0 ≤ e
    · have hs := shl_of (m := m) he (by omega) (by have := flt_small hv he; rw [Int.natAbs_mul, Int.natAbs_pow]; exact Nat.lt_trans this (by decide))
      rw [(decF_high hv he).1, (decF_high hv he).2]
      have hw := high_wrap hv he
      clear h0 h1 k0 k1 a3 a4 hv
      go_enter Try.func53, Try.ntmps53
      go_wp2_with fail
      rw [← hW]
      refine (cok _ hB hN).mono ?_
      rintro r w1 ⟨rfl, hb, hn⟩
      obtain ⟨f0, f1, r0, r1, z0, z1⟩ := hcells _ hb
      go_wp2
      refine bodyPost_ret (v := .agg #[.int .i64 (m * 2 ^ e.toNat), .int .i64 0]) (by simp [results, Try.results53, go_sem, r0, r1]) rfl ⟨rfl, ?_⟩
      exact ((hend _ hb).setCell (by simp) _).setCell (by simp) _
    · have hlt := five_le hv (by omega)
      have cp := relCall (fun W => pow_impl 5 (-e) W) (N := W0.heap.size) (W0 := W0)
      rw [pow5 (by omega) (by omega)] at cp
      rw [(decF_low hv (by omega)).1, (decF_low hv (by omega)).2]
      have hmul : IntKind.i64.wrap (m * 5 ^ (-e).toNat) = m * 5 ^ (-e).toNat := by
        have h2 : (m * 5 ^ (-e).toNat).natAbs < 100000000000000000 := by rw [Int.natAbs_mul, Int.natAbs_pow]; exact hlt
        exact IntWalk.i64_in _ (by omega)
      have hp : (5 : Int) ^ (-e).toNat ≤ 152587890625 := by
        have h1 : 5 ^ (-e).toNat ≤ 5 ^ 16 := Nat.pow_le_pow_right (by decide) (by omega)
        have h2 : ((5 ^ (-e).toNat : Nat) : Int) = (5 : Int) ^ (-e).toNat := by rw [Int.natCast_pow]; rfl
        omega
      have hp0 : (0 : Int) < 5 ^ (-e).toNat := Int.pow_pos (by decide)
      generalize (5 : Int) ^ (-e).toNat = v at *
      have hm0 : -65535 ≤ m := by omega
      have hm1 : m ≤ 65535 := by omega
      have he2 : e < 0 := by omega
      have hneg : IntKind.i64.wrap (-e) = -e := IntWalk.i64_in _ (by omega)
      clear h0 h1 k0 k1 a2 a3 a4 hv hlt he
      go_enter Try.func53, Try.ntmps53
      go_wp2_with fail
      rw [← hW]
      refine (cok _ hB hN).mono ?_
      clear hB hN
      rintro r w1 ⟨rfl, hB, hN⟩
      obtain ⟨f0, f1, r0, r1, z0, z1⟩ := hcells _ hB
      go_wp2_with fail
      go_region_with ((first | (go_at_call 61; refine (cp _ (Below.drew hB) hN).mono ?_; rintro r w2 ⟨rfl, hB2, hN2⟩; obtain ⟨f0', f1', r0', r1', z0', z1'⟩ := hcells _ hB2)))
      all_goals
        go_wp2
        refine bodyPost_ret (v := .agg #[.int .i64 (m * v), .int .i64 e]) (by simp [results, Try.results53, go_sem, r0', r1']) rfl ⟨rfl, ?_⟩
        exact ((hend _ hB2).setCell (by simp) _).setCell (by simp) _
end Go.Proofs.Ytilgncebhgplaaa
