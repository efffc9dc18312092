import Derived.Test.YtnikcgmbkmbloaaG1
import Derived.Test.YtnikcgmbkmbloaaG3
import Derived.Test.YtnikcgmbkmbloaaG4
/- The order of trees (plain): what a comparison returns, by kind, numbers, bytes, elements. -/
namespace Go.Proofs.Ytnikcgmbkmbloaa
open Go.RowKit
def cmpI (a b : Int) : Int := if a < b then -1 else if b < a then 1 else 0
def cmpS (s t : List UInt8) : Int := if Op.bytesLess s t then -1 else if s = t then 0 else 1
def orI (a b : Int) : Int := if a = 0 then b else a
def byV (l r : Bool) : Int := if l then -1 else if r then 1 else 0
def plainV (_k n x m y : Int) : Int := orI (cmpI n m) (cmpI x y)
def numV (k n x m y : Int) : Int :=
  if (k == 4 && fltOk n x && fltOk m y) = true then byV (lessF n x m y) (lessF m y n x)
  else if (k == 6 && decOk n x && decOk m y) = true then byV (lessB n x m y) (lessB m y n x) else plainV k n x m y
/-- a way to compare two values' numbers, of one kind -/
abbrev NumF := Int → Int → Int → Int → Int → Int
def hdV (f : NumF) (k n x : Int) (s : List UInt8) (k' n' x' : Int) (s' : List UInt8) : Int := orI (cmpI k k') (orI (f k n x n' x') (cmpS s s'))
mutual
def PT.cmp (f : NumF) : PT → PT → Int
  | .mk k n x s l, .mk k' n' x' s' l' => orI (hdV f k n x s k' n' x' s') (PT.cmpL f l l')
def PT.cmpL (f : NumF) : List PT → List PT → Int
  | [], [] => 0
  | [], _ :: _ => -1
  | _ :: _, [] => 1
  | t :: l, u :: m => orI (t.cmp f u) (PT.cmpL f l m)
end
/-- -1, 0 or 1 -/
def Sgn (a : Int) : Prop := a = -1 ∨ a = 0 ∨ a = 1
theorem orI_zero (b : Int) : orI 0 b = b := rfl
theorem orI_ne {a : Int} (h : a ≠ 0) (b : Int) : orI a b = a := if_neg h
theorem sgn_cmpI (a b : Int) : Sgn (cmpI a b) := by unfold cmpI Sgn; split <;> (try split) <;> omega
theorem sgn_cmpS (a b : List UInt8) : Sgn (cmpS a b) := by unfold cmpS Sgn; split <;> (try split) <;> omega
theorem sgn_or {a b : Int} (h : Sgn a) (k : Sgn b) : Sgn (orI a b) := by unfold orI; split <;> assumption
theorem sgn_byV (l r : Bool) : Sgn (byV l r) := by cases l <;> cases r <;> simp [byV, Sgn]
theorem sgn_plain (k n x m y : Int) : Sgn (plainV k n x m y) := sgn_or (sgn_cmpI _ _) (sgn_cmpI _ _)
theorem sgn_num (k n x m y : Int) : Sgn (numV k n x m y) := by
  unfold numV; split
  · exact sgn_byV _ _
  · split
    · exact sgn_byV _ _
    · exact sgn_plain _ _ _ _ _
theorem cmpI_zero {a b : Int} : cmpI a b = 0 ↔ a = b := by unfold cmpI; split <;> (try split) <;> omega
theorem cmpI_anti (a b : Int) : cmpI b a = -cmpI a b := by unfold cmpI; repeat' split <;> omega
theorem cmpI_neg {a b : Int} : cmpI a b < 0 ↔ a < b := by unfold cmpI; split <;> (try split) <;> omega
theorem or_zero {a b : Int} : orI a b = 0 ↔ a = 0 ∧ b = 0 := by unfold orI; split <;> omega
theorem or_neg {a b : Int} : orI a b < 0 ↔ a < 0 ∨ (a = 0 ∧ b < 0) := by unfold orI; split <;> omega
theorem or_anti {a b a' b' : Int} (h : a' = -a) (k : a = 0 → b' = -b) : orI a' b' = -orI a b := by
  unfold orI
  by_cases h0 : a = 0
  · rw [if_pos (by omega), if_pos h0]; exact k h0
  · rw [if_neg (by omega), if_neg h0]; exact h
theorem bl_irrefl (s : List UInt8) : Op.bytesLess s s = false := by
  induction s with
  | nil => rfl
  | cons a s ih => simp [Op.bytesLess, ih]
theorem bl_tri (s t : List UInt8) : s ≠ t → Op.bytesLess s t = !Op.bytesLess t s := by
  induction s generalizing t with
  | nil => cases t with
    | nil => intro h; exact absurd rfl h
    | cons b t => intro _; rfl
  | cons a s ih =>
    cases t with
    | nil => intro _; rfl
    | cons b t =>
      intro h
      simp only [Op.bytesLess]
      by_cases hab : a = b
      · subst hab
        have : s ≠ t := fun e => h (by rw [e])
        simp [ih t this]
      · have hba : b ≠ a := fun e => hab e.symm
        rcases UInt8.lt_or_lt_of_ne hab with hl | hl
        · have hn : ¬ b < a := UInt8.lt_asymm hl
          simp [hl, hn, hab, hba]
        · have hn : ¬ a < b := UInt8.lt_asymm hl
          simp [hl, hn, hab, hba]
theorem bl_trans (s t u : List UInt8) : Op.bytesLess s t = true → Op.bytesLess t u = true → Op.bytesLess s u = true := by
  induction s generalizing t u with
  | nil => cases t with
    | nil => intro h; cases h
    | cons b t => cases u with
      | nil => intro _ h; cases h
      | cons c u => intro _ _; rfl
  | cons a s ih =>
    cases t with
    | nil => intro h; cases h
    | cons b t => cases u with
      | nil => intro _ h; cases h
      | cons c u =>
        simp only [Op.bytesLess, Bool.or_eq_true, decide_eq_true_eq, Bool.and_eq_true, beq_iff_eq]
        rintro (h1 | ⟨rfl, h1⟩) (h2 | ⟨rfl, h2⟩)
        · exact .inl (UInt8.lt_trans h1 h2)
        · exact .inl h1
        · exact .inl h2
        · exact .inr ⟨rfl, ih t u h1 h2⟩
theorem cmpS_zero {s t : List UInt8} : cmpS s t = 0 ↔ s = t := by
  unfold cmpS
  by_cases h : s = t
  · subst h; rw [bl_irrefl]; simp
  · cases hb : Op.bytesLess s t <;> simp [h]
theorem cmpS_anti (s t : List UInt8) : cmpS t s = -cmpS s t := by
  by_cases h : s = t
  · subst h; simp [cmpS, bl_irrefl]
  · have h2 : t ≠ s := fun e => h e.symm
    have := bl_tri s t h
    unfold cmpS
    cases hb : Op.bytesLess t s <;> simp [this, hb, h, h2]
theorem cmpS_neg {s t : List UInt8} : cmpS s t < 0 ↔ Op.bytesLess s t = true := by
  unfold cmpS
  cases hb : Op.bytesLess s t
  · by_cases h : s = t <;> simp [h]
  · simp
theorem lessF_anti {n x N X : Int} : ¬ (lessF n x N X = true ∧ lessF N X n x = true) := by
  rintro ⟨h, k⟩
  simp only [lessF, Bool.and_eq_true] at h k
  exact less_anti ⟨h.2, k.2⟩
theorem byV_anti {l r : Bool} (h : ¬ (l = true ∧ r = true)) : byV r l = -byV l r := by cases l <;> cases r <;> simp_all [byV]
theorem plain_anti (k n x m y : Int) : plainV k m y n x = -plainV k n x m y := or_anti (cmpI_anti _ _) (fun _ => cmpI_anti _ _)
theorem num_anti (k n x m y : Int) : numV k m y n x = -numV k n x m y := by
  unfold numV
  rw [show (k == 4 && fltOk m y && fltOk n x) = (k == 4 && fltOk n x && fltOk m y) by rw [Bool.and_assoc, Bool.and_assoc, Bool.and_comm (fltOk m y)], show (k == 6 && decOk m y && decOk n x) = (k == 6 && decOk n x && decOk m y) by rw [Bool.and_assoc, Bool.and_assoc, Bool.and_comm (decOk m y)]]
  split
  · exact byV_anti lessF_anti
  · split
    · exact byV_anti less_anti
    · exact plain_anti _ _ _ _ _
theorem plain_zero {k n x m y : Int} : plainV k n x m y = 0 ↔ n = m ∧ x = y := by unfold plainV; rw [or_zero, cmpI_zero, cmpI_zero]
theorem plain_refl (k n x : Int) : plainV k n x n x = 0 := plain_zero.2 ⟨rfl, rfl⟩
theorem byV_refl {l : Bool} (h : ¬ (l = true ∧ l = true)) : byV l l = 0 := by cases l <;> simp_all [byV]
theorem num_refl (k n x : Int) : numV k n x n x = 0 := by
  unfold numV; split
  · exact byV_refl lessF_anti
  · split
    · exact byV_refl less_anti
    · exact plain_refl _ _ _
/-- of numbers that the values of the kind may have, two are alike only if they are one -/
theorem num_zero {k n x m y : Int} (h : numV k n x m y = 0) : n = m ∧ x = y := by
  unfold numV at h
  split at h
  · rename_i hc
    simp only [Bool.and_eq_true] at hc
    have ht := lessF_tri hc.1.2 hc.2
    by_cases hq : n = m ∧ x = y
    · exact hq
    · have := ht.2 hq
      cases h1 : lessF n x m y <;> cases h2 : lessF m y n x <;> simp_all [byV]
  · split at h
    · rename_i hc
      simp only [Bool.and_eq_true] at hc
      have ht := less_tri hc.1.2 hc.2
      by_cases hq : n = m ∧ x = y
      · exact hq
      · have := ht.2 hq
        cases h1 : lessB n x m y <;> cases h2 : lessB m y n x <;> simp_all [byV]
    · exact plain_zero.1 h
/-- what is asked of a way to compare numbers -/
structure NumOk (f : NumF) : Prop where
  sgn : ∀ k n x m y, Sgn (f k n x m y)
  anti : ∀ k n x m y, f k m y n x = -f k n x m y
  zero : ∀ k n x m y, f k n x m y = 0 → n = m ∧ x = y
  refl : ∀ k n x, f k n x n x = 0
theorem numOk : NumOk numV := ⟨sgn_num, num_anti, fun _ _ _ _ _ => num_zero, num_refl⟩
theorem plainOk : NumOk plainV := ⟨sgn_plain, plain_anti, fun _ _ _ _ _ => plain_zero.1, plain_refl⟩
theorem hd_sgn {f : NumF} (hf : NumOk f) (k n x : Int) (s : List UInt8) (k' n' x' : Int) (s' : List UInt8) : Sgn (hdV f k n x s k' n' x' s') := sgn_or (sgn_cmpI _ _) (sgn_or (hf.sgn _ _ _ _ _) (sgn_cmpS _ _))
theorem hd_anti {f : NumF} (hf : NumOk f) (k n x : Int) (s : List UInt8) (k' n' x' : Int) (s' : List UInt8) : hdV f k' n' x' s' k n x s = -hdV f k n x s k' n' x' s' := by
  refine or_anti (cmpI_anti _ _) fun h => ?_
  obtain rfl := cmpI_zero.1 h
  exact or_anti (hf.anti _ _ _ _ _) (fun _ => cmpS_anti _ _)
theorem hd_zero {f : NumF} (hf : NumOk f) {k n x : Int} {s : List UInt8} {k' n' x' : Int} {s' : List UInt8} : hdV f k n x s k' n' x' s' = 0 ↔ k = k' ∧ n = n' ∧ x = x' ∧ s = s' := by
  unfold hdV
  rw [or_zero, or_zero, cmpI_zero, cmpS_zero]
  constructor
  · rintro ⟨rfl, h, rfl⟩
    obtain ⟨rfl, rfl⟩ := hf.zero _ _ _ _ _ h
    exact ⟨rfl, rfl, rfl, rfl⟩
  · rintro ⟨rfl, rfl, rfl, rfl⟩
    exact ⟨rfl, hf.refl _ _ _, rfl⟩
theorem cmp_sgn {f : NumF} (hf : NumOk f) (t u : PT) : Sgn (t.cmp f u) := by
  induction t using PT.ind generalizing u with
  | h k n x s l ih =>
    obtain ⟨k', n', x', s', m⟩ := u
    simp only [PT.cmp]
    refine sgn_or (hd_sgn hf _ _ _ _ _ _ _ _) ?_
    induction l generalizing m with
    | nil => cases m <;> simp [PT.cmpL, Sgn]
    | cons t l ihl =>
      cases m with
      | nil => simp [PT.cmpL, Sgn]
      | cons u m => exact sgn_or (ih t (by simp) u) (ihl (fun u hu => ih u (by simp [hu])) m)
theorem cmpL_sgn {f : NumF} (hf : NumOk f) (l m : List PT) : Sgn (PT.cmpL f l m) := by
  induction l generalizing m with
  | nil => cases m <;> simp [PT.cmpL, Sgn]
  | cons t l ihl =>
    cases m with
    | nil => simp [PT.cmpL, Sgn]
    | cons u m => exact sgn_or (cmp_sgn hf t u) (ihl m)
theorem cmp_anti {f : NumF} (hf : NumOk f) (t u : PT) : u.cmp f t = -t.cmp f u := by
  induction t using PT.ind generalizing u with
  | h k n x s l ih =>
    obtain ⟨k', n', x', s', m⟩ := u
    simp only [PT.cmp]
    refine or_anti (hd_anti hf _ _ _ _ _ _ _ _) fun _ => ?_
    induction l generalizing m with
    | nil => cases m <;> simp [PT.cmpL]
    | cons t l ihl =>
      cases m with
      | nil => simp [PT.cmpL]
      | cons u m => exact or_anti (ih t (by simp) u) (fun _ => ihl (fun u hu => ih u (by simp [hu])) m)
theorem cmp_zero {f : NumF} (hf : NumOk f) {t u : PT} : t.cmp f u = 0 ↔ t = u := by
  induction t using PT.ind generalizing u with
  | h k n x s l ih =>
    obtain ⟨k', n', x', s', m⟩ := u
    have hl : PT.cmpL f l m = 0 ↔ l = m := by
      induction l generalizing m with
      | nil => cases m <;> simp [PT.cmpL]
      | cons t l ihl =>
        cases m with
        | nil => simp [PT.cmpL]
        | cons u m =>
          simp only [PT.cmpL]
          rw [or_zero, ih t (by simp), ihl (fun u hu => ih u (by simp [hu])) m, List.cons.injEq]
    simp only [PT.cmp]
    rw [or_zero, hd_zero hf, hl, PT.mk.injEq]
    constructor
    · rintro ⟨⟨a, b, c, d⟩, e⟩; exact ⟨a, b, c, d, e⟩
    · rintro ⟨a, b, c, d, e⟩; exact ⟨⟨a, b, c, d⟩, e⟩
theorem cmp_refl {f : NumF} (hf : NumOk f) (t : PT) : t.cmp f t = 0 := (cmp_zero hf).2 rfl
/-- is less -/
def PT.less (t u : PT) : Bool := decide (t.cmp numV u < 0)
theorem less_asym (t u : PT) : ¬ (t.less u = true ∧ u.less t = true) := by
  unfold PT.less
  rw [cmp_anti numOk t u]
  simp only [decide_eq_true_eq]
  omega
theorem less_one (t u : PT) : (t.less u || u.less t) = !t.same u := by
  have hs := cmp_sgn numOk t u
  have hz := cmp_zero numOk (t := t) (u := u)
  unfold PT.less
  rw [cmp_anti numOk t u]
  cases h : t.same u
  · have : t ≠ u := fun e => by rw [e, ptsame_refl] at h; cases h
    have h0 : t.cmp numV u ≠ 0 := fun e => this (hz.1 e)
    unfold Sgn at hs
    simp; omega
  · have h0 := hz.2 (ptsame_true h)
    simp [h0]
/-- lists of trees: the first i pairs are the same, the pair i is not -/
theorem cmpL_at (f : NumF) (l m : List PT) (i : Nat) (h1 : i < l.length) (h2 : i < m.length) (h : l.take i = m.take i) (hf : NumOk f) (hne : (l[i]).cmp f m[i] ≠ 0) : PT.cmpL f l m = (l[i]).cmp f m[i] := by
  induction l generalizing m i with
  | nil => simp at h1
  | cons t l ih =>
    cases m with
    | nil => simp at h2
    | cons u m =>
      cases i with
      | zero => exact orI_ne hne _
      | succ i =>
        simp only [List.take_succ_cons, List.cons.injEq] at h
        obtain ⟨rfl, h⟩ := h
        simp only [PT.cmpL, cmp_refl hf, orI_zero]
        exact ih m i (by simpa using h1) (by simpa using h2) h (by simpa using hne)
theorem cmpL_end (f : NumF) (l m : List PT) (hf : NumOk f) (h : l.take (min l.length m.length) = m.take (min l.length m.length)) : PT.cmpL f l m = cmpI l.length m.length := by
  induction l generalizing m with
  | nil => cases m with
    | nil => rfl
    | cons u m => simp only [PT.cmpL, cmpI, List.length_nil, List.length_cons]; rw [if_pos (by omega)]
  | cons t l ih =>
    cases m with
    | nil => simp only [PT.cmpL, cmpI, List.length_nil, List.length_cons]; rw [if_neg (by omega), if_pos (by omega)]
    | cons u m =>
      simp only [List.length_cons, Nat.add_min_add_right, List.take_succ_cons, List.cons.injEq] at h
      obtain ⟨rfl, h⟩ := h
      simp only [PT.cmpL, cmp_refl hf, orI_zero]
      rw [ih m h]
      unfold cmpI
      simp only [List.length_cons]
      repeat' split <;> omega
end Go.Proofs.Ytnikcgmbkmbloaa
/- The order by plain numbers is an order: transitive. -/
namespace Go.Proofs.Ytnikcgmbkmbloaa
open Go.RowKit
theorem or_trans {a a2 b b2 c c2 : Int} (h1 : a < 0 → b < 0 → c < 0) (h2 : a = 0 → b < 0 → c < 0) (h3 : a < 0 → b = 0 → c < 0) (h4 : a = 0 → b = 0 → c = 0 ∧ (a2 < 0 → b2 < 0 → c2 < 0)) : orI a a2 < 0 → orI b b2 < 0 → orI c c2 < 0 := by
  rw [or_neg, or_neg, or_neg]
  rintro (ha | ⟨ha, ha2⟩) (hb | ⟨hb, hb2⟩)
  · exact .inl (h1 ha hb)
  · exact .inl (h3 ha hb)
  · exact .inl (h2 ha hb)
  · obtain ⟨hc, hk⟩ := h4 ha hb
    exact .inr ⟨hc, hk ha2 hb2⟩
theorem orI_trans {x y z a2 b2 c2 : Int} (h : x = y → y = z → a2 < 0 → b2 < 0 → c2 < 0) : orI (cmpI x y) a2 < 0 → orI (cmpI y z) b2 < 0 → orI (cmpI x z) c2 < 0 := by
  refine or_trans ?_ ?_ ?_ ?_
  · rw [cmpI_neg, cmpI_neg, cmpI_neg]; omega
  · rw [cmpI_zero, cmpI_neg, cmpI_neg]; omega
  · rw [cmpI_zero, cmpI_neg, cmpI_neg]; omega
  · rw [cmpI_zero, cmpI_zero, cmpI_zero]; exact fun e e2 => ⟨e.trans e2, h e e2⟩
theorem cmpS_trans {s t u : List UInt8} (h : cmpS s t < 0) (k : cmpS t u < 0) : cmpS s u < 0 := cmpS_neg.2 (bl_trans s t u (cmpS_neg.1 h) (cmpS_neg.1 k))
/-- a transitive way to compare numbers -/
def NumTr (f : NumF) : Prop := ∀ k n x m y p q, f k n x m y < 0 → f k m y p q < 0 → f k n x p q < 0
theorem plain_tr : NumTr plainV := fun k n x m y p q => orI_trans fun _ _ h1 h2 => cmpI_neg.2 (by have := cmpI_neg.1 h1; have := cmpI_neg.1 h2; omega)
theorem hd_trans {f : NumF} (hf : NumOk f) (ht : NumTr f) {k n x : Int} {s : List UInt8} {k2 n2 x2 : Int} {s2 : List UInt8} {k3 n3 x3 : Int} {s3 : List UInt8} : hdV f k n x s k2 n2 x2 s2 < 0 → hdV f k2 n2 x2 s2 k3 n3 x3 s3 < 0 → hdV f k n x s k3 n3 x3 s3 < 0 := by
  unfold hdV
  refine orI_trans ?_
  rintro rfl rfl
  refine or_trans (ht _ _ _ _ _ _ _) ?_ ?_ ?_
  · intro h; obtain ⟨rfl, rfl⟩ := hf.zero _ _ _ _ _ h; exact id
  · intro h h2; obtain ⟨rfl, rfl⟩ := hf.zero _ _ _ _ _ h2; exact h
  · intro h h2; obtain ⟨rfl, rfl⟩ := hf.zero _ _ _ _ _ h; obtain ⟨rfl, rfl⟩ := hf.zero _ _ _ _ _ h2; exact ⟨hf.refl _ _ _, cmpS_trans⟩
theorem cmp_trans {f : NumF} (hf : NumOk f) (ht : NumTr f) (t u v : PT) : t.cmp f u < 0 → u.cmp f v < 0 → t.cmp f v < 0 := by
  induction t using PT.ind generalizing u v with
  | h k n x s l ih =>
    obtain ⟨k2, n2, x2, s2, m⟩ := u
    obtain ⟨k3, n3, x3, s3, r⟩ := v
    have hl : PT.cmpL f l m < 0 → PT.cmpL f m r < 0 → PT.cmpL f l r < 0 := by
      clear k n x s k2 n2 x2 s2 k3 n3 x3 s3
      induction l generalizing m r with
      | nil =>
        cases m with
        | nil => intro h; simp [PT.cmpL] at h
        | cons u m => cases r with
          | nil => intro _ h; simp [PT.cmpL] at h
          | cons v r => intro _ _; simp [PT.cmpL]
      | cons t l ihl =>
        cases m with
        | nil => intro h; simp [PT.cmpL] at h
        | cons u m => cases r with
          | nil => intro _ h; simp [PT.cmpL] at h
          | cons v r =>
            simp only [PT.cmpL]
            refine or_trans (ih t (by simp) u v) ?_ ?_ ?_
            · intro h; rw [(cmp_zero hf).1 h]; exact id
            · intro h h2; rw [← (cmp_zero hf).1 h2]; exact h
            · intro h h2; rw [(cmp_zero hf).1 h, (cmp_zero hf).1 h2]; exact ⟨cmp_refl hf _, ihl (fun w hw => ih w (by simp [hw])) m r⟩
    simp only [PT.cmp]
    refine or_trans (hd_trans hf ht) ?_ ?_ ?_
    · intro h; obtain ⟨rfl, rfl, rfl, rfl⟩ := (hd_zero hf).1 h; exact id
    · intro h h2; obtain ⟨rfl, rfl, rfl, rfl⟩ := (hd_zero hf).1 h2; exact h
    · intro h h2; obtain ⟨rfl, rfl, rfl, rfl⟩ := (hd_zero hf).1 h; obtain ⟨rfl, rfl, rfl, rfl⟩ := (hd_zero hf).1 h2; exact ⟨(hd_zero hf).2 ⟨rfl, rfl, rfl, rfl⟩, hl⟩
theorem cmp_ntrans {f : NumF} (hf : NumOk f) (ht : NumTr f) (t u v : PT) (h : ¬ t.cmp f u < 0) (k : ¬ u.cmp f v < 0) : ¬ t.cmp f v < 0 := by
  have a1 := cmp_anti hf t u
  have a2 := cmp_anti hf u v
  have a3 := cmp_anti hf t v
  rcases Int.lt_or_le (u.cmp f t) 0 with h1 | h1
  · rcases Int.lt_or_le (v.cmp f u) 0 with h2 | h2
    · have := cmp_trans hf ht v u t h2 h1; omega
    · have e := (cmp_zero hf).1 (show u.cmp f v = 0 by omega)
      rw [← e]; omega
  · have e := (cmp_zero hf).1 (show t.cmp f u = 0 by omega)
    rw [e]; omega
end Go.Proofs.Ytnikcgmbkmbloaa
