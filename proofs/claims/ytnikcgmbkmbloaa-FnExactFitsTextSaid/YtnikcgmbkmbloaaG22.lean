import Derived.Test.YtnikcgmbkmbloaaG21
import Derived.Test.YtnikcgmbkmbloaaRows
/- A number's text cut out of its surroundings is read as the same number; the text of a decimal number is read as that number. No program. -/
namespace Go.Proofs.Ytnikcgmbkmbloaa
open Go
theorem cut_at {l : List UInt8} {i N j : Nat} (hN : N ≤ l.length) : (cut l i N)[j]? = if i + j < N then l[i + j]? else none := by
  unfold cut
  by_cases h : i + j < N
  · rw [if_pos h, List.getElem?_take_of_lt (by omega), List.getElem?_drop]
  · rw [if_neg h, List.getElem?_take, if_neg (by omega)]
theorem cut_atC {l : List UInt8} {i N j : Nat} {c : UInt8} (hN : N ≤ l.length) : atC (cut l i N) j c = (decide (i + j < N) && atC l (i + j) c) := by
  unfold atC
  rw [cut_at hN]
  by_cases h : i + j < N
  · rw [if_pos h, decide_eq_true h, Bool.true_and]
  · rw [if_neg h, decide_eq_false h, Bool.false_and]; rfl
theorem cut_atD {l : List UInt8} {i N j : Nat} (hN : N ≤ l.length) : atD (cut l i N) j = (decide (i + j < N) && atD l (i + j)) := by
  unfold atD
  rw [cut_at hN]
  by_cases h : i + j < N
  · rw [if_pos h, decide_eq_true h, Bool.true_and]
  · rw [if_neg h, decide_eq_false h, Bool.false_and]
theorem cut_dEnd {l : List UInt8} {i N j : Nat} (hN : N ≤ l.length) (h : dEnd l (i + j) ≤ N) : i + dEnd (cut l i N) j = dEnd l (i + j) := by
  generalize hn : N - (i + j) = n
  induction n generalizing j with
  | zero =>
    have h1 : dEnd (cut l i N) j = j := dEnd_stop (by rw [cut_atD hN, decide_eq_false (by omega)]; rfl)
    have := dEnd_ge l (i + j)
    omega
  | succ n ih =>
    cases hd : atD l (i + j)
    · rw [dEnd_stop hd, dEnd_stop (by rw [cut_atD hN, hd, Bool.and_false])]
    · have hge := dEnd_ge l (i + j + 1)
      rw [dEnd_step hd] at h ⊢
      rw [dEnd_step (by rw [cut_atD hN, hd, decide_eq_true (by omega)]; rfl)]
      exact ih (by rw [← Nat.add_assoc]; exact h) (by omega)
theorem cut_cut {l : List UInt8} {i N j k : Nat} (h : i + k ≤ N) : cut (cut l i N) j k = cut l (i + j) (i + k) := by
  unfold cut
  rw [List.drop_take, List.drop_drop, List.take_take]
  congr 1
  omega
theorem partsE_next {l : List UInt8} {neg : Bool} {W F : List UInt8} {a : Nat} (h : (partsE l neg W F a).ok = true) : a ≤ (partsE l neg W F a).next := by
  unfold partsE at h ⊢
  by_cases he : (atC l a 101 || atC l a 69) = true
  · rw [if_pos he] at h ⊢
    simp only at h ⊢
    generalize hj : (if (atC l (a + 1) 43 || atC l (a + 1) 45) = true then a + 2 else a + 1) = j at *
    have hja : a ≤ j := by rw [← hj]; split <;> omega
    by_cases hd : atD l j = true
    · rw [if_pos hd]; have := dEnd_ge l j; simp only; omega
    · rw [if_neg hd] at h; cases h
  · rw [if_neg he]; exact Nat.le_refl _
theorem partsF_next {l : List UInt8} {neg : Bool} {W : List UInt8} {a : Nat} (h : (partsF l neg W a).ok = true) : a ≤ (partsF l neg W a).next := by
  unfold partsF at h ⊢
  by_cases he : atC l a 46 = true
  · rw [if_pos he] at h ⊢
    by_cases hd : atD l (a + 1) = true
    · rw [if_pos hd] at h ⊢
      have := partsE_next h; have := dEnd_ge l (a + 1); omega
    · rw [if_neg hd] at h; cases h
  · rw [if_neg he] at h ⊢; exact partsE_next h
def shift (p : Parts) (i : Nat) : Parts := ⟨p.neg, p.eneg, p.whole, p.frac, p.exp, p.next - i, p.ok⟩
theorem partsE_cut {l : List UInt8} {neg : Bool} {W F : List UInt8} {i b N : Nat} (hN : N ≤ l.length) (h : (partsE l neg W F (i + b)).ok = true) (hn : (partsE l neg W F (i + b)).next = N) :
    partsE (cut l i N) neg W F b = shift (partsE l neg W F (i + b)) i := by
  unfold partsE at h hn ⊢
  by_cases he : (atC l (i + b) 101 || atC l (i + b) 69) = true
  · rw [if_pos he] at h hn ⊢
    simp only at h hn ⊢
    by_cases hs : (atC l (i + b + 1) 43 || atC l (i + b + 1) 45) = true
    · rw [if_pos hs] at h hn ⊢
      by_cases hd : atD l (i + b + 2) = true
      · rw [if_pos hd] at hn ⊢
        simp only at hn
        have hg := dEnd_ge l (i + b + 2 + 1)
        have hstep := dEnd_step hd
        have hlt : i + b + 2 < N := by omega
        rw [cut_atC hN, cut_atC hN, cut_atC hN, cut_atC hN, decide_eq_true (show i + b < N by omega), decide_eq_true (show i + (b + 1) < N by omega), Bool.true_and, Bool.true_and, Bool.true_and, Bool.true_and, if_pos he,
          ← Nat.add_assoc, if_pos hs, cut_atD hN, decide_eq_true (show i + (b + 2) < N by omega), Bool.true_and, ← Nat.add_assoc, if_pos hd]
        have e1 := cut_dEnd (l := l) (i := i) (N := N) (j := b + 2) hN (by rw [← Nat.add_assoc]; omega)
        rw [← Nat.add_assoc] at e1
        rw [cut_cut (by omega), ← Nat.add_assoc, e1]
        unfold shift
        simp only
        congr 1
        omega
      · rw [if_neg hd] at h; cases h
    · rw [if_neg hs] at h hn ⊢
      by_cases hd : atD l (i + b + 1) = true
      · rw [if_pos hd] at hn ⊢
        simp only at hn
        have hg := dEnd_ge l (i + b + 1 + 1)
        have hstep := dEnd_step hd
        have hlt : i + b + 1 < N := by omega
        rw [cut_atC hN, cut_atC hN, cut_atC hN, cut_atC hN, decide_eq_true (show i + b < N by omega), decide_eq_true (show i + (b + 1) < N by omega), Bool.true_and, Bool.true_and, Bool.true_and, Bool.true_and, if_pos he,
          ← Nat.add_assoc, if_neg hs, cut_atD hN, decide_eq_true (show i + (b + 1) < N by omega), Bool.true_and, ← Nat.add_assoc, if_pos hd]
        have e1 := cut_dEnd (l := l) (i := i) (N := N) (j := b + 1) hN (by rw [← Nat.add_assoc]; omega)
        rw [← Nat.add_assoc] at e1
        rw [cut_cut (by omega), ← Nat.add_assoc, e1]
        unfold shift
        simp only
        congr 1
        omega
      · rw [if_neg hd] at h; cases h
  · rw [if_neg he] at hn ⊢
    simp only at hn
    rw [cut_atC hN, cut_atC hN, decide_eq_false (show ¬ i + b < N by omega), Bool.false_and, Bool.false_and]
    rw [if_neg (by decide)]
    unfold shift
    simp only
    congr 1
    omega
theorem partsF_cut {l : List UInt8} {neg : Bool} {W : List UInt8} {i b N : Nat} (hN : N ≤ l.length) (h : (partsF l neg W (i + b)).ok = true) (hn : (partsF l neg W (i + b)).next = N) :
    partsF (cut l i N) neg W b = shift (partsF l neg W (i + b)) i := by
  unfold partsF at h hn ⊢
  by_cases he : atC l (i + b) 46 = true
  · rw [if_pos he] at h hn ⊢
    by_cases hd : atD l (i + b + 1) = true
    · rw [if_pos hd] at h hn ⊢
      have hle := partsE_next h
      rw [hn] at hle
      have hg := dEnd_ge l (i + b + 1 + 1)
      have hstep := dEnd_step hd
      rw [cut_atC hN, decide_eq_true (show i + b < N by omega), Bool.true_and, if_pos he, cut_atD hN, decide_eq_true (show i + (b + 1) < N by omega), Bool.true_and, ← Nat.add_assoc, if_pos hd]
      have e1 := cut_dEnd (l := l) (i := i) (N := N) (j := b + 1) hN (by rw [← Nat.add_assoc]; omega)
      rw [← Nat.add_assoc] at e1
      rw [cut_cut (by omega), ← Nat.add_assoc, e1]
      have := partsE_cut (i := i) (b := dEnd (cut l i N) (b + 1)) (neg := neg) (W := W) (F := cut l (i + b + 1) (dEnd l (i + b + 1))) hN (by rw [e1]; exact h) (by rw [e1]; exact hn)
      rw [e1] at this
      exact this
    · rw [if_neg hd] at h; cases h
  · rw [if_neg he] at h hn ⊢
    have e : atC (cut l i N) b 46 = false := by rw [cut_atC hN, show atC l (i + b) 46 = false by simpa using he, Bool.and_false]
    rw [e, if_neg (by decide)]
    exact partsE_cut hN h hn
theorem wEnd_gt {l : List UInt8} {a : Nat} (h : atD l a = true) : a < wEnd l a := by
  unfold wEnd
  have := dEnd_ge l (a + 1)
  have := dEnd_step h
  split <;> omega
theorem partsW_cut {l : List UInt8} {neg : Bool} {i b N : Nat} (hN : N ≤ l.length) (h : (partsW l neg (i + b)).ok = true) (hn : (partsW l neg (i + b)).next = N) :
    partsW (cut l i N) neg b = shift (partsW l neg (i + b)) i := by
  unfold partsW at h hn ⊢
  by_cases hd : atD l (i + b) = true
  · rw [if_pos hd] at h hn ⊢
    have hle := partsF_next h
    rw [hn] at hle
    have hg := wEnd_gt hd
    have e1 : i + wEnd (cut l i N) b = wEnd l (i + b) := by
      unfold wEnd at hle hg ⊢
      rw [cut_atC hN, decide_eq_true (show i + b < N by omega), Bool.true_and]
      by_cases hz : atC l (i + b) 48 = true
      · rw [if_pos hz, if_pos hz]; omega
      · rw [if_neg hz] at hle
        rw [if_neg hz, if_neg hz]; exact cut_dEnd hN hle
    rw [cut_atD hN, decide_eq_true (show i + b < N by omega), Bool.true_and, if_pos hd, cut_cut (by omega), e1]
    have := partsF_cut (i := i) (b := wEnd (cut l i N) b) (neg := neg) (W := cut l (i + b) (wEnd l (i + b))) hN (by rw [e1]; exact h) (by rw [e1]; exact hn)
    rw [e1] at this
    exact this
  · rw [if_neg hd] at h; cases h
theorem partsW_next {l : List UInt8} {neg : Bool} {a : Nat} (h : (partsW l neg a).ok = true) : a < (partsW l neg a).next := by
  unfold partsW at h ⊢
  by_cases hd : atD l a = true
  · rw [if_pos hd] at h ⊢
    have := partsF_next h; have := wEnd_gt hd; omega
  · rw [if_neg hd] at h; cases h
theorem parts_next {l : List UInt8} {i : Nat} (h : (parts l i).ok = true) : i < (parts l i).next := by
  unfold parts at h ⊢
  by_cases hd : atC l i 45 = true
  · rw [if_pos hd] at h ⊢; have := partsW_next h; omega
  · rw [if_neg hd] at h ⊢; exact partsW_next h
theorem parts_cut {l : List UInt8} {i N : Nat} (hN : N ≤ l.length) (h : (parts l i).ok = true) (hn : (parts l i).next = N) : parts (cut l i N) 0 = shift (parts l i) i := by
  have hlt := parts_next h
  rw [hn] at hlt
  unfold parts at h hn ⊢
  rw [cut_atC hN, Nat.add_zero, decide_eq_true hlt, Bool.true_and]
  by_cases hd : atC l i 45 = true
  · rw [if_pos hd] at h hn ⊢
    rw [if_pos hd]
    exact partsW_cut (b := 1) hN h hn
  · rw [if_neg hd] at h hn ⊢
    rw [if_neg hd]
    exact partsW_cut (b := 0) hN h hn
theorem partsE_le {l : List UInt8} {neg : Bool} {W F : List UInt8} {a : Nat} (ha : a ≤ l.length) : (partsE l neg W F a).next ≤ l.length := by
  unfold partsE
  by_cases he : (atC l a 101 || atC l a 69) = true
  · rw [if_pos he]
    simp only
    have ha1 : a + 1 ≤ l.length := by
      rw [Bool.or_eq_true] at he
      rcases he with he | he <;> have := atC_lt he <;> omega
    have hj : (if (atC l (a + 1) 43 || atC l (a + 1) 45) = true then a + 2 else a + 1) ≤ l.length := by
      by_cases hs : (atC l (a + 1) 43 || atC l (a + 1) 45) = true
      · rw [if_pos hs]
        rw [Bool.or_eq_true] at hs
        rcases hs with hs | hs <;> have := atC_lt hs <;> omega
      · rw [if_neg hs]; exact ha1
    generalize (if (atC l (a + 1) 43 || atC l (a + 1) 45) = true then a + 2 else a + 1) = j at *
    by_cases hd : atD l j = true
    · rw [if_pos hd]; exact dEnd_le hj
    · rw [if_neg hd]; exact hj
  · rw [if_neg he]; exact ha
theorem partsF_le {l : List UInt8} {neg : Bool} {W : List UInt8} {a : Nat} (ha : a ≤ l.length) : (partsF l neg W a).next ≤ l.length := by
  unfold partsF
  by_cases he : atC l a 46 = true
  · rw [if_pos he]
    have := atC_lt he
    split
    · exact partsE_le (dEnd_le (by omega))
    · exact this
  · rw [if_neg he]; exact partsE_le ha
theorem wEnd_le {l : List UInt8} {a : Nat} (ha : a ≤ l.length) : wEnd l a ≤ l.length := by
  unfold wEnd
  by_cases he : atC l a 48 = true
  · rw [if_pos he]; exact atC_lt he
  · rw [if_neg he]; exact dEnd_le ha
theorem partsW_le {l : List UInt8} {neg : Bool} {a : Nat} (ha : a ≤ l.length) : (partsW l neg a).next ≤ l.length := by
  unfold partsW
  split
  · exact partsF_le (wEnd_le ha)
  · exact ha
theorem parts_le {l : List UInt8} {i : Nat} (ha : i ≤ l.length) : (parts l i).next ≤ l.length := by
  unfold parts
  by_cases he : atC l i 45 = true
  · rw [if_pos he]; exact partsW_le (atC_lt he)
  · rw [if_neg he]; exact partsW_le ha
theorem readN_code {l : List UInt8} {i : Nat} (h : (readN l i).code = 0) : (parts l i).ok = true := by
  unfold readN numOf at h
  cases ho : (parts l i).ok
  · rw [ho, if_neg (by decide)] at h; cases h
  · rfl
theorem readN_next (l : List UInt8) (i : Nat) : (readN l i).next = (parts l i).next := by
  unfold readN numOf
  split
  · split <;> rfl
  · rfl
theorem readN_bad {l : List UInt8} {i : Nat} (h : ¬ (readN l i).code = 0) : (readN l i).n = 0 ∧ (readN l i).x = 0 := by
  unfold readN numOf at h ⊢
  split
  · rename_i ho
    rw [if_pos ho] at h
    split
    · rename_i hc
      rw [if_pos hc] at h; exact absurd rfl h
    · exact ⟨rfl, rfl⟩
  · exact ⟨rfl, rfl⟩
theorem readN_cut {l : List UInt8} {i : Nat} (hi : i ≤ l.length) (h : (readN l i).code = 0) : readN (cut l i (readN l i).next) 0 = ⟨(readN l i).n, (readN l i).x, (readN l i).next - i, 0⟩ := by
  have hok := readN_code h
  have hc := parts_cut (N := (parts l i).next) (parts_le hi) hok rfl
  rw [readN_next]
  unfold readN at h ⊢
  rw [hc]
  unfold numOf at h ⊢
  unfold shift
  simp only
  rw [if_pos hok] at h ⊢
  by_cases hq : (lead ((parts l i).whole ++ (parts l i).frac)).length ≤ 17 ∧ (parts l i).exp.length ≤ 3
  · rw [if_pos hq, if_pos hok, if_pos hq]
  · rw [if_neg hq] at h; cases h
theorem atC_app (a r : List UInt8) (c d : UInt8) : atC (a ++ c :: r) a.length d = (c == d) := by unfold atC; simp
theorem atC_nil (a : List UInt8) (d : UInt8) : atC a a.length d = false := atC_out (Nat.le_refl _)
theorem atD_app (a r : List UInt8) (c : UInt8) : atD (a ++ c :: r) a.length = isD c := by unfold atD; simp
theorem atD_nil (a : List UInt8) : atD a a.length = false := atD_out (Nat.le_refl _)
theorem dEnd_app (W : List UInt8) : ∀ (a t : List UInt8), (∀ c ∈ W, isD c = true) → atD (a ++ W ++ t) (a.length + W.length) = false → dEnd (a ++ W ++ t) a.length = a.length + W.length := by
  induction W with
  | nil => intro a t _ h; exact dEnd_stop h
  | cons c W ih =>
    intro a t hW h
    have e : a ++ c :: W ++ t = (a ++ [c]) ++ W ++ t := by simp
    have hd : atD (a ++ c :: W ++ t) a.length = true := by
      rw [List.append_assoc, List.cons_append, atD_app]; exact hW c List.mem_cons_self
    rw [dEnd_step hd, e]
    have := ih (a ++ [c]) t (fun x hx => hW x (List.mem_cons_of_mem _ hx)) (by rw [← e]; simp only [List.length_append, List.length_cons, List.length_nil] at h ⊢; rw [show a.length + (0 + 1) + W.length = a.length + (W.length + 1) by omega]; exact h)
    simp only [List.length_append, List.length_cons, List.length_nil] at this ⊢
    rw [show a.length + 1 = a.length + (0 + 1) by omega, this]; omega
theorem cut_app (a W t : List UInt8) : cut (a ++ W ++ t) a.length (a.length + W.length) = W := by
  unfold cut
  rw [List.append_assoc, List.drop_left, show a.length + W.length - a.length = W.length by omega, List.take_left]
/-- digits of a whole part: one zero, or the first is none -/
def WholeOk (W : List UInt8) : Prop := W ≠ [] ∧ (∀ c ∈ W, isD c = true) ∧ (W = [48] ∨ ∀ c r, W = c :: r → c ≠ 48)
theorem wEnd_app {W : List UInt8} (a t : List UInt8) (hW : WholeOk W) (h : atD (a ++ W ++ t) (a.length + W.length) = false) : wEnd (a ++ W ++ t) a.length = a.length + W.length ∧ atD (a ++ W ++ t) a.length = true := by
  obtain ⟨h0, h1, h2⟩ := hW
  match W, h0 with
  | c :: r, _ =>
    have hd : atD (a ++ c :: r ++ t) a.length = true := by
      rw [List.append_assoc, List.cons_append, atD_app]; exact h1 c List.mem_cons_self
    refine ⟨?_, hd⟩
    unfold wEnd
    rw [List.append_assoc, List.cons_append, atC_app, ← List.cons_append, ← List.append_assoc]
    rcases h2 with h2 | h2
    · obtain ⟨rfl, rfl⟩ : c = 48 ∧ r = [] := by simpa using h2
      rw [if_pos (by decide)]; rfl
    · rw [if_neg (by simpa using h2 c r rfl)]
      exact dEnd_app _ a t h1 h
theorem isD_46 : isD 46 = false := by decide
theorem isD_45 : isD 45 = false := by decide
theorem ne45 {c : UInt8} (h : isD c = true) : (c == 45) = false := by
  cases e : c == 45
  · rfl
  · rw [show c = 45 by simpa using e] at h; rw [isD_45] at h; cases h
theorem partsE_end (a : List UInt8) (neg : Bool) (W F : List UInt8) : partsE a neg W F a.length = ⟨neg, false, W, F, [], a.length, true⟩ := by
  unfold partsE
  rw [atC_nil, atC_nil, if_neg (by decide)]
theorem partsW_int (a W : List UInt8) (neg : Bool) (hW : WholeOk W) : partsW (a ++ W) neg a.length = ⟨neg, false, W, [], [], (a ++ W).length, true⟩ := by
  have h := wEnd_app a [] hW (by rw [List.append_nil, ← List.length_append]; exact atD_nil _)
  have hc := cut_app a W []
  rw [List.append_nil] at h hc
  unfold partsW
  rw [if_pos h.2, h.1, hc, ← List.length_append]
  unfold partsF
  rw [atC_nil, if_neg (by decide)]
  exact partsE_end _ _ _ _
theorem partsW_frac (a W F : List UInt8) (neg : Bool) (hW : WholeOk W) (hF : F ≠ []) (hD : ∀ c ∈ F, isD c = true) : partsW (a ++ (W ++ 46 :: F)) neg a.length = ⟨neg, false, W, F, [], (a ++ (W ++ 46 :: F)).length, true⟩ := by
  have h := wEnd_app a (46 :: F) hW (by rw [← List.length_append, atD_app]; exact isD_46)
  have hc := cut_app a W (46 :: F)
  have e : a ++ (W ++ 46 :: F) = a ++ W ++ 46 :: F := by simp
  rw [e]
  unfold partsW
  rw [if_pos h.2, h.1, hc, ← List.length_append]
  unfold partsF
  rw [atC_app, if_pos (by decide)]
  have e2 : a ++ W ++ 46 :: F = (a ++ W ++ [46]) ++ F ++ [] := by simp
  have el : (a ++ W).length + 1 = (a ++ W ++ [46]).length := by simp only [List.length_append, List.length_cons, List.length_nil]
  rw [e2, el]
  have hd : atD ((a ++ W ++ [46]) ++ F ++ []) (a ++ W ++ [46]).length = true := by
    match F, hF with
    | c :: r, _ => rw [List.append_nil, atD_app]; exact hD c List.mem_cons_self
  have he := dEnd_app F (a ++ W ++ [46]) [] hD (by rw [List.append_nil, ← List.length_append]; exact atD_nil _)
  rw [if_pos hd, he, cut_app, List.append_nil, ← List.length_append]
  exact partsE_end _ _ _ _
theorem decDigits_head (u : Nat) : ∀ c r, Lib.decDigits u = c :: r → u ≠ 0 → c ≠ 48 := by
  induction u using Nat.strongRecOn with
  | _ u ih =>
    intro c r h h0
    rw [Lib.decDigits] at h
    by_cases hu : u < 10
    · rw [dif_pos hu] at h
      injection h with h _
      intro hc
      have := dig_toNat u hu
      rw [h, hc] at this
      have e : (48 : UInt8).toNat = 48 := rfl
      omega
    · rw [dif_neg hu] at h
      obtain ⟨c', r', e, _⟩ := dec_head (u / 10)
      rw [e, List.cons_append] at h
      injection h with h _
      rw [← h]
      exact ih (u / 10) (by omega) c' r' e (by omega)
theorem decDigits_isD (u : Nat) : ∀ c ∈ Lib.decDigits u, isD c = true := fun c hc => by unfold isD; exact decide_eq_true (decDigits_digs u c hc)
theorem decDigits_whole (u : Nat) : WholeOk (Lib.decDigits u) := by
  refine ⟨decDigits_ne u, decDigits_isD u, ?_⟩
  by_cases h : u = 0
  · subst h; left; rw [Lib.decDigits]; rfl
  · right; intro c r e; exact decDigits_head u c r e h
theorem decVal_zeros (k : Nat) (l : List UInt8) : decVal 0 (List.replicate k 48 ++ l) = decVal 0 l := by
  induction k with
  | zero => rfl
  | succ k ih => rw [List.replicate_succ, List.cons_append]; exact ih
theorem lead_zeros (k : Nat) (l : List UInt8) : lead (List.replicate k 48 ++ l) = lead l := by
  induction k with
  | zero => rfl
  | succ k ih => rw [List.replicate_succ, List.cons_append]; unfold lead; rw [List.dropWhile_cons, if_pos (by decide)]; exact ih
theorem lead_len (l : List UInt8) : (lead l).length ≤ l.length := (List.dropWhile_sublist _).length_le
theorem decVal_pad (m u : Nat) : decVal 0 (pad m (Lib.decDigits u)) = u := by unfold pad; rw [decVal_zeros, decDigits_val]
theorem lead_pad (m u : Nat) (h : u < 10 ^ 17) : (lead (pad m (Lib.decDigits u))).length ≤ 17 := by
  unfold pad; rw [lead_zeros]; exact Nat.le_trans (lead_len _) (dec_len 16 u h)
theorem numOf_good {p : Parts} (h : p.ok = true) (h1 : (lead (p.whole ++ p.frac)).length ≤ 17) (h2 : p.exp = []) (h3 : p.eneg = false) : numOf p = ⟨sgnV p.neg (decVal 0 (p.whole ++ p.frac)), -(p.frac.length : Int), p.next, 0⟩ := by
  unfold numOf
  rw [if_pos h, if_pos ⟨h1, by rw [h2]; decide⟩, h2, h3]
  congr 1
  unfold sgnV
  rw [if_neg (by decide)]
  show ((0 : Nat) : Int) - _ = _
  omega
theorem sgn_abs (n : Int) (b : Bool) (h : b = true ↔ n < 0) : sgnV b (n.natAbs : Int) = n := by
  unfold sgnV
  cases b
  · rw [if_neg (by decide)]
    have : ¬ n < 0 := fun e => by have := h.2 e; cases this
    omega
  · rw [if_pos rfl]
    have := h.1 rfl
    omega
theorem pad_digs (m u : Nat) : ∀ c ∈ pad m (Lib.decDigits u), isD c = true := fun c hc => by
  unfold pad at hc
  rw [List.mem_append] at hc
  rcases hc with hc | hc
  · rw [(List.mem_replicate.1 hc).2]; decide
  · exact decDigits_isD u c hc
theorem pad_whole (m u k : Nat) (hm : k + m = (pad (m + 1) (Lib.decDigits u)).length) : WholeOk ((pad (m + 1) (Lib.decDigits u)).take k) := by
  have hl := pad_length (m + 1) (Lib.decDigits u)
  have h1 : 1 ≤ k := by omega
  have hne := decDigits_ne u
  refine ⟨?_, fun c hc => pad_digs _ _ c (List.mem_of_mem_take hc), ?_⟩
  · intro e
    have := congrArg List.length e
    rw [List.length_take, List.length_nil] at this
    omega
  · by_cases hp : (Lib.decDigits u).length ≤ m
    · left
      have hk : k = 1 := by omega
      subst hk
      unfold pad
      rw [show m + 1 - (Lib.decDigits u).length = (m - (Lib.decDigits u).length) + 1 by omega, List.replicate_succ]
      rfl
    · rw [pad_none (m := m + 1) (l := Lib.decDigits u) (by omega)]
      obtain ⟨h0, _, h2⟩ := decDigits_whole u
      rcases h2 with h2 | h2
      · left
        rw [h2, List.take_of_length_le (by simp; exact h1)]
      · right
        intro c r e
        match hd : Lib.decDigits u, h0 with
        | c' :: r', _ =>
          rw [hd] at e
          obtain ⟨k', rfl⟩ : ∃ k', k = k' + 1 := ⟨k - 1, by omega⟩
          rw [List.take_succ_cons] at e
          injection e with e _
          rw [← e]
          exact h2 c' r' hd
theorem read_text {n x : Int} (h : decOk n x = true) : readN (decText n x) 0 = ⟨n, x, (decText n x).length, 0⟩ := by
  obtain ⟨r0, r1, r2, _, r4⟩ := decOk_range h
  by_cases hx : x = 0
  · subst hx
    rw [decText_int h]
    have hW := decDigits_whole n.natAbs
    have hlen : (lead (Lib.decDigits n.natAbs ++ [])).length ≤ 17 := by rw [List.append_nil]; exact Nat.le_trans (lead_len _) (dec_len 16 _ r2)
    by_cases hn : n < 0
    · rw [itoa_lt hn]
      unfold readN parts
      rw [show atC (45 :: Lib.decDigits n.natAbs) 0 45 = true from rfl, if_pos rfl]
      have e := partsW_int [45] _ true hW
      rw [show ([45] ++ Lib.decDigits n.natAbs) = 45 :: Lib.decDigits n.natAbs from rfl] at e
      rw [show 0 + 1 = [(45 : UInt8)].length from rfl, e, numOf_good rfl hlen rfl rfl]
      simp only [List.append_nil, decDigits_val, List.length_nil]
      rw [sgn_abs n true ⟨fun _ => hn, fun _ => rfl⟩]
      rfl
    · rw [itoa_ge hn]
      unfold readN parts
      have e := partsW_int [] _ false hW
      rw [List.nil_append] at e
      have e45 : atC (Lib.decDigits n.natAbs) 0 45 = false := by
        obtain ⟨c, r, ec, hd⟩ := dec_head n.natAbs
        rw [ec]
        exact ne45 (by unfold isDig at hd; unfold isD; exact decide_eq_true hd)
      rw [e45, if_neg (by decide), show 0 = ([] : List UInt8).length from rfl, e, numOf_good rfl hlen rfl rfl]
      simp only [List.append_nil, decDigits_val, List.length_nil]
      rw [sgn_abs n false ⟨fun e => (by cases e), fun e => absurd e hn⟩]
      rfl
  · obtain ⟨m, hm⟩ : ∃ m : Nat, -x = m := ⟨(-x).toNat, by omega⟩
    have hm1 : (1 - x).toNat = m + 1 := by omega
    have hm2 : (-x).toNat = m := by omega
    have hf : fracT n x = (pad (m + 1) (Lib.decDigits n.natAbs)).take ((pad (m + 1) (Lib.decDigits n.natAbs)).length - m) ++ 46 :: (pad (m + 1) (Lib.decDigits n.natAbs)).drop ((pad (m + 1) (Lib.decDigits n.natAbs)).length - m) := by
      unfold fracT pointT; rw [hm1, hm2]; simp
    have hl := pad_length (m + 1) (Lib.decDigits n.natAbs)
    obtain ⟨k, hk⟩ : ∃ k, (pad (m + 1) (Lib.decDigits n.natAbs)).length - m = k := ⟨_, rfl⟩
    rw [hk] at hf
    have hW := pad_whole m n.natAbs k (by omega)
    have hD : ∀ c ∈ (pad (m + 1) (Lib.decDigits n.natAbs)).drop k, isD c = true := fun c hc => pad_digs _ _ c (List.mem_of_mem_drop hc)
    have hFl : ((pad (m + 1) (Lib.decDigits n.natAbs)).drop k).length = m := by rw [List.length_drop]; omega
    have hF : (pad (m + 1) (Lib.decDigits n.natAbs)).drop k ≠ [] := by intro e; rw [e] at hFl; simp at hFl; omega
    have hWF : (pad (m + 1) (Lib.decDigits n.natAbs)).take k ++ (pad (m + 1) (Lib.decDigits n.natAbs)).drop k = pad (m + 1) (Lib.decDigits n.natAbs) := List.take_append_drop _ _
    have hlen := lead_pad (m + 1) n.natAbs r2
    have hval := decVal_pad (m + 1) n.natAbs
    rw [← hWF] at hlen hval
    generalize (pad (m + 1) (Lib.decDigits n.natAbs)).take k = W at *
    generalize (pad (m + 1) (Lib.decDigits n.natAbs)).drop k = F at *
    by_cases hn : n < 0
    · rw [decText_neg h hx hn, hf]
      unfold readN parts
      rw [show atC (45 :: (W ++ 46 :: F)) 0 45 = true from rfl, if_pos rfl]
      have e := partsW_frac [45] W F true hW hF hD
      rw [show ([45] ++ (W ++ 46 :: F)) = 45 :: (W ++ 46 :: F) from rfl] at e
      rw [show 0 + 1 = [(45 : UInt8)].length from rfl, e, numOf_good rfl hlen rfl rfl]
      simp only
      rw [hval, sgn_abs n true ⟨fun _ => hn, fun _ => rfl⟩, hFl]
      congr 1; omega
    · rw [decText_pos h hx hn, hf]
      unfold readN parts
      have e := partsW_frac [] W F false hW hF hD
      rw [List.nil_append] at e
      have e45 : atC (W ++ 46 :: F) 0 45 = false := by
        match W, hW with
        | c :: r, hW => exact ne45 (hW.2.1 c List.mem_cons_self)
        | [], hW => exact absurd rfl hW.1
      rw [e45, if_neg (by decide), show 0 = ([] : List UInt8).length from rfl, e, numOf_good rfl hlen rfl rfl]
      simp only [List.length_nil]
      rw [hval, sgn_abs n false ⟨fun e => (by cases e), fun e => absurd e hn⟩, hFl]
      congr 1; omega
end Go.Proofs.Ytnikcgmbkmbloaa
/- Hexadecimal digits: plain facts. -/
namespace Go.Proofs.Ytnikcgmbkmbloaa
/-- the digit of x -/
def hexd (x : Nat) : UInt8 := if x < 10 then UInt8.ofNat (48 + x) else UInt8.ofNat (87 + x)
def hexL (l : List UInt8) : List UInt8 := l.flatMap fun c => [hexd (c.toNat / 16), hexd (c.toNat % 16)]
theorem hexL_nil : hexL [] = [] := rfl
theorem hexL_append (a b : List UInt8) : hexL (a ++ b) = hexL a ++ hexL b := by simp [hexL]
theorem hexL_take (l : List UInt8) (i : Nat) (h : i < l.length) : hexL (l.take (i + 1)) = hexL (l.take i) ++ [hexd (l[i].toNat / 16), hexd (l[i].toNat % 16)] := by
  rw [List.take_succ_eq_append_getElem h, hexL_append]
  rfl
theorem hexL_len (l : List UInt8) : (hexL l).length = 2 * l.length := by
  induction l with
  | nil => rfl
  | cons c l ih =>
    have : hexL (c :: l) = [hexd (c.toNat / 16), hexd (c.toNat % 16)] ++ hexL l := rfl
    rw [this, List.length_append, ih, List.length_cons]
    simp
    omega
/-- the number of a digit; -1: it is none -/
def hexv (c : UInt8) : Int := if 48 ≤ c.toNat ∧ c.toNat ≤ 57 then c.toNat - 48 else if 97 ≤ c.toNat ∧ c.toNat ≤ 102 then c.toNat - 87 else -1
theorem hexv_hexd (x : Nat) (h : x < 16) : hexv (hexd x) = x := by
  have h1 : x = 0 ∨ x = 1 ∨ x = 2 ∨ x = 3 ∨ x = 4 ∨ x = 5 ∨ x = 6 ∨ x = 7 ∨ x = 8 ∨ x = 9 ∨ x = 10 ∨ x = 11 ∨ x = 12 ∨ x = 13 ∨ x = 14 ∨ x = 15 := by omega
  rcases h1 with rfl | rfl | rfl | rfl | rfl | rfl | rfl | rfl | rfl | rfl | rfl | rfl | rfl | rfl | rfl | rfl <;> decide
theorem hexv_range (c : UInt8) : -1 ≤ hexv c ∧ hexv c ≤ 15 := by unfold hexv; split <;> (try split) <;> omega
theorem hexd_hexv (c : UInt8) (h : 0 ≤ hexv c) : hexd (hexv c).toNat = c := by
  have e : UInt8.ofNat c.toNat = c := by simp
  unfold hexv at h ⊢
  by_cases h1 : 48 ≤ c.toNat ∧ c.toNat ≤ 57
  · rw [if_pos h1] at h ⊢
    unfold hexd
    rw [if_pos (by omega), show 48 + ((c.toNat : Int) - 48).toNat = c.toNat by omega, e]
  · rw [if_neg h1] at h ⊢
    by_cases h2 : 97 ≤ c.toNat ∧ c.toNat ≤ 102
    · rw [if_pos h2] at h ⊢
      unfold hexd
      rw [if_neg (by omega), show 87 + ((c.toNat : Int) - 87).toNat = c.toNat by omega, e]
    · rw [if_neg h2] at h; omega
/-- the bytes that digits stand for -/
def unhex : List UInt8 → Option (List UInt8)
  | [] => some []
  | [_] => none
  | a :: b :: r => if 0 ≤ hexv a ∧ 0 ≤ hexv b then (unhex r).map fun l => UInt8.ofNat (16 * hexv a + hexv b).toNat :: l else none
theorem unhex_hexL : ∀ l : List UInt8, unhex (hexL l) = some l
  | [] => rfl
  | c :: l => by
    have hc : c.toNat < 256 := UInt8.toNat_lt c
    have h1 := hexv_hexd (c.toNat / 16) (by omega)
    have h2 := hexv_hexd (c.toNat % 16) (by omega)
    have e : hexL (c :: l) = hexd (c.toNat / 16) :: hexd (c.toNat % 16) :: hexL l := rfl
    rw [e, unhex, unhex_hexL l, h1, h2, if_pos (by omega)]
    have e2 : (16 * ((c.toNat / 16 : Nat) : Int) + ((c.toNat % 16 : Nat) : Int)).toNat = c.toNat := by omega
    rw [e2]
    simp
theorem hexL_unhex : ∀ (n : Nat) (l r : List UInt8), l.length ≤ n → unhex l = some r → hexL r = l
  | _, [], r, _, h => by simp [unhex] at h; subst h; rfl
  | _, [a], r, _, h => by simp [unhex] at h
  | 0, a :: b :: l, r, hn, h => by simp at hn
  | n + 1, a :: b :: l, r, hn, h => by
    rw [unhex] at h
    by_cases hab : 0 ≤ hexv a ∧ 0 ≤ hexv b
    · rw [if_pos hab] at h
      cases hu : unhex l with
      | none => rw [hu] at h; simp at h
      | some r' =>
        rw [hu] at h
        simp only [Option.map_some, Option.some.injEq] at h
        subst h
        have ih := hexL_unhex n l r' (by simp at hn; omega) hu
        have ra := hexv_range a
        have rb := hexv_range b
        have e0 : (UInt8.ofNat (16 * hexv a + hexv b).toNat).toNat = (16 * hexv a + hexv b).toNat := by
          have : (UInt8.ofNat (16 * hexv a + hexv b).toNat).toNat = (16 * hexv a + hexv b).toNat % 256 := by simp
          omega
        have e : hexL (UInt8.ofNat (16 * hexv a + hexv b).toNat :: r') = hexd ((UInt8.ofNat (16 * hexv a + hexv b).toNat).toNat / 16) :: hexd ((UInt8.ofNat (16 * hexv a + hexv b).toNat).toNat % 16) :: hexL r' := rfl
        rw [e, ih, e0]
        have e1 : (16 * hexv a + hexv b).toNat / 16 = (hexv a).toNat := by omega
        have e2 : (16 * hexv a + hexv b).toNat % 16 = (hexv b).toNat := by omega
        rw [e1, e2, hexd_hexv a hab.1, hexd_hexv b hab.2]
    · rw [if_neg hab] at h; simp at h
theorem unhex_len : ∀ (n : Nat) (l r : List UInt8), l.length ≤ n → unhex l = some r → l.length = 2 * r.length := by
  intro n l r hn h
  rw [← hexL_unhex n l r hn h, hexL_len]
/-- a pair at place 2 i -/
theorem unhex_step (l : List UInt8) (i : Nat) (h : 2 * i + 1 < l.length) : unhex (l.drop (2 * i)) = if 0 ≤ hexv l[2 * i] ∧ 0 ≤ hexv l[2 * i + 1] then (unhex (l.drop (2 * (i + 1)))).map (fun r => UInt8.ofNat (16 * hexv l[2 * i] + hexv l[2 * i + 1]).toNat :: r) else none := by
  rw [List.drop_eq_getElem_cons (by omega : 2 * i < l.length), List.drop_eq_getElem_cons h, unhex]
  rfl
theorem unhex_end (l : List UInt8) (i : Nat) (h : ¬ 2 * i + 1 < l.length) (hi : 2 * i ≤ l.length) : unhex (l.drop (2 * i)) = if l.length = 2 * i then some [] else none := by
  by_cases e : l.length = 2 * i
  · rw [List.drop_eq_nil_of_le (by omega), if_pos e]; rfl
  · rw [List.drop_eq_getElem_cons (by omega), List.drop_eq_nil_of_le (by omega), if_neg e]; rfl
end Go.Proofs.Ytnikcgmbkmbloaa
