import Derived.Test.YtnikcgmbkmbloaaG17
import Derived.Test.YtnikcgmbkmbloaaG22
import Derived.Test.YtnikcgmbkmbloaaRows
import Derived.Test.YtnikcgmbkmbloaaG0
import Derived.Test.YtnikcgmbkmbloaaG16
import Derived.WalkKit
import Derived.Lib.Hide
import Derived.Lib.RuneBytes
import Derived.Outline
import Derived.ProofKit
import Derived.Laws.BytesArg
import Derived.Test.YtnikcgmbkmbloaaG21
/- Quoted strings: plain facts: escapes, quotes, and what is read. -/
namespace Go.Proofs.Ytnikcgmbkmbloaa
/-- the letter behind a backslash that stands for n -/
def escB (n : Int) : Option UInt8 := if n = 34 then some 34 else if n = 92 then some 92 else if n = 8 then some 98 else if n = 9 then some 116 else if n = 10 then some 110 else if n = 12 then some 102 else if n = 13 then some 114 else none
def escL (n : Int) : List UInt8 := match escB n with
  | some c => [92, c]
  | none => if 0 ≤ n ∧ n < 32 then [92, 117, 48, 48] ++ hexL [UInt8.ofNat n.toNat] else encR n
def escsL (rs : List Int) : List UInt8 := rs.flatMap escL
def quoteL (l : List UInt8) : List UInt8 := match runes l with
  | none => []
  | some rs => 34 :: (escsL rs ++ [34])
theorem escL_letter {n : Int} {c : UInt8} (h : escB n = some c) : escL n = [92, c] := by unfold escL; rw [h]
theorem escL_low {n : Int} (h : escB n = none) (h0 : 0 ≤ n) (h1 : n < 32) : escL n = [92, 117, 48, 48] ++ hexL [UInt8.ofNat n.toNat] := by unfold escL; rw [h]; simp only; rw [if_pos ⟨h0, h1⟩]
theorem escL_plain {n : Int} (h : escB n = none) (h1 : ¬ (0 ≤ n ∧ n < 32)) : escL n = encR n := by unfold escL; rw [h]; simp only; rw [if_neg h1]
theorem escB_none {n : Int} (h34 : n ≠ 34) (h92 : n ≠ 92) (h8 : n ≠ 8) (h9 : n ≠ 9) (h10 : n ≠ 10) (h12 : n ≠ 12) (h13 : n ≠ 13) : escB n = none := by
  unfold escB; rw [if_neg h34, if_neg h92, if_neg h8, if_neg h9, if_neg h10, if_neg h12, if_neg h13]
theorem escB_cases (n : Int) : (n = 34 ∧ escB n = some 34) ∨ (n = 92 ∧ escB n = some 92) ∨ (n = 8 ∧ escB n = some 98) ∨ (n = 9 ∧ escB n = some 116) ∨ (n = 10 ∧ escB n = some 110) ∨ (n = 12 ∧ escB n = some 102) ∨ (n = 13 ∧ escB n = some 114)
    ∨ (n ≠ 34 ∧ n ≠ 92 ∧ n ≠ 8 ∧ n ≠ 9 ∧ n ≠ 10 ∧ n ≠ 12 ∧ n ≠ 13 ∧ escB n = none) := by
  by_cases h34 : n = 34
  · subst h34; exact .inl ⟨rfl, rfl⟩
  by_cases h92 : n = 92
  · subst h92; exact .inr (.inl ⟨rfl, rfl⟩)
  by_cases h8 : n = 8
  · subst h8; exact .inr (.inr (.inl ⟨rfl, rfl⟩))
  by_cases h9 : n = 9
  · subst h9; exact .inr (.inr (.inr (.inl ⟨rfl, rfl⟩)))
  by_cases h10 : n = 10
  · subst h10; exact .inr (.inr (.inr (.inr (.inl ⟨rfl, rfl⟩))))
  by_cases h12 : n = 12
  · subst h12; exact .inr (.inr (.inr (.inr (.inr (.inl ⟨rfl, rfl⟩)))))
  by_cases h13 : n = 13
  · subst h13; exact .inr (.inr (.inr (.inr (.inr (.inr (.inl ⟨rfl, rfl⟩))))))
  exact .inr (.inr (.inr (.inr (.inr (.inr (.inr ⟨h34, h92, h8, h9, h10, h12, h13, escB_none h34 h92 h8 h9 h10 h12 h13⟩))))))
theorem escB_ok {n : Int} {c : UInt8} (h : escB n = some c) : 0 ≤ n ∧ n < 128 := by
  rcases escB_cases n with ⟨e, _⟩ | ⟨e, _⟩ | ⟨e, _⟩ | ⟨e, _⟩ | ⟨e, _⟩ | ⟨e, _⟩ | ⟨e, _⟩ | ⟨_, _, _, _, _, _, _, e⟩
  all_goals first | omega | (rw [e] at h; cases h)
theorem escL_len (n : Int) : (escL n).length ≤ 6 := by
  unfold escL
  split
  · simp
  · split
    · simp [hexL]
    · rw [encR_len]; rcases wideR_cases n with h | h | h | h | h <;> omega
theorem escsL_nil : escsL [] = [] := rfl
theorem escsL_cons (n : Int) (r : List Int) : escsL (n :: r) = escL n ++ escsL r := rfl
theorem escsL_app (a b : List Int) : escsL (a ++ b) = escsL a ++ escsL b := by simp [escsL]
theorem escsL_take (l : List Int) (i : Nat) (h : i < l.length) : escsL (l.take (i + 1)) = escsL (l.take i) ++ escL l[i] := by
  rw [List.take_succ_eq_append_getElem h, escsL_app]; simp [escsL]
theorem escsL_len (l : List Int) : (escsL l).length ≤ 6 * l.length := by
  induction l with
  | nil => exact Nat.zero_le _
  | cons n r ih => rw [escsL_cons, List.length_append, List.length_cons]; have := escL_len n; omega
theorem quoteL_none {l : List UInt8} (h : runes l = none) : quoteL l = [] := by unfold quoteL; rw [h]
theorem quoteL_some {l : List UInt8} {rs : List Int} (h : runes l = some rs) : quoteL l = 34 :: (escsL rs ++ [34]) := by unfold quoteL; rw [h]
theorem quoteL_len (l : List UInt8) : (quoteL l).length ≤ 6 * l.length + 2 := by
  cases h : runes l with
  | none => rw [quoteL_none h]; simp
  | some rs =>
    rw [quoteL_some h]
    have h1 := runes_len _ l rs (Nat.le_refl _) h
    have h2 := escsL_len rs
    simp
    omega
/-- a hexadecimal digit's number, upper case too -/
def dig16 (c : UInt8) : Int := if 65 ≤ c.toNat ∧ c.toNat ≤ 70 then (c.toNat : Int) - 55 else hexv c
theorem dig16_range (c : UInt8) : -1 ≤ dig16 c ∧ dig16 c ≤ 15 := by have := hexv_range c; unfold dig16; split <;> omega
theorem dig16_hexd (x : Nat) (h : x < 16) : dig16 (hexd x) = x := by
  have h1 : x = 0 ∨ x = 1 ∨ x = 2 ∨ x = 3 ∨ x = 4 ∨ x = 5 ∨ x = 6 ∨ x = 7 ∨ x = 8 ∨ x = 9 ∨ x = 10 ∨ x = 11 ∨ x = 12 ∨ x = 13 ∨ x = 14 ∨ x = 15 := by omega
  rcases h1 with rfl | rfl | rfl | rfl | rfl | rfl | rfl | rfl | rfl | rfl | rfl | rfl | rfl | rfl | rfl | rfl <;> decide
/-- the number that digits denote, behind n -/
def hexN (n : Int) : List UInt8 → Option Int
  | [] => some n
  | c :: r => if 0 ≤ dig16 c then hexN (16 * n + dig16 c) r else none
theorem hexN_bad {n : Int} {c : UInt8} {r : List UInt8} (h : ¬ 0 ≤ dig16 c) : hexN n (c :: r) = none := by unfold hexN; rw [if_neg h]
theorem hexN_good {n : Int} {c : UInt8} {r : List UInt8} (h : 0 ≤ dig16 c) : hexN n (c :: r) = hexN (16 * n + dig16 c) r := by
  show (if 0 ≤ dig16 c then hexN (16 * n + dig16 c) r else none) = _
  rw [if_pos h]
theorem hexN_range : ∀ (l : List UInt8) (n m : Int), 0 ≤ n → hexN n l = some m → 0 ≤ m ∧ m < (n + 1) * 16 ^ l.length
  | [], n, m, h0, h => by unfold hexN at h; cases h; simp; omega
  | c :: r, n, m, h0, h => by
    have hd := dig16_range c
    by_cases hc : 0 ≤ dig16 c
    · rw [hexN_good hc] at h
      have ih := hexN_range r _ m (by omega) h
      refine ⟨ih.1, Int.lt_of_lt_of_le ih.2 ?_⟩
      rw [List.length_cons, Int.pow_succ, Int.mul_comm (16 ^ r.length) 16, ← Int.mul_assoc]
      exact Int.mul_le_mul_of_nonneg_right (by omega) (Int.pow_nonneg (by omega))
    · rw [hexN_bad hc] at h; cases h
def fourAt (l : List UInt8) (i : Nat) : Option Int := if i + 4 ≤ l.length then hexN 0 ((l.drop i).take 4) else none
theorem fourAt_out {l : List UInt8} {i : Nat} (h : ¬ i + 4 ≤ l.length) : fourAt l i = none := by unfold fourAt; rw [if_neg h]
theorem fourAt_in {l : List UInt8} {i : Nat} (h : i + 4 ≤ l.length) : fourAt l i = hexN 0 ((l.drop i).take 4) := by unfold fourAt; rw [if_pos h]
theorem fourAt_range {l : List UInt8} {i : Nat} {n : Int} (h : fourAt l i = some n) : 0 ≤ n ∧ n ≤ 65535 ∧ i + 4 ≤ l.length := by
  unfold fourAt at h
  split at h
  · rename_i hl
    have := hexN_range _ _ _ (Int.le_refl 0) h
    have e : ((l.drop i).take 4).length = 4 := by simp; omega
    rw [e] at this
    have e2 : (0 + 1) * (16 : Int) ^ 4 = 65536 := by decide
    rw [e2] at this
    exact ⟨this.1, by omega, hl⟩
  · cases h
def fourV (l : List UInt8) (a : Int) : Value := match (if 0 ≤ a then fourAt l a.toNat else none) with
  | none => .tuple #[.int .i64 0, .bool false]
  | some n => .tuple #[.int .i64 n, .bool true]
/-- the character for a letter behind a backslash -/
def unB (c : UInt8) : Option Int := if c = 34 then some 34 else if c = 92 then some 92 else if c = 47 then some 47 else if c = 98 then some 8 else if c = 116 then some 9 else if c = 110 then some 10 else if c = 102 then some 12 else if c = 114 then some 13 else none
theorem unB_escB {n : Int} {c : UInt8} (h : escB n = some c) : unB c = some n := by
  rcases escB_cases n with ⟨rfl, e⟩ | ⟨rfl, e⟩ | ⟨rfl, e⟩ | ⟨rfl, e⟩ | ⟨rfl, e⟩ | ⟨rfl, e⟩ | ⟨rfl, e⟩ | ⟨_, _, _, _, _, _, _, e⟩
  all_goals (rw [e] at h; cases h)
  all_goals rfl
theorem unB_u : unB 117 = none := rfl
theorem unB_ok {c : UInt8} {n : Int} (h : unB c = some n) : 0 ≤ n ∧ n ≤ 127 := by
  unfold unB at h
  repeat' (split at h; · cases h; omega)
  cases h
/-- the numbered escape (or the pair) whose letter u stands at i -/
def numAt (l : List UInt8) (i : Nat) : Option (Int × Nat) :=
  match fourAt l (i + 1) with
  | none => none
  | some n => if n < 55296 ∨ 57343 < n then some (n, i + 5)
    else if n < 56320 ∧ l[i + 5]? = some 92 ∧ l[i + 6]? = some 117 then
      match fourAt l (i + 7) with
      | none => none
      | some m => if 56320 ≤ m ∧ m ≤ 57343 then some (65536 + 1024 * (n - 55296) + (m - 56320), i + 11) else none
    else none
/-- what stands behind a backslash, from i on -/
def escAt (l : List UInt8) (i : Nat) : Option (Int × Nat) :=
  match l[i]? with
  | none => none
  | some c => match unB c with
    | some n => some (n, i + 1)
    | none => if c = 117 then numAt l i else none
def charAt (l : List UInt8) (i : Nat) : Option (Int × Nat) :=
  if l[i]? = some 92 then escAt l (i + 1)
  else if i < l.length ∧ dec l i ≠ (65533, 1) ∧ 32 ≤ (dec l i).1 then some (((dec l i).1 : Int), i + (dec l i).2) else none
theorem num_four {l : List UInt8} {i : Nat} (h : fourAt l (i + 1) = none) : numAt l i = none := by unfold numAt; rw [h]
theorem num_one {l : List UInt8} {i : Nat} {n : Int} (h : fourAt l (i + 1) = some n) (hn : n < 55296 ∨ 57343 < n) : numAt l i = some (n, i + 5) := by unfold numAt; rw [h]; simp only; rw [if_pos hn]
theorem num_low {l : List UInt8} {i : Nat} {n : Int} (h : fourAt l (i + 1) = some n) (hn : 56320 ≤ n) (hn2 : n ≤ 57343) : numAt l i = none := by unfold numAt; rw [h]; simp only; rw [if_neg (by omega), if_neg (by omega)]
theorem num_alone {l : List UInt8} {i : Nat} {n : Int} (h : fourAt l (i + 1) = some n) (hn : 55296 ≤ n) (hn2 : n ≤ 57343) (hp : ¬ (l[i + 5]? = some 92 ∧ l[i + 6]? = some 117)) : numAt l i = none := by
  unfold numAt; rw [h]; simp only; rw [if_neg (by omega), if_neg (fun g => hp g.2)]
theorem num_pair {l : List UInt8} {i : Nat} {n : Int} (h : fourAt l (i + 1) = some n) (hn : 55296 ≤ n) (hn2 : n < 56320) (h5 : l[i + 5]? = some 92) (h6 : l[i + 6]? = some 117) :
    numAt l i = match fourAt l (i + 7) with
      | none => none
      | some m => if 56320 ≤ m ∧ m ≤ 57343 then some (65536 + 1024 * (n - 55296) + (m - 56320), i + 11) else none := by
  unfold numAt; rw [h]; simp only; rw [if_neg (by omega), if_pos ⟨hn2, h5, h6⟩]
theorem num_pair_none {l : List UInt8} {i : Nat} {n : Int} (h : fourAt l (i + 1) = some n) (hn : 55296 ≤ n) (hn2 : n < 56320) (h5 : l[i + 5]? = some 92) (h6 : l[i + 6]? = some 117) (h7 : fourAt l (i + 7) = none) : numAt l i = none := by
  rw [num_pair h hn hn2 h5 h6, h7]
theorem num_pair_bad {l : List UInt8} {i : Nat} {n m : Int} (h : fourAt l (i + 1) = some n) (hn : 55296 ≤ n) (hn2 : n < 56320) (h5 : l[i + 5]? = some 92) (h6 : l[i + 6]? = some 117) (h7 : fourAt l (i + 7) = some m) (hm : ¬ (56320 ≤ m ∧ m ≤ 57343)) : numAt l i = none := by
  rw [num_pair h hn hn2 h5 h6, h7]; simp only; rw [if_neg hm]
theorem num_pair_good {l : List UInt8} {i : Nat} {n m : Int} (h : fourAt l (i + 1) = some n) (hn : 55296 ≤ n) (hn2 : n < 56320) (h5 : l[i + 5]? = some 92) (h6 : l[i + 6]? = some 117) (h7 : fourAt l (i + 7) = some m) (hm : 56320 ≤ m ∧ m ≤ 57343) : numAt l i = some (65536 + 1024 * (n - 55296) + (m - 56320), i + 11) := by
  rw [num_pair h hn hn2 h5 h6, h7]; simp only; rw [if_pos hm]
theorem numAt_ok {l : List UInt8} {i j : Nat} {n : Int} (h : numAt l i = some (n, j)) : i < j ∧ j ≤ l.length ∧ okR n := by
  cases h4 : fourAt l (i + 1) with
  | none => rw [num_four h4] at h; cases h
  | some a =>
    have hr := fourAt_range h4
    by_cases h1 : a < 55296 ∨ 57343 < a
    · rw [num_one h4 h1] at h
      cases h
      exact ⟨by omega, by omega, okR_mk (by omega)⟩
    · by_cases h2 : 56320 ≤ a
      · rw [num_low h4 h2 (by omega)] at h; cases h
      · by_cases h3 : l[i + 5]? = some 92 ∧ l[i + 6]? = some 117
        · cases h7 : fourAt l (i + 7) with
          | none => rw [num_pair_none h4 (by omega) (by omega) h3.1 h3.2 h7] at h; cases h
          | some m =>
            have hr2 := fourAt_range h7
            by_cases hm : 56320 ≤ m ∧ m ≤ 57343
            · rw [num_pair_good h4 (by omega) (by omega) h3.1 h3.2 h7 hm] at h
              cases h
              exact ⟨by omega, by omega, okR_mk (by omega)⟩
            · rw [num_pair_bad h4 (by omega) (by omega) h3.1 h3.2 h7 hm] at h; cases h
        · rw [num_alone h4 (by omega) (by omega) h3] at h; cases h
theorem esc_end {l : List UInt8} {i : Nat} (h : l.length ≤ i) : escAt l i = none := by unfold escAt; rw [List.getElem?_eq_none h]
theorem esc_at {l : List UInt8} {i : Nat} (h : i < l.length) : escAt l i = match unB l[i] with
    | some n => some (n, i + 1)
    | none => if l[i] = 117 then numAt l i else none := by unfold escAt; rw [List.getElem?_eq_getElem h]
theorem esc_letter {l : List UInt8} {i : Nat} {n : Int} (h : i < l.length) (hn : unB l[i] = some n) : escAt l i = some (n, i + 1) := by rw [esc_at h, hn]
theorem esc_num {l : List UInt8} {i : Nat} (h : i < l.length) (hn : l[i] = 117) : escAt l i = numAt l i := by rw [esc_at h, hn, unB_u]; simp
theorem esc_bad {l : List UInt8} {i : Nat} (h : i < l.length) (hn : unB l[i] = none) (hu : ¬ l[i] = 117) : escAt l i = none := by rw [esc_at h, hn]; simp only; rw [if_neg hu]
theorem escAt_ok {l : List UInt8} {i j : Nat} {n : Int} (h : escAt l i = some (n, j)) : i < j ∧ j ≤ l.length ∧ okR n := by
  by_cases hi : i < l.length
  · cases hu : unB l[i] with
    | some m =>
      rw [esc_letter hi hu] at h
      cases h
      have := unB_ok hu
      exact ⟨by omega, by omega, okR_mk (by omega)⟩
    | none =>
      by_cases h7 : l[i] = 117
      · rw [esc_num hi h7] at h; exact numAt_ok h
      · rw [esc_bad hi hu h7] at h; cases h
  · rw [esc_end (by omega)] at h; cases h
theorem char_esc {l : List UInt8} {i : Nat} (h : l[i]? = some 92) : charAt l i = escAt l (i + 1) := by unfold charAt; rw [if_pos h]
theorem char_end {l : List UInt8} {i : Nat} (h : l.length ≤ i) : charAt l i = none := by
  unfold charAt; rw [List.getElem?_eq_none h, if_neg (by simp), if_neg (by omega)]
theorem char_bad {l : List UInt8} {i : Nat} (h : ¬ l[i]? = some 92) (hb : dec l i = (65533, 1)) : charAt l i = none := by
  unfold charAt; rw [if_neg h, if_neg (fun g => g.2.1 hb)]
theorem char_low {l : List UInt8} {i : Nat} (h : ¬ l[i]? = some 92) (hb : (dec l i).1 < 32) : charAt l i = none := by
  unfold charAt; rw [if_neg h, if_neg (fun g => by omega)]
theorem char_plain {l : List UInt8} {i : Nat} (hi : i < l.length) (h : ¬ l[i]? = some 92) (hb : dec l i ≠ (65533, 1)) (h32 : 32 ≤ (dec l i).1) : charAt l i = some (((dec l i).1 : Int), i + (dec l i).2) := by
  unfold charAt; rw [if_neg h, if_pos ⟨hi, hb, h32⟩]
theorem charAt_ok {l : List UInt8} {i j : Nat} {n : Int} (h : charAt l i = some (n, j)) : i < j ∧ j ≤ l.length ∧ okR n := by
  unfold charAt at h
  split at h
  · have := escAt_ok h; exact ⟨by omega, this.2.1, this.2.2⟩
  · split at h
    · rename_i hg
      cases h
      have := dec_pos hg.1
      refine ⟨by omega, by omega, ?_⟩
      rw [dec_drop]
      exact decL_ok _ (by intro e; have := congrArg List.length e; simp at this; omega)
    · cases h
/-- the characters from i to the closing quote, and the place behind it -/
def readAt (l : List UInt8) (i : Nat) : Option (List Int × Nat) :=
  if l[i]? = some 34 then some ([], i + 1)
  else match charAt l i with
    | none => none
    | some (c, j) => if _h : i < j ∧ i < l.length then (readAt l j).map (fun r => (c :: r.1, r.2)) else none
termination_by l.length - i
decreasing_by omega
theorem read_quote {l : List UInt8} {i : Nat} (h : l[i]? = some 34) : readAt l i = some ([], i + 1) := by rw [readAt, if_pos h]
theorem read_bad {l : List UInt8} {i : Nat} (h : ¬ l[i]? = some 34) (hc : charAt l i = none) : readAt l i = none := by rw [readAt, if_neg h, hc]
theorem read_char {l : List UInt8} {i j : Nat} {c : Int} (h : ¬ l[i]? = some 34) (hc : charAt l i = some (c, j)) : readAt l i = (readAt l j).map (fun r => (c :: r.1, r.2)) := by
  have := charAt_ok hc
  rw [readAt, if_neg h, hc]
  simp only
  rw [dif_pos ⟨this.1, by omega⟩]
def readQ (l : List UInt8) (a : Int) : Option (List Int × Nat) := if 0 ≤ a ∧ l[a.toNat]? = some 34 then readAt l (a.toNat + 1) else none
/-- how far a reading has come: the characters before i -/
def Far (l : List UInt8) (s i : Nat) (rs : List Int) : Prop := s ≤ i ∧ i ≤ l.length ∧ rs.length + s ≤ i ∧ (∀ r ∈ rs, okR r) ∧ readAt l s = (readAt l i).map (fun r => (rs ++ r.1, r.2))
theorem far_start {l : List UInt8} {s : Nat} (h : s ≤ l.length) : Far l s s [] := ⟨Nat.le_refl _, h, by simp, by simp, by cases readAt l s <;> simp⟩
theorem far_step {l : List UInt8} {s i j : Nat} {rs : List Int} {c : Int} (h : Far l s i rs) (hq : ¬ l[i]? = some 34) (hc : charAt l i = some (c, j)) : Far l s j (rs ++ [c]) := by
  obtain ⟨h1, h2, h3, h4, h5⟩ := h
  have hk := charAt_ok hc
  refine ⟨by omega, hk.2.1, by simp; omega, ?_, ?_⟩
  · intro r hr
    rcases List.mem_append.1 hr with g | g
    · exact h4 r g
    · obtain rfl : r = c := by simpa using g
      exact hk.2.2
  · rw [h5, read_char hq hc]
    cases readAt l j <;> simp
theorem far_bad {l : List UInt8} {s i : Nat} {rs : List Int} (h : Far l s i rs) (hq : ¬ l[i]? = some 34) (hc : charAt l i = none) : readAt l s = none := by rw [h.2.2.2.2, read_bad hq hc]; rfl
theorem far_end {l : List UInt8} {s i : Nat} {rs : List Int} (h : Far l s i rs) (hq : l[i]? = some 34) : readAt l s = some (rs, i + 1) := by rw [h.2.2.2.2, read_quote hq]; simp
theorem readAt_ok : ∀ (n : Nat) (l : List UInt8) (i e : Nat) (rs : List Int), l.length - i ≤ n → readAt l i = some (rs, e) → (∀ r ∈ rs, okR r) ∧ i + rs.length + 1 ≤ e ∧ e ≤ l.length
  | n, l, i, e, rs, hn, h => by
    by_cases hq : l[i]? = some 34
    · rw [read_quote hq] at h
      cases h
      have hi : i < l.length := by
        rcases Nat.lt_or_ge i l.length with g | g
        · exact g
        · rw [List.getElem?_eq_none g] at hq; cases hq
      exact ⟨by simp, by simp, hi⟩
    · cases hc : charAt l i with
      | none => rw [read_bad hq hc] at h; cases h
      | some p =>
        obtain ⟨c, j⟩ := p
        have hk := charAt_ok hc
        rw [read_char hq hc, Option.map_eq_some_iff] at h
        obtain ⟨⟨r, e'⟩, hr, he⟩ := h
        cases he
        cases n with
        | zero => omega
        | succ n =>
          have ih := readAt_ok n l j _ r (by omega) hr
          refine ⟨?_, by simp; omega, ih.2.2⟩
          intro x hx
          rcases List.mem_cons.1 hx with g | g
          · subst g; exact hk.2.2
          · exact ih.1 x g
def readV (l : List UInt8) (a : Int) : Value := match readQ l a with
  | none => .tuple #[.string ⟨#[]⟩, .int .i64 0, .int .i64 1]
  | some (rs, e) => .tuple #[.string ⟨(flat rs).toArray⟩, .int .i64 e, .int .i64 0]
end Go.Proofs.Ytnikcgmbkmbloaa
/- A fact on lists: one more element of a copy. -/
namespace Go.Proofs.Ytnikcgmbkmbloaa
theorem fill_set {α : Type} (xs z : List α) (k : Nat) (hk : k < xs.length) (hz : xs.length = z.length) : (xs.take k ++ z.drop k).set k xs[k] = xs.take (k + 1) ++ z.drop (k + 1) := by
  have hzk : k < z.length := by omega
  rw [List.set_append]
  have h1 : (xs.take k).length = k := by simp; omega
  rw [h1, if_neg (by omega), Nat.sub_self, List.drop_eq_getElem_cons hzk, List.set_cons_zero, List.take_succ_eq_append_getElem hk, List.append_assoc]
  rfl
end Go.Proofs.Ytnikcgmbkmbloaa
/- The encoding of a character behind given bytes: the program's and the model's answers, and that they own their memory. -/
namespace Go.Proofs.Ytnikcgmbkmbloaa
open Go.RowKit
theorem bv_cells (l : List UInt8) : bv l = Lib.byteCells l := rfl
theorem enc_one {n : Int} (h : 0 ≤ n) (k : n < 128) : bv (encR n) = [.int .u8 n] := by
  unfold encR; rw [if_pos (okR_mk (by omega)), bv_cells, Lib.byteCells_encodeRune, Lib.runeCells, Lib.encodeRuneZ_one (by omega) (by omega)]; rfl
theorem enc_two {n : Int} (h : 128 ≤ n) (k : n < 2048) : bv (encR n) = [.int .u8 (192 + n / 64), .int .u8 (128 + n % 64)] := by
  unfold encR; rw [if_pos (okR_mk (by omega)), bv_cells, Lib.byteCells_encodeRune, Lib.runeCells, Lib.encodeRuneZ_two (by omega) (by omega)]; rfl
theorem enc_three {n : Int} (h : 2048 ≤ n) (k : n < 65536) (g : n < 55296 ∨ 57343 < n) : bv (encR n) = [.int .u8 (224 + n / 4096), .int .u8 (128 + n / 64 % 64), .int .u8 (128 + n % 64)] := by
  unfold encR; rw [if_pos (okR_mk (by omega)), bv_cells, Lib.byteCells_encodeRune, Lib.runeCells, Lib.encodeRuneZ_three (by omega)]; rfl
theorem enc_four {n : Int} (h : 65536 ≤ n) (k : n ≤ 1114111) : bv (encR n) = [.int .u8 (240 + n / 262144), .int .u8 (128 + n / 4096 % 64), .int .u8 (128 + n / 64 % 64), .int .u8 (128 + n % 64)] := by
  unfold encR; rw [if_pos (okR_mk (by omega)), bv_cells, Lib.byteCells_encodeRune, Lib.runeCells, Lib.encodeRuneZ_four (by omega) (by omega)]; rfl
theorem enc_bad {n : Int} (h : ¬ okR n) : encR n = [] := by unfold encR; rw [if_neg h]
end Go.Proofs.Ytnikcgmbkmbloaa
/- The string of given characters: the program's and the model's answers. -/
namespace Go.Proofs.Ytnikcgmbkmbloaa
open Go.RowKit
set_option maxRecDepth 100000
theorem flat_nil : flat [] = [] := rfl
theorem flat_append (a b : List Int) : flat (a ++ b) = flat a ++ flat b := by simp [flat]
theorem flat_one (n : Int) : flat [n] = encR n := by simp [flat]
theorem flat_len (l : List Int) : (flat l).length ≤ 4 * l.length := by
  induction l with
  | nil => exact Nat.zero_le _
  | cons n l ih =>
    have : flat (n :: l) = encR n ++ flat l := rfl
    rw [this, List.length_append, encR_len, List.length_cons]
    have : wideR n ≤ 4 := by rcases wideR_cases n with h | h | h | h | h <;> omega
    omega
theorem flat_take (l : List Int) (i : Nat) (h : i < l.length) : flat (l.take (i + 1)) = flat (l.take i) ++ encR l[i] := by
  rw [List.take_succ_eq_append_getElem h, flat_append, flat_one]
end Go.Proofs.Ytnikcgmbkmbloaa
/- Quoted strings: what is written is read back; plain facts. -/
namespace Go.Proofs.Ytnikcgmbkmbloaa
theorem at_app (pre x : List UInt8) (k : Nat) : (pre ++ x)[pre.length + k]? = x[k]? := by
  rw [List.getElem?_append_right (by omega), Nat.add_sub_cancel_left]
theorem at_app0 (pre x : List UInt8) : (pre ++ x)[pre.length]? = x[0]? := at_app pre x 0
theorem four_app (pre x : List UInt8) (k : Nat) (h : k + 4 ≤ x.length) : fourAt (pre ++ x) (pre.length + k) = hexN 0 ((x.drop k).take 4) := by
  rw [fourAt_in (by rw [List.length_append]; omega), ← List.drop_drop, List.drop_left]
theorem hexd_low (n : Nat) (h : n < 32) : hexN 0 [48, 48, hexd (n / 16), hexd (n % 16)] = some (n : Int) := by
  have e0 : dig16 48 = 0 := by decide
  have e1 := dig16_hexd (n / 16) (by omega)
  have e2 := dig16_hexd (n % 16) (by omega)
  rw [hexN_good (by omega), hexN_good (by omega), hexN_good (by omega), hexN_good (by omega), e0, e1, e2]
  show some _ = some _
  congr 1
  omega
theorem char_at_esc (pre rest : List UInt8) (n : Int) (h : okR n) : charAt (pre ++ (escL n ++ rest)) pre.length = some (n, pre.length + (escL n).length) ∧ ¬ (pre ++ (escL n ++ rest))[pre.length]? = some 34 := by
  cases hE : escB n with
  | some c =>
    have e := escL_letter hE
    rw [e]
    have g0 : (pre ++ ([92, c] ++ rest))[pre.length]? = some 92 := at_app0 pre _
    have g1 : (pre ++ ([92, c] ++ rest))[pre.length + 1]? = some c := at_app pre _ 1
    refine ⟨?_, by rw [g0]; simp⟩
    obtain ⟨hi, hc⟩ := List.getElem?_eq_some_iff.1 g1
    rw [char_esc g0, esc_letter hi (by rw [hc]; exact unB_escB hE)]
    rfl
  | none =>
    have hok := okR_un h
    by_cases hlow : n < 32
    · have h0 : 0 ≤ n := by omega
      obtain ⟨m, rfl⟩ : ∃ m : Nat, n = m := ⟨n.toNat, by omega⟩
      have e : escL (m : Int) = [92, 117, 48, 48, hexd (m / 16), hexd (m % 16)] := by
        rw [escL_low hE h0 hlow]
        have e2 : (UInt8.ofNat (m : Int).toNat).toNat = m := by simp; omega
        show [92, 117, 48, 48] ++ [hexd ((UInt8.ofNat (m : Int).toNat).toNat / 16), hexd ((UInt8.ofNat (m : Int).toNat).toNat % 16)] = _
        rw [e2]; rfl
      rw [e]
      generalize hx : [92, 117, 48, 48, hexd (m / 16), hexd (m % 16)] ++ rest = x at *
      have g0 : (pre ++ x)[pre.length]? = some 92 := by rw [at_app0, ← hx]; rfl
      have g1 : (pre ++ x)[pre.length + 1]? = some 117 := by rw [at_app, ← hx]; rfl
      refine ⟨?_, by rw [g0]; simp⟩
      obtain ⟨hi, hc⟩ := List.getElem?_eq_some_iff.1 g1
      have h4 : fourAt (pre ++ x) (pre.length + 1 + 1) = some (m : Int) := by
        have hl : 2 + 4 ≤ x.length := by rw [← hx]; simp
        have := four_app pre x 2 hl
        rw [show pre.length + 1 + 1 = pre.length + 2 by omega, this, ← hx]
        exact hexd_low m (by omega)
      rw [char_esc g0, esc_num hi hc, num_one h4 (by omega)]
      rfl
    · have e := escL_plain hE (by omega)
      rw [e]
      obtain ⟨m, rfl⟩ : ∃ m : Nat, n = m := ⟨n.toNat, by omega⟩
      have hd := decode_enc m rest h
      have hdec : dec (pre ++ (encR (m : Int) ++ rest)) pre.length = (m, wideR m) := by rw [dec_drop, List.drop_left]; exact hd
      have hw : 1 ≤ wideR (m : Int) := by rcases wideR_cases (m : Int) with h' | h' | h' | h' | ⟨h', _⟩ <;> first | omega | exact absurd h h'
      have hlen := encR_len (m : Int)
      have hbad : ¬ ((m, wideR (m : Int)) = (65533, 1)) := by
        intro g
        rw [Prod.mk.injEq] at g
        obtain ⟨g1, g2⟩ := g
        rcases wideR_cases (m : Int) with h' | h' | h' | h' | ⟨h', _⟩ <;> first | omega | exact absurd h h'
      have first_ne : ∀ c : UInt8, c.toNat < 128 → m ≠ c.toNat → ¬ (pre ++ (encR (m : Int) ++ rest))[pre.length]? = some c := by
        intro c hc hne g
        rw [at_app0] at g
        cases hx : encR (m : Int) ++ rest with
        | nil => rw [hx] at g; cases g
        | cons a r =>
          rw [hx] at g hd
          obtain rfl : a = c := Option.some.inj g
          have e2 : Lib.decodeL (a :: r) = (a.toNat, 1) := by
            have e : Lib.decodeL (a :: r) = dec (a :: r) 0 := rfl
            rw [e, dec_eq, byte_cons0, decN_one hc]
          rw [e2] at hd
          rw [Prod.mk.injEq] at hd
          exact hne hd.1.symm
      have n34 : m ≠ 34 := by
        intro e; subst e; cases hE
      have n92 : m ≠ 92 := by
        intro e; subst e; cases hE
      refine ⟨?_, first_ne 34 (by decide) n34⟩
      rw [char_plain (by rw [List.length_append, List.length_append]; omega) (first_ne 92 (by decide) n92) (by rw [hdec]; exact hbad) (by rw [hdec]; show 32 ≤ m; omega), hdec, hlen]
theorem read_escs : ∀ (rs : List Int) (pre rest : List UInt8), (∀ r ∈ rs, okR r) → readAt (pre ++ (escsL rs ++ 34 :: rest)) pre.length = some (rs, pre.length + (escsL rs).length + 1)
  | [], pre, rest, _ => by
    rw [read_quote (by rw [at_app0]; rfl)]
    rfl
  | n :: r, pre, rest, h => by
    have hc := char_at_esc pre (escsL r ++ 34 :: rest) n (h n (.head _))
    have ih := read_escs r (pre ++ escL n) rest (fun x hx => h x (.tail _ hx))
    rw [escsL_cons, List.append_assoc, read_char hc.2 hc.1]
    rw [List.append_assoc, List.length_append] at ih
    rw [ih]
    refine congrArg some (Prod.ext rfl ?_)
    show pre.length + (escL n).length + (escsL r).length + 1 = _
    rw [List.length_append]
    show _ = pre.length + ((escL n).length + (escsL r).length) + 1
    omega
theorem runes_okR : ∀ (n : Nat) (l : List UInt8) (rs : List Int), l.length ≤ n → runes l = some rs → ∀ r ∈ rs, okR r
  | 0, l, rs, h, k => by
    obtain rfl : l = [] := List.eq_nil_of_length_eq_zero (by omega)
    rw [runes_nil] at k
    obtain rfl : [] = rs := Option.some.inj k
    intro r hr; cases hr
  | n + 1, l, rs, h, k => by
    by_cases hl : l = []
    · subst hl
      rw [runes_nil] at k
      obtain rfl : [] = rs := Option.some.inj k
      intro r hr; cases hr
    · rw [runes_step l hl] at k
      split at k
      · cases k
      · rw [Option.map_eq_some_iff] at k
        obtain ⟨r, hr, rfl⟩ := k
        have hp := decL_pos l hl
        have ih := runes_okR n _ r (by simp; omega) hr
        intro x hx
        rcases List.mem_cons.1 hx with e | e
        · subst e; exact decL_ok l hl
        · exact ih x e
/-- a quoted text with anything behind it is read back -/
theorem quote_back (l rest : List UInt8) (rs : List Int) (h : runes l = some rs) : readQ (quoteL l ++ rest) 0 = some (rs, (quoteL l).length) := by
  have hq := quoteL_some h
  rw [hq]
  have e : (34 :: (escsL rs ++ [34])) ++ rest = [34] ++ (escsL rs ++ 34 :: rest) := by simp
  rw [e]
  have hr := read_escs rs [34] rest (runes_okR _ l rs (Nat.le_refl _) h)
  unfold readQ
  rw [if_pos ⟨by omega, rfl⟩]
  show readAt _ 1 = _
  refine hr.trans ?_
  simp
  omega
theorem ascii_enc : ∀ x : Fin 128, encR (x.val : Int) = [UInt8.ofNat x.val] := by decide +kernel
theorem ascii_flat : ∀ bs : List UInt8, (∀ b ∈ bs, b.toNat < 128) → flat (bs.map fun b => (b.toNat : Int)) = bs
  | [], _ => rfl
  | b :: r, h => by
    have ih := ascii_flat r (fun x hx => h x (.tail _ hx))
    have e := ascii_enc ⟨b.toNat, h b (.head _)⟩
    show encR (b.toNat : Int) ++ flat (r.map fun b => (b.toNat : Int)) = b :: r
    rw [ih]
    have e' : encR (b.toNat : Int) = [UInt8.ofNat b.toNat] := e
    rw [e']
    simp
theorem escL_flat (n : Int) : ∃ ys, escL n = flat ys := by
  cases hE : escB n with
  | some c =>
    refine ⟨_, (escL_letter hE).trans (ascii_flat [92, c] ?_).symm⟩
    intro b hb
    rcases escB_cases n with ⟨rfl, e⟩ | ⟨rfl, e⟩ | ⟨rfl, e⟩ | ⟨rfl, e⟩ | ⟨rfl, e⟩ | ⟨rfl, e⟩ | ⟨rfl, e⟩ | ⟨_, _, _, _, _, _, _, e⟩
    all_goals (rw [e] at hE; cases hE)
    all_goals (simp at hb; rcases hb with rfl | rfl <;> decide)
  | none =>
    by_cases hlow : 0 ≤ n ∧ n < 32
    · refine ⟨_, (escL_low hE hlow.1 hlow.2).trans (ascii_flat _ ?_).symm⟩
      intro b hb
      have hd : ∀ x : Nat, x < 16 → (hexd x).toNat < 128 := by
        intro x hx
        have h1 : x = 0 ∨ x = 1 ∨ x = 2 ∨ x = 3 ∨ x = 4 ∨ x = 5 ∨ x = 6 ∨ x = 7 ∨ x = 8 ∨ x = 9 ∨ x = 10 ∨ x = 11 ∨ x = 12 ∨ x = 13 ∨ x = 14 ∨ x = 15 := by omega
        rcases h1 with rfl | rfl | rfl | rfl | rfl | rfl | rfl | rfl | rfl | rfl | rfl | rfl | rfl | rfl | rfl | rfl <;> decide
      have hb256 : (UInt8.ofNat n.toNat).toNat < 256 := UInt8.toNat_lt _
      simp only [hexL, List.flatMap_cons, List.flatMap_nil, List.append_nil, List.cons_append, List.nil_append, List.mem_cons, List.not_mem_nil, or_false] at hb
      rcases hb with rfl | rfl | rfl | rfl | rfl | rfl
      · decide
      · decide
      · decide
      · decide
      · exact hd _ (by omega)
      · exact hd _ (by omega)
    · exact ⟨[n], (escL_plain hE hlow).trans (flat_one n).symm⟩
theorem escsL_flat : ∀ rs : List Int, ∃ ys, escsL rs = flat ys
  | [] => ⟨[], rfl⟩
  | n :: r => by
    obtain ⟨y1, h1⟩ := escL_flat n
    obtain ⟨y2, h2⟩ := escsL_flat r
    exact ⟨y1 ++ y2, by rw [escsL_cons, h1, h2, flat_append]⟩
theorem quote_text (l : List UInt8) (rs : List Int) (h : runes l = some rs) : (runes (quoteL l)).isSome = true := by
  obtain ⟨ys, hy⟩ := escsL_flat rs
  have e : quoteL l = flat ([34] ++ ys ++ [34]) := by
    rw [quoteL_some h, flat_append, flat_append, hy]
    rfl
  rw [e, runes_flat]; rfl
theorem flat_text (rs : List Int) : (runes (flat rs)).isSome = true := by rw [runes_flat]; rfl
theorem runes_one {n : Int} (h : okR n) : runes (encR n) = some [n] := by
  have := runes_flat [n]
  rw [flat_one] at this
  rw [this]
  simp [h]
theorem quote_one {n : Int} (h : okR n) : quoteL (encR n) = 34 :: (escL n ++ [34]) := by
  rw [quoteL_some (runes_one h)]; simp [escsL]
theorem one_back {n : Int} (h : okR n) : readQ (34 :: (escL n ++ [34])) 0 = some ([n], (escL n).length + 2) := by
  have := quote_back (encR n) [] [n] (runes_one h)
  rw [quote_one h, List.append_nil] at this
  rw [this]
  simp
end Go.Proofs.Ytnikcgmbkmbloaa
/- Tokens: plain facts: what a token is, what is read at a place, what the tokens of a text are. No program. -/
namespace Go.Proofs.Ytnikcgmbkmbloaa
open Go
/-- a token -/
structure Tok where
  k : Int
  s : List UInt8
  n : Int
  x : Int
def tok0 : Tok := ⟨0, [], 0, 0⟩
def wNull : List UInt8 := [110, 117, 108, 108]
def wTrue : List UInt8 := [116, 114, 117, 101]
def wFalse : List UInt8 := [102, 97, 108, 115, 101]
def preAt (l : List UInt8) (i : Nat) (w : List UInt8) : Bool := (l.drop i).take w.length == w
/-- what is read: the token, the place behind it, the code -/
structure TokR where
  t : Tok
  next : Nat
  code : Nat
def badR (c : Nat) : TokR := ⟨tok0, 0, c⟩
def wordR (l : List UInt8) (i : Nat) : TokR := if preAt l i wNull = true then ⟨⟨4, wNull, 0, 0⟩, i + 4, 0⟩ else if preAt l i wTrue = true then ⟨⟨4, wTrue, 0, 0⟩, i + 4, 0⟩ else if preAt l i wFalse = true then ⟨⟨4, wFalse, 0, 0⟩, i + 5, 0⟩ else badR 1
def textR (l : List UInt8) (i : Nat) : TokR := match readQ l i with
  | none => badR 1
  | some (rs, e) => ⟨⟨2, flat rs, 0, 0⟩, e, 0⟩
def numR (l : List UInt8) (i : Nat) : TokR := if (readN l i).code = 0 then ⟨⟨3, [], (readN l i).n, (readN l i).x⟩, (readN l i).next, 0⟩ else badR (readN l i).code
def charR (l : List UInt8) (i : Nat) (c : UInt8) : TokR := if isSg c = true then ⟨⟨1, [c], 0, 0⟩, i + 1, 0⟩ else if c = 34 then textR l i else if (c == 45 || isD c) = true then numR l i else wordR l i
def tokAt (l : List UInt8) (i : Nat) : TokR := match l[i]? with
  | none => ⟨tok0, i, 0⟩
  | some c => charR l i c
def readTok (l : List UInt8) (i : Nat) : TokR := tokAt l (skE l i)
/-- a token that some text can give -/
inductive GoodTok : Tok → Prop
  | sign (c : UInt8) (h : isSg c = true) : GoodTok ⟨1, [c], 0, 0⟩
  | text (rs : List Int) (h : ∀ r ∈ rs, okR r) : GoodTok ⟨2, flat rs, 0, 0⟩
  | num (n x : Int) (h : n.natAbs < 10 ^ 17) : GoodTok ⟨3, [], n, x⟩
  | word (w : List UInt8) (h : w = wNull ∨ w = wTrue ∨ w = wFalse) : GoodTok ⟨4, w, 0, 0⟩
theorem pre_len {l : List UInt8} {i : Nat} {w : List UInt8} (h : preAt l i w = true) (hw : w ≠ []) : i + w.length ≤ l.length := by
  unfold preAt at h
  have e : (l.drop i).take w.length = w := by simpa using h
  have := congrArg List.length e
  have hp := List.length_pos_iff.2 hw
  simp at this; omega
theorem word_ok {l : List UInt8} {i : Nat} (h : (wordR l i).code = 0) : GoodTok (wordR l i).t ∧ i < (wordR l i).next ∧ (wordR l i).next ≤ l.length := by
  unfold wordR at h ⊢
  split
  · rename_i hp; have := pre_len hp (by decide); exact ⟨.word _ (.inl rfl), by simp, this⟩
  · split
    · rename_i hp; have := pre_len hp (by decide); exact ⟨.word _ (.inr (.inl rfl)), by simp, this⟩
    · split
      · rename_i hp; have := pre_len hp (by decide); exact ⟨.word _ (.inr (.inr rfl)), by simp, this⟩
      · rename_i h1 h2 h3
        rw [if_neg h1, if_neg h2, if_neg h3] at h; cases h
theorem text_ok {l : List UInt8} {i : Nat} (h : (textR l i).code = 0) : GoodTok (textR l i).t ∧ i < (textR l i).next ∧ (textR l i).next ≤ l.length := by
  unfold textR at h ⊢
  cases hq : readQ l i with
  | none => rw [hq] at h; cases h
  | some p =>
    obtain ⟨rs, e⟩ := p
    unfold readQ at hq
    split at hq
    · have := readAt_ok _ l _ e rs (Nat.le_refl _) hq
      simp only at this ⊢
      exact ⟨.text rs this.1, by omega, this.2.2⟩
    · cases hq
theorem val17 {l : List UInt8} (hd : ∀ c ∈ l, isD c = true) (hl : (l.dropWhile (· == 48)).length ≤ 17) : decVal 0 l < 10 ^ 17 := by
  have h1 : decVal 0 (l.dropWhile (· == 48)) = decVal 0 l := by
    clear hd hl
    induction l with
    | nil => rfl
    | cons c r ih =>
      rw [List.dropWhile_cons]
      by_cases hc : c = 48
      · subst hc; rw [if_pos (by decide)]; exact ih
      · rw [if_neg (by simpa using hc)]
  have h2 := decVal_lt (l.dropWhile (· == 48)) (fun c hc => by
    have := hd c ((List.dropWhile_sublist _).subset hc); unfold isD at this; unfold isDig; exact of_decide_eq_true this) 0
  rw [h1] at h2
  refine Nat.lt_of_lt_of_le h2 ?_
  rw [Nat.zero_add, Nat.one_mul]
  exact Nat.pow_le_pow_right (by decide) hl
theorem partsE_digs {l : List UInt8} {neg : Bool} {W F : List UInt8} {a : Nat} (hW : ∀ c ∈ W ++ F, isD c = true) : ∀ c ∈ (partsE l neg W F a).whole ++ (partsE l neg W F a).frac, isD c = true := by
  unfold partsE
  split
  · dsimp only
    split
    all_goals split
    all_goals first | exact hW | (intro c hc; cases hc)
  · exact hW
theorem partsF_digs {l : List UInt8} {neg : Bool} {W : List UInt8} {a : Nat} (hW : ∀ c ∈ W, isD c = true) : ∀ c ∈ (partsF l neg W a).whole ++ (partsF l neg W a).frac, isD c = true := by
  unfold partsF
  split
  · split
    · refine partsE_digs fun c hc => ?_
      rcases List.mem_append.1 hc with g | g
      · exact hW c g
      · exact cut_digs c g
    · intro c hc; cases hc
  · exact partsE_digs (by simpa using hW)
theorem partsW_digs {l : List UInt8} {neg : Bool} {a : Nat} : ∀ c ∈ (partsW l neg a).whole ++ (partsW l neg a).frac, isD c = true := by
  unfold partsW
  split
  · rename_i hd
    refine partsF_digs fun c hc => ?_
    unfold wEnd at hc
    split at hc
    · rename_i h48
      have hl := atC_lt h48
      rw [show cut l a (a + 1) = [l[a]] by unfold cut; rw [List.drop_eq_getElem_cons hl, Nat.add_sub_cancel_left]; rfl] at hc
      obtain rfl : c = l[a] := by simpa using hc
      rw [← atD_get hl]; exact hd
    · exact cut_digs c hc
  · intro c hc; cases hc
theorem pt_digs (l : List UInt8) (i : Nat) : ∀ c ∈ (parts l i).whole ++ (parts l i).frac, isD c = true := by
  unfold parts
  split <;> exact partsW_digs
theorem tnum_ok {l : List UInt8} {i : Nat} (hi : i ≤ l.length) (h : (numR l i).code = 0) : GoodTok (numR l i).t ∧ i < (numR l i).next ∧ (numR l i).next ≤ l.length := by
  unfold numR at h ⊢
  by_cases hc : (readN l i).code = 0
  · rw [if_pos hc]
    have hk := parts_next (readN_code hc)
    have hle := parts_le hi
    rw [← readN_next] at hk hle
    refine ⟨.num _ _ ?_, hk, hle⟩
    have hok := readN_code hc
    unfold readN numOf at hc ⊢
    rw [if_pos hok] at hc ⊢
    split at hc
    · rename_i h17
      rw [if_pos h17]
      have := val17 (pt_digs l i) h17.1
      unfold sgnV
      split
      · simp only; omega
      · simp only; omega
    · cases hc
  · rw [if_neg hc] at h; exact absurd h hc
theorem readTok_ok {l : List UInt8} {i : Nat} (hi : i ≤ l.length) (h : (readTok l i).code = 0) : (readTok l i = ⟨tok0, l.length, 0⟩) ∨ (GoodTok (readTok l i).t ∧ i < (readTok l i).next ∧ (readTok l i).next ≤ l.length) := by
  have hs := skE_ge l i
  have he := skE_le hi
  unfold readTok at h ⊢
  generalize skE l i = j at *
  unfold tokAt at h ⊢
  rcases Nat.lt_or_ge j l.length with g | g
  · right
    rw [List.getElem?_eq_getElem g] at h ⊢
    simp only at h ⊢
    generalize l[j] = c at *
    unfold charR at h ⊢
    split
    · rename_i hsg; exact ⟨.sign c hsg, by simp; omega, by simp; omega⟩
    · rename_i hsg
      rw [if_neg hsg] at h
      split
      · rename_i h34
        rw [if_pos h34] at h
        have := text_ok h; exact ⟨this.1, by omega, this.2.2⟩
      · rename_i h34
        rw [if_neg h34] at h
        split
        · rename_i hn
          rw [if_pos hn] at h
          have := tnum_ok (by omega) h; exact ⟨this.1, by omega, this.2.2⟩
        · rename_i hn
          rw [if_neg hn] at h
          have := word_ok h; exact ⟨this.1, by omega, this.2.2⟩
  · left
    rw [List.getElem?_eq_none g]
    simp only
    rw [show j = l.length by omega]
theorem good_k {t : Tok} (h : GoodTok t) : t.k = 1 ∨ t.k = 2 ∨ t.k = 3 ∨ t.k = 4 := by cases h <;> simp
/-- the tokens from i on, and the code -/
def toks (l : List UInt8) (i : Nat) : List Tok × Nat :=
  if (readTok l i).code ≠ 0 then ([], (readTok l i).code)
  else if (readTok l i).t.k = 0 then ([], 0)
  else if _h : i < (readTok l i).next ∧ (readTok l i).next ≤ l.length then
    (if (toks l (readTok l i).next).2 = 0 then ((readTok l i).t :: (toks l (readTok l i).next).1, 0) else ([], (toks l (readTok l i).next).2))
  else ([], 0)
termination_by l.length - i
decreasing_by all_goals omega
theorem toks_bad {l : List UInt8} {i : Nat} (h : (readTok l i).code ≠ 0) : toks l i = ([], (readTok l i).code) := by rw [toks, if_pos h]
theorem toks_end {l : List UInt8} {i : Nat} (h : (readTok l i).code = 0) (hk : (readTok l i).t.k = 0) : toks l i = ([], 0) := by rw [toks, if_neg (by simpa using h), if_pos hk]
theorem toks_step {l : List UInt8} {i : Nat} (h : (readTok l i).code = 0) (hk : (readTok l i).t.k ≠ 0) (hn : i < (readTok l i).next ∧ (readTok l i).next ≤ l.length) : toks l i = if (toks l (readTok l i).next).2 = 0 then ((readTok l i).t :: (toks l (readTok l i).next).1, 0) else ([], (toks l (readTok l i).next).2) := by
  rw [toks, if_neg (by simpa using h), if_neg hk, dif_pos hn]
/-- how far a reading of tokens has come -/
def FarT (l : List UInt8) (i : Nat) (ts : List Tok) : Prop := i ≤ l.length ∧ ts.length ≤ i ∧ (∀ t ∈ ts, GoodTok t) ∧ toks l 0 = if (toks l i).2 = 0 then (ts ++ (toks l i).1, 0) else ([], (toks l i).2)
theorem farT_start (l : List UInt8) : FarT l 0 [] := by
  refine ⟨Nat.zero_le _, Nat.le_refl _, by simp, ?_⟩
  split
  · rename_i h; rw [List.nil_append]; exact Prod.ext rfl h
  · rename_i h
    refine Prod.ext ?_ rfl
    show (toks l 0).1 = []
    by_cases hc : (readTok l 0).code ≠ 0
    · rw [toks_bad hc]
    · have hc' : (readTok l 0).code = 0 := by simpa using hc
      by_cases hk : (readTok l 0).t.k = 0
      · rw [toks_end hc' hk]
      · rw [toks, if_neg hc, if_neg hk] at h ⊢
        split
        · split
          · rename_i g1 g2; rw [dif_pos g1, if_pos g2] at h; exact absurd rfl h
          · rfl
        · rfl
theorem farT_bad {l : List UInt8} {i : Nat} {ts : List Tok} (h : FarT l i ts) (hc : (readTok l i).code ≠ 0) : toks l 0 = ([], (readTok l i).code) := by
  rw [h.2.2.2, toks_bad hc, if_neg hc]
theorem farT_end {l : List UInt8} {i : Nat} {ts : List Tok} (h : FarT l i ts) (hc : (readTok l i).code = 0) (hk : (readTok l i).t.k = 0) : toks l 0 = (ts, 0) := by
  rw [h.2.2.2, toks_end hc hk, if_pos rfl, List.append_nil]
theorem farT_step {l : List UInt8} {i : Nat} {ts : List Tok} (h : FarT l i ts) (hc : (readTok l i).code = 0) (hk : (readTok l i).t.k ≠ 0) : FarT l (readTok l i).next (ts ++ [(readTok l i).t]) ∧ i < (readTok l i).next := by
  rcases readTok_ok h.1 hc with e | ⟨hg, h1, h2⟩
  · rw [e] at hk; exact absurd rfl hk
  · refine ⟨⟨h2, by have := h.2.1; simp; omega, ?_, ?_⟩, h1⟩
    · intro t ht
      rcases List.mem_append.1 ht with g | g
      · exact h.2.2.1 t g
      · obtain rfl := List.mem_singleton.1 g; exact hg
    · rw [h.2.2.2, toks_step hc hk ⟨h1, h2⟩]
      by_cases hq : (toks l (readTok l i).next).2 = 0
      · rw [if_pos hq, if_pos rfl]; simp [hq]
      · rw [if_neg hq]; simp only; rw [if_neg hq, if_neg hq]
end Go.Proofs.Ytnikcgmbkmbloaa
