import Derived.Test.YtnikcgmbkmbloaaGreatDoorG3
import Derived.Test.YtnikcgmbkmbloaaGreatDoorRows
import Derived.Test.YtnikcgmbkmbloaaGreatDoorG0
import Derived.Test.YtnikcgmbkmbloaaGreatDoorG2
import Derived.WalkKit
import Derived.Lib.Hide
import Derived.Lib.RuneBytes
import Derived.Outline
import Derived.ProofKit
import Derived.Laws.IdiomStrings
import Derived.Laws.BytesArg
/- Quoted strings: plain facts: escapes, quotes, and what is read. -/
namespace Go.Proofs.YtnikcgmbkmbloaaGreatDoor
/-- the letter behind a backslash that stands for n -/
def escB (n : Int) : Option UInt8 := if n = 34 then some 34 else if n = 92 then some 92 else if n = 8 then some 98 else if n = 9 then some 116 else if n = 10 then some 110 else if n = 12 then some 102 else if n = 13 then some 114 else none
def escL (n : Int) : List UInt8 := match escB n with
  | some c => [92, c]
  | none => if 0 ≤ n ∧ n < 32 then [92, 117, 48, 48] ++ hexL [UInt8.ofNat n.toNat] else encR n
def escsL (rs : List Int) : List UInt8 := rs.flatMap escL
def quoteL (l : List UInt8) : List UInt8 := match runes l with
  | none => []
  | some rs => 34 :: (escsL rs ++ [34])
theorem escL_letter {n : Int} {c : UInt8} (h : escB n = some c) : escL n = [92, c] := by unfold escL; rw [h]
theorem escL_low {n : Int} (h : escB n = none) (h0 : 0 ≤ n) (h1 : n < 32) : escL n = [92, 117, 48, 48] ++ hexL [UInt8.ofNat n.toNat] := by unfold escL; rw [h]; simp only; rw [if_pos ⟨h0, h1⟩]
theorem escL_plain {n : Int} (h : escB n = none) (h1 : ¬ (0 ≤ n ∧ n < 32)) : escL n = encR n := by unfold escL; rw [h]; simp only; rw [if_neg h1]
theorem escB_none {n : Int} (h34 : n ≠ 34) (h92 : n ≠ 92) (h8 : n ≠ 8) (h9 : n ≠ 9) (h10 : n ≠ 10) (h12 : n ≠ 12) (h13 : n ≠ 13) : escB n = none := by
  unfold escB; rw [if_neg h34, if_neg h92, if_neg h8, if_neg h9, if_neg h10, if_neg h12, if_neg h13]
theorem escB_cases (n : Int) : (n = 34 ∧ escB n = some 34) ∨ (n = 92 ∧ escB n = some 92) ∨ (n = 8 ∧ escB n = some 98) ∨ (n = 9 ∧ escB n = some 116) ∨ (n = 10 ∧ escB n = some 110) ∨ (n = 12 ∧ escB n = some 102) ∨ (n = 13 ∧ escB n = some 114)
    ∨ (n ≠ 34 ∧ n ≠ 92 ∧ n ≠ 8 ∧ n ≠ 9 ∧ n ≠ 10 ∧ n ≠ 12 ∧ n ≠ 13 ∧ escB n = none) := by
  by_cases h34 : n = 34
  · subst h34; exact .inl ⟨rfl, rfl⟩
  by_cases h92 : n = 92
  · subst h92; exact .inr (.inl ⟨rfl, rfl⟩)
  by_cases h8 : n = 8
  · subst h8; exact .inr (.inr (.inl ⟨rfl, rfl⟩))
  by_cases h9 : n = 9
  · subst h9; exact .inr (.inr (.inr (.inl ⟨rfl, rfl⟩)))
  by_cases h10 : n = 10
  · subst h10; exact .inr (.inr (.inr (.inr (.inl ⟨rfl, rfl⟩))))
  by_cases h12 : n = 12
  · subst h12; exact .inr (.inr (.inr (.inr (.inr (.inl ⟨rfl, rfl⟩)))))
  by_cases h13 : n = 13
  · subst h13; exact .inr (.inr (.inr (.inr (.inr (.inr (.inl ⟨rfl, rfl⟩))))))
  exact .inr (.inr (.inr (.inr (.inr (.inr (.inr ⟨h34, h92, h8, h9, h10, h12, h13, escB_none h34 h92 h8 h9 h10 h12 h13⟩))))))
theorem escB_ok {n : Int} {c : UInt8} (h : escB n = some c) : 0 ≤ n ∧ n < 128 := by
  rcases escB_cases n with ⟨e, _⟩ | ⟨e, _⟩ | ⟨e, _⟩ | ⟨e, _⟩ | ⟨e, _⟩ | ⟨e, _⟩ | ⟨e, _⟩ | ⟨_, _, _, _, _, _, _, e⟩
  all_goals first | omega | (rw [e] at h; cases h)
theorem escL_len (n : Int) : (escL n).length ≤ 6 := by
  unfold escL
  split
  · simp
  · split
    · simp [hexL]
    · rw [encR_len]; rcases wideR_cases n with h | h | h | h | h <;> omega
theorem escsL_nil : escsL [] = [] := rfl
theorem escsL_cons (n : Int) (r : List Int) : escsL (n :: r) = escL n ++ escsL r := rfl
theorem escsL_app (a b : List Int) : escsL (a ++ b) = escsL a ++ escsL b := by simp [escsL]
theorem escsL_take (l : List Int) (i : Nat) (h : i < l.length) : escsL (l.take (i + 1)) = escsL (l.take i) ++ escL l[i] := by
  rw [List.take_succ_eq_append_getElem h, escsL_app]; simp [escsL]
theorem escsL_len (l : List Int) : (escsL l).length ≤ 6 * l.length := by
  induction l with
  | nil => exact Nat.zero_le _
  | cons n r ih => rw [escsL_cons, List.length_append, List.length_cons]; have := escL_len n; omega
theorem quoteL_none {l : List UInt8} (h : runes l = none) : quoteL l = [] := by unfold quoteL; rw [h]
theorem quoteL_some {l : List UInt8} {rs : List Int} (h : runes l = some rs) : quoteL l = 34 :: (escsL rs ++ [34]) := by unfold quoteL; rw [h]
theorem quoteL_len (l : List UInt8) : (quoteL l).length ≤ 6 * l.length + 2 := by
  cases h : runes l with
  | none => rw [quoteL_none h]; simp
  | some rs =>
    rw [quoteL_some h]
    have h1 := runes_len _ l rs (Nat.le_refl _) h
    have h2 := escsL_len rs
    simp
    omega
/-- a hexadecimal digit's number, upper case too -/
def dig16 (c : UInt8) : Int := if 65 ≤ c.toNat ∧ c.toNat ≤ 70 then (c.toNat : Int) - 55 else hexv c
theorem dig16_range (c : UInt8) : -1 ≤ dig16 c ∧ dig16 c ≤ 15 := by have := hexv_range c; unfold dig16; split <;> omega
theorem dig16_hexd (x : Nat) (h : x < 16) : dig16 (hexd x) = x := by
  have h1 : x = 0 ∨ x = 1 ∨ x = 2 ∨ x = 3 ∨ x = 4 ∨ x = 5 ∨ x = 6 ∨ x = 7 ∨ x = 8 ∨ x = 9 ∨ x = 10 ∨ x = 11 ∨ x = 12 ∨ x = 13 ∨ x = 14 ∨ x = 15 := by omega
  rcases h1 with rfl | rfl | rfl | rfl | rfl | rfl | rfl | rfl | rfl | rfl | rfl | rfl | rfl | rfl | rfl | rfl <;> decide
/-- the number that digits denote, behind n -/
def hexN (n : Int) : List UInt8 → Option Int
  | [] => some n
  | c :: r => if 0 ≤ dig16 c then hexN (16 * n + dig16 c) r else none
theorem hexN_bad {n : Int} {c : UInt8} {r : List UInt8} (h : ¬ 0 ≤ dig16 c) : hexN n (c :: r) = none := by unfold hexN; rw [if_neg h]
theorem hexN_good {n : Int} {c : UInt8} {r : List UInt8} (h : 0 ≤ dig16 c) : hexN n (c :: r) = hexN (16 * n + dig16 c) r := by
  show (if 0 ≤ dig16 c then hexN (16 * n + dig16 c) r else none) = _
  rw [if_pos h]
theorem hexN_range : ∀ (l : List UInt8) (n m : Int), 0 ≤ n → hexN n l = some m → 0 ≤ m ∧ m < (n + 1) * 16 ^ l.length
  | [], n, m, h0, h => by unfold hexN at h; cases h; simp; omega
  | c :: r, n, m, h0, h => by
    have hd := dig16_range c
    by_cases hc : 0 ≤ dig16 c
    · rw [hexN_good hc] at h
      have ih := hexN_range r _ m (by omega) h
      refine ⟨ih.1, Int.lt_of_lt_of_le ih.2 ?_⟩
      rw [List.length_cons, Int.pow_succ, Int.mul_comm (16 ^ r.length) 16, ← Int.mul_assoc]
      exact Int.mul_le_mul_of_nonneg_right (by omega) (Int.pow_nonneg (by omega))
    · rw [hexN_bad hc] at h; cases h
def fourAt (l : List UInt8) (i : Nat) : Option Int := if i + 4 ≤ l.length then hexN 0 ((l.drop i).take 4) else none
theorem fourAt_out {l : List UInt8} {i : Nat} (h : ¬ i + 4 ≤ l.length) : fourAt l i = none := by unfold fourAt; rw [if_neg h]
theorem fourAt_in {l : List UInt8} {i : Nat} (h : i + 4 ≤ l.length) : fourAt l i = hexN 0 ((l.drop i).take 4) := by unfold fourAt; rw [if_pos h]
theorem fourAt_range {l : List UInt8} {i : Nat} {n : Int} (h : fourAt l i = some n) : 0 ≤ n ∧ n ≤ 65535 ∧ i + 4 ≤ l.length := by
  unfold fourAt at h
  split at h
  · rename_i hl
    have := hexN_range _ _ _ (Int.le_refl 0) h
    have e : ((l.drop i).take 4).length = 4 := by simp; omega
    rw [e] at this
    have e2 : (0 + 1) * (16 : Int) ^ 4 = 65536 := by decide
    rw [e2] at this
    exact ⟨this.1, by omega, hl⟩
  · cases h
def fourV (l : List UInt8) (a : Int) : Value := match (if 0 ≤ a then fourAt l a.toNat else none) with
  | none => .tuple #[.int .i64 0, .bool false]
  | some n => .tuple #[.int .i64 n, .bool true]
/-- the character for a letter behind a backslash -/
def unB (c : UInt8) : Option Int := if c = 34 then some 34 else if c = 92 then some 92 else if c = 47 then some 47 else if c = 98 then some 8 else if c = 116 then some 9 else if c = 110 then some 10 else if c = 102 then some 12 else if c = 114 then some 13 else none
theorem unB_escB {n : Int} {c : UInt8} (h : escB n = some c) : unB c = some n := by
  rcases escB_cases n with ⟨rfl, e⟩ | ⟨rfl, e⟩ | ⟨rfl, e⟩ | ⟨rfl, e⟩ | ⟨rfl, e⟩ | ⟨rfl, e⟩ | ⟨rfl, e⟩ | ⟨_, _, _, _, _, _, _, e⟩
  all_goals (rw [e] at h; cases h)
  all_goals rfl
theorem unB_u : unB 117 = none := rfl
theorem unB_ok {c : UInt8} {n : Int} (h : unB c = some n) : 0 ≤ n ∧ n ≤ 127 := by
  unfold unB at h
  repeat' (split at h; · cases h; omega)
  cases h
/-- the numbered escape (or the pair) whose letter u stands at i -/
def numAt (l : List UInt8) (i : Nat) : Option (Int × Nat) :=
  match fourAt l (i + 1) with
  | none => none
  | some n => if n < 55296 ∨ 57343 < n then some (n, i + 5)
    else if n < 56320 ∧ l[i + 5]? = some 92 ∧ l[i + 6]? = some 117 then
      match fourAt l (i + 7) with
      | none => none
      | some m => if 56320 ≤ m ∧ m ≤ 57343 then some (65536 + 1024 * (n - 55296) + (m - 56320), i + 11) else none
    else none
/-- what stands behind a backslash, from i on -/
def escAt (l : List UInt8) (i : Nat) : Option (Int × Nat) :=
  match l[i]? with
  | none => none
  | some c => match unB c with
    | some n => some (n, i + 1)
    | none => if c = 117 then numAt l i else none
def charAt (l : List UInt8) (i : Nat) : Option (Int × Nat) :=
  if l[i]? = some 92 then escAt l (i + 1)
  else if i < l.length ∧ dec l i ≠ (65533, 1) ∧ 32 ≤ (dec l i).1 then some (((dec l i).1 : Int), i + (dec l i).2) else none
theorem num_four {l : List UInt8} {i : Nat} (h : fourAt l (i + 1) = none) : numAt l i = none := by unfold numAt; rw [h]
theorem num_one {l : List UInt8} {i : Nat} {n : Int} (h : fourAt l (i + 1) = some n) (hn : n < 55296 ∨ 57343 < n) : numAt l i = some (n, i + 5) := by unfold numAt; rw [h]; simp only; rw [if_pos hn]
theorem num_low {l : List UInt8} {i : Nat} {n : Int} (h : fourAt l (i + 1) = some n) (hn : 56320 ≤ n) (hn2 : n ≤ 57343) : numAt l i = none := by unfold numAt; rw [h]; simp only; rw [if_neg (by omega), if_neg (by omega)]
theorem num_alone {l : List UInt8} {i : Nat} {n : Int} (h : fourAt l (i + 1) = some n) (hn : 55296 ≤ n) (hn2 : n ≤ 57343) (hp : ¬ (l[i + 5]? = some 92 ∧ l[i + 6]? = some 117)) : numAt l i = none := by
  unfold numAt; rw [h]; simp only; rw [if_neg (by omega), if_neg (fun g => hp g.2)]
theorem num_pair {l : List UInt8} {i : Nat} {n : Int} (h : fourAt l (i + 1) = some n) (hn : 55296 ≤ n) (hn2 : n < 56320) (h5 : l[i + 5]? = some 92) (h6 : l[i + 6]? = some 117) :
    numAt l i = match fourAt l (i + 7) with
      | none => none
      | some m => if 56320 ≤ m ∧ m ≤ 57343 then some (65536 + 1024 * (n - 55296) + (m - 56320), i + 11) else none := by
  unfold numAt; rw [h]; simp only; rw [if_neg (by omega), if_pos ⟨hn2, h5, h6⟩]
theorem num_pair_none {l : List UInt8} {i : Nat} {n : Int} (h : fourAt l (i + 1) = some n) (hn : 55296 ≤ n) (hn2 : n < 56320) (h5 : l[i + 5]? = some 92) (h6 : l[i + 6]? = some 117) (h7 : fourAt l (i + 7) = none) : numAt l i = none := by
  rw [num_pair h hn hn2 h5 h6, h7]
theorem num_pair_bad {l : List UInt8} {i : Nat} {n m : Int} (h : fourAt l (i + 1) = some n) (hn : 55296 ≤ n) (hn2 : n < 56320) (h5 : l[i + 5]? = some 92) (h6 : l[i + 6]? = some 117) (h7 : fourAt l (i + 7) = some m) (hm : ¬ (56320 ≤ m ∧ m ≤ 57343)) : numAt l i = none := by
  rw [num_pair h hn hn2 h5 h6, h7]; simp only; rw [if_neg hm]
theorem num_pair_good {l : List UInt8} {i : Nat} {n m : Int} (h : fourAt l (i + 1) = some n) (hn : 55296 ≤ n) (hn2 : n < 56320) (h5 : l[i + 5]? = some 92) (h6 : l[i + 6]? = some 117) (h7 : fourAt l (i + 7) = some m) (hm : 56320 ≤ m ∧ m ≤ 57343) : numAt l i = some (65536 + 1024 * (n - 55296) + (m - 56320), i + 11) := by
  rw [num_pair h hn hn2 h5 h6, h7]; simp only; rw [if_pos hm]
theorem numAt_ok {l : List UInt8} {i j : Nat} {n : Int} (h : numAt l i = some (n, j)) : i < j ∧ j ≤ l.length ∧ okR n := by
  cases h4 : fourAt l (i + 1) with
  | none => rw [num_four h4] at h; cases h
  | some a =>
    have hr := fourAt_range h4
    by_cases h1 : a < 55296 ∨ 57343 < a
    · rw [num_one h4 h1] at h
      cases h
      exact ⟨by omega, by omega, okR_mk (by omega)⟩
    · by_cases h2 : 56320 ≤ a
      · rw [num_low h4 h2 (by omega)] at h; cases h
      · by_cases h3 : l[i + 5]? = some 92 ∧ l[i + 6]? = some 117
        · cases h7 : fourAt l (i + 7) with
          | none => rw [num_pair_none h4 (by omega) (by omega) h3.1 h3.2 h7] at h; cases h
          | some m =>
            have hr2 := fourAt_range h7
            by_cases hm : 56320 ≤ m ∧ m ≤ 57343
            · rw [num_pair_good h4 (by omega) (by omega) h3.1 h3.2 h7 hm] at h
              cases h
              exact ⟨by omega, by omega, okR_mk (by omega)⟩
            · rw [num_pair_bad h4 (by omega) (by omega) h3.1 h3.2 h7 hm] at h; cases h
        · rw [num_alone h4 (by omega) (by omega) h3] at h; cases h
theorem esc_end {l : List UInt8} {i : Nat} (h : l.length ≤ i) : escAt l i = none := by unfold escAt; rw [List.getElem?_eq_none h]
theorem esc_at {l : List UInt8} {i : Nat} (h : i < l.length) : escAt l i = match unB l[i] with
    | some n => some (n, i + 1)
    | none => if l[i] = 117 then numAt l i else none := by unfold escAt; rw [List.getElem?_eq_getElem h]
theorem esc_letter {l : List UInt8} {i : Nat} {n : Int} (h : i < l.length) (hn : unB l[i] = some n) : escAt l i = some (n, i + 1) := by rw [esc_at h, hn]
theorem esc_num {l : List UInt8} {i : Nat} (h : i < l.length) (hn : l[i] = 117) : escAt l i = numAt l i := by rw [esc_at h, hn, unB_u]; simp
theorem esc_bad {l : List UInt8} {i : Nat} (h : i < l.length) (hn : unB l[i] = none) (hu : ¬ l[i] = 117) : escAt l i = none := by rw [esc_at h, hn]; simp only; rw [if_neg hu]
theorem escAt_ok {l : List UInt8} {i j : Nat} {n : Int} (h : escAt l i = some (n, j)) : i < j ∧ j ≤ l.length ∧ okR n := by
  by_cases hi : i < l.length
  · cases hu : unB l[i] with
    | some m =>
      rw [esc_letter hi hu] at h
      cases h
      have := unB_ok hu
      exact ⟨by omega, by omega, okR_mk (by omega)⟩
    | none =>
      by_cases h7 : l[i] = 117
      · rw [esc_num hi h7] at h; exact numAt_ok h
      · rw [esc_bad hi hu h7] at h; cases h
  · rw [esc_end (by omega)] at h; cases h
theorem char_esc {l : List UInt8} {i : Nat} (h : l[i]? = some 92) : charAt l i = escAt l (i + 1) := by unfold charAt; rw [if_pos h]
theorem char_end {l : List UInt8} {i : Nat} (h : l.length ≤ i) : charAt l i = none := by
  unfold charAt; rw [List.getElem?_eq_none h, if_neg (by simp), if_neg (by omega)]
theorem char_bad {l : List UInt8} {i : Nat} (h : ¬ l[i]? = some 92) (hb : dec l i = (65533, 1)) : charAt l i = none := by
  unfold charAt; rw [if_neg h, if_neg (fun g => g.2.1 hb)]
theorem char_low {l : List UInt8} {i : Nat} (h : ¬ l[i]? = some 92) (hb : (dec l i).1 < 32) : charAt l i = none := by
  unfold charAt; rw [if_neg h, if_neg (fun g => by omega)]
theorem char_plain {l : List UInt8} {i : Nat} (hi : i < l.length) (h : ¬ l[i]? = some 92) (hb : dec l i ≠ (65533, 1)) (h32 : 32 ≤ (dec l i).1) : charAt l i = some (((dec l i).1 : Int), i + (dec l i).2) := by
  unfold charAt; rw [if_neg h, if_pos ⟨hi, hb, h32⟩]
theorem charAt_ok {l : List UInt8} {i j : Nat} {n : Int} (h : charAt l i = some (n, j)) : i < j ∧ j ≤ l.length ∧ okR n := by
  unfold charAt at h
  split at h
  · have := escAt_ok h; exact ⟨by omega, this.2.1, this.2.2⟩
  · split at h
    · rename_i hg
      cases h
      have := dec_pos hg.1
      refine ⟨by omega, by omega, ?_⟩
      rw [dec_drop]
      exact decL_ok _ (by intro e; have := congrArg List.length e; simp at this; omega)
    · cases h
/-- the characters from i to the closing quote, and the place behind it -/
def readAt (l : List UInt8) (i : Nat) : Option (List Int × Nat) :=
  if l[i]? = some 34 then some ([], i + 1)
  else match charAt l i with
    | none => none
    | some (c, j) => if _h : i < j ∧ i < l.length then (readAt l j).map (fun r => (c :: r.1, r.2)) else none
termination_by l.length - i
decreasing_by omega
theorem read_quote {l : List UInt8} {i : Nat} (h : l[i]? = some 34) : readAt l i = some ([], i + 1) := by rw [readAt, if_pos h]
theorem read_bad {l : List UInt8} {i : Nat} (h : ¬ l[i]? = some 34) (hc : charAt l i = none) : readAt l i = none := by rw [readAt, if_neg h, hc]
theorem read_char {l : List UInt8} {i j : Nat} {c : Int} (h : ¬ l[i]? = some 34) (hc : charAt l i = some (c, j)) : readAt l i = (readAt l j).map (fun r => (c :: r.1, r.2)) := by
  have := charAt_ok hc
  rw [readAt, if_neg h, hc]
  simp only
  rw [dif_pos ⟨this.1, by omega⟩]
def readQ (l : List UInt8) (a : Int) : Option (List Int × Nat) := if 0 ≤ a ∧ l[a.toNat]? = some 34 then readAt l (a.toNat + 1) else none
/-- how far a reading has come: the characters before i -/
def Far (l : List UInt8) (s i : Nat) (rs : List Int) : Prop := s ≤ i ∧ i ≤ l.length ∧ rs.length + s ≤ i ∧ (∀ r ∈ rs, okR r) ∧ readAt l s = (readAt l i).map (fun r => (rs ++ r.1, r.2))
theorem far_start {l : List UInt8} {s : Nat} (h : s ≤ l.length) : Far l s s [] := ⟨Nat.le_refl _, h, by simp, by simp, by cases readAt l s <;> simp⟩
theorem far_step {l : List UInt8} {s i j : Nat} {rs : List Int} {c : Int} (h : Far l s i rs) (hq : ¬ l[i]? = some 34) (hc : charAt l i = some (c, j)) : Far l s j (rs ++ [c]) := by
  obtain ⟨h1, h2, h3, h4, h5⟩ := h
  have hk := charAt_ok hc
  refine ⟨by omega, hk.2.1, by simp; omega, ?_, ?_⟩
  · intro r hr
    rcases List.mem_append.1 hr with g | g
    · exact h4 r g
    · obtain rfl : r = c := by simpa using g
      exact hk.2.2
  · rw [h5, read_char hq hc]
    cases readAt l j <;> simp
theorem far_bad {l : List UInt8} {s i : Nat} {rs : List Int} (h : Far l s i rs) (hq : ¬ l[i]? = some 34) (hc : charAt l i = none) : readAt l s = none := by rw [h.2.2.2.2, read_bad hq hc]; rfl
theorem far_end {l : List UInt8} {s i : Nat} {rs : List Int} (h : Far l s i rs) (hq : l[i]? = some 34) : readAt l s = some (rs, i + 1) := by rw [h.2.2.2.2, read_quote hq]; simp
theorem readAt_ok : ∀ (n : Nat) (l : List UInt8) (i e : Nat) (rs : List Int), l.length - i ≤ n → readAt l i = some (rs, e) → (∀ r ∈ rs, okR r) ∧ i + rs.length + 1 ≤ e ∧ e ≤ l.length
  | n, l, i, e, rs, hn, h => by
    by_cases hq : l[i]? = some 34
    · rw [read_quote hq] at h
      cases h
      have hi : i < l.length := by
        rcases Nat.lt_or_ge i l.length with g | g
        · exact g
        · rw [List.getElem?_eq_none g] at hq; cases hq
      exact ⟨by simp, by simp, hi⟩
    · cases hc : charAt l i with
      | none => rw [read_bad hq hc] at h; cases h
      | some p =>
        obtain ⟨c, j⟩ := p
        have hk := charAt_ok hc
        rw [read_char hq hc, Option.map_eq_some_iff] at h
        obtain ⟨⟨r, e'⟩, hr, he⟩ := h
        cases he
        cases n with
        | zero => omega
        | succ n =>
          have ih := readAt_ok n l j _ r (by omega) hr
          refine ⟨?_, by simp; omega, ih.2.2⟩
          intro x hx
          rcases List.mem_cons.1 hx with g | g
          · subst g; exact hk.2.2
          · exact ih.1 x g
def readV (l : List UInt8) (a : Int) : Value := match readQ l a with
  | none => .tuple #[.string ⟨#[]⟩, .int .i64 0, .int .i64 1]
  | some (rs, e) => .tuple #[.string ⟨(flat rs).toArray⟩, .int .i64 e, .int .i64 0]
end Go.Proofs.YtnikcgmbkmbloaaGreatDoor
/- A fact on lists: one more element of a copy. -/
namespace Go.Proofs.YtnikcgmbkmbloaaGreatDoor
theorem fill_set {α : Type} (xs z : List α) (k : Nat) (hk : k < xs.length) (hz : xs.length = z.length) : (xs.take k ++ z.drop k).set k xs[k] = xs.take (k + 1) ++ z.drop (k + 1) := by
  have hzk : k < z.length := by omega
  rw [List.set_append]
  have h1 : (xs.take k).length = k := by simp; omega
  rw [h1, if_neg (by omega), Nat.sub_self, List.drop_eq_getElem_cons hzk, List.set_cons_zero, List.take_succ_eq_append_getElem hk, List.append_assoc]
  rfl
end Go.Proofs.YtnikcgmbkmbloaaGreatDoor
/- The encoding of a character behind given bytes: the program's and the model's answers, and that they own their memory. -/
namespace Go.Proofs.YtnikcgmbkmbloaaGreatDoor
open Go.RowKit
theorem bv_cells (l : List UInt8) : bv l = Lib.byteCells l := rfl
theorem enc_one {n : Int} (h : 0 ≤ n) (k : n < 128) : bv (encR n) = [.int .u8 n] := by
  unfold encR; rw [if_pos (okR_mk (by omega)), bv_cells, Lib.byteCells_encodeRune, Lib.runeCells, Lib.encodeRuneZ_one (by omega) (by omega)]; rfl
theorem enc_two {n : Int} (h : 128 ≤ n) (k : n < 2048) : bv (encR n) = [.int .u8 (192 + n / 64), .int .u8 (128 + n % 64)] := by
  unfold encR; rw [if_pos (okR_mk (by omega)), bv_cells, Lib.byteCells_encodeRune, Lib.runeCells, Lib.encodeRuneZ_two (by omega) (by omega)]; rfl
theorem enc_three {n : Int} (h : 2048 ≤ n) (k : n < 65536) (g : n < 55296 ∨ 57343 < n) : bv (encR n) = [.int .u8 (224 + n / 4096), .int .u8 (128 + n / 64 % 64), .int .u8 (128 + n % 64)] := by
  unfold encR; rw [if_pos (okR_mk (by omega)), bv_cells, Lib.byteCells_encodeRune, Lib.runeCells, Lib.encodeRuneZ_three (by omega)]; rfl
theorem enc_four {n : Int} (h : 65536 ≤ n) (k : n ≤ 1114111) : bv (encR n) = [.int .u8 (240 + n / 262144), .int .u8 (128 + n / 4096 % 64), .int .u8 (128 + n / 64 % 64), .int .u8 (128 + n % 64)] := by
  unfold encR; rw [if_pos (okR_mk (by omega)), bv_cells, Lib.byteCells_encodeRune, Lib.runeCells, Lib.encodeRuneZ_four (by omega) (by omega)]; rfl
theorem enc_bad {n : Int} (h : ¬ okR n) : encR n = [] := by unfold encR; rw [if_neg h]
theorem put_spec (w : World) (b o cap : Nat) (l : List UInt8) (n : Int) (hc : ∀ j u, (bv l)[j]? = some u → w.cell? ⟨b, o + j, none⟩ = some u) (hl : l.length ≤ 1099511627776) :
    Calls Tryz.prog 186 #[.slice (some ⟨b, o, none⟩) l.length cap, .int .i64 n] w (Fresh w (l ++ encR n)) := by
  obtain ⟨i0, hi, hz0, hz1, hz2⟩ := info_parts byteInfo'
  have cw := wide_spec n
  have c1 : ∀ o', ∀ j u, (bv l)[j]? = some u → (w.alloc o').cell? ((⟨b, o, none⟩ : Addr).add j) = some u := by
    intro o' j u hu
    rw [addr_add, ((Below.refl w.heap.size w).alloc (Nat.le_refl _) o').cell (p := ⟨b, o + j, none⟩) (cell_lt (hc j u hu))]
    exact hc j u hu
  go_enter Tryz.func186, Tryz.ntmps186
  go_wp2_with (at_builtin; refine wpList_append_own _ rfl _ _ 22 rfl w.heap.size 5 i0 (.int .u8 0) 1 1 Tryz.underlying22 hi hz0 hz1 hz2 rfl (by decide) _ _ _ rfl (World.ownsRow_made w #[] 0 (Nat.le_refl _) (by decide) rfl) ⟨b, o, none⟩ l.length cap (bv l) rfl (by simp) (c1 _) (bv_cell l) ?c3 ?c4 ?c5 ?_)
  case c3 => unfold maxLen; omega
  case c4 => omega
  case c5 => simp
  intro v1 w1 hown hgrow hnil
  have hb1 : Below w.heap.size w w1 := ((Below.refl w.heap.size w).alloc (Nat.le_refl _) _).trans (grown_belowN hgrow (by simp) (by simp [Value.ownBlock]))
  have HN := Lib.hid hnil
  clear hgrow hnil c1 hc
  rcases wideR_cases n with ⟨h0, h1, e⟩ | ⟨h0, h1, e⟩ | ⟨h0, h1, h2, e⟩ | ⟨h0, h1, e⟩ | ⟨h0, e⟩
  · rw [e] at cw
    go_wp2_with fail
    refine (cw _).mono ?_
    rintro e' w' ⟨rfl, rfl⟩
    have hm : n % 256 = n := by omega
    go_wp2_with (at_builtin; refine wpList_append_own _ rfl _ _ 22 rfl w.heap.size 5 i0 (.int .u8 0) 1 1 Tryz.underlying22 hi hz0 hz1 hz2 rfl (by decide) _ _ _ rfl (hown.alloc _) ⟨w1.heap.size, 0, none⟩ 1 1 [.int .u8 n] rfl rfl ?c1 ?c2 ?c3 ?c4 ?c5 ?_)
    case c1 =>
      intro j u hj
      match j, hj with
      | 0, hj => simp at hj; subst hj; simp [Addr.add]
      | (j + 1), hj => simp at hj
    case c2 => intro u hu; simp at hu; rcases hu with rfl; rfl
    case c3 => unfold maxLen; omega
    case c4 => omega
    case c5 => have := hb1.size; simp; omega
    intro v2 w2 hown2 hgrow _
    have hb2 := below_step hb1 hb1.size hown hgrow
    clear hgrow hown
    go_wp2
    go_ret
    refine ⟨_, rfl, own_nonnil hown2 (by omega), ?_, hb2⟩
    rw [List.length_append, encR_len, e, bv_append, enc_one h0 h1]
    exact hown2
  · rw [e] at cw
    go_wp2_with fail
    refine (cw _).mono ?_
    rintro e' w' ⟨rfl, rfl⟩
    have hm1 : (192 + n / 64) % 256 = 192 + n / 64 := by omega
    have hm2 : (128 + n % 64) % 256 = 128 + n % 64 := by omega
    go_wp2_with (at_builtin; refine wpList_append_own _ rfl _ _ 22 rfl w.heap.size 5 i0 (.int .u8 0) 1 1 Tryz.underlying22 hi hz0 hz1 hz2 rfl (by decide) _ _ _ rfl (hown.alloc _) ⟨w1.heap.size, 0, none⟩ 2 2 [.int .u8 (192 + n / 64), .int .u8 (128 + n % 64)] rfl rfl ?c1 ?c2 ?c3 ?c4 ?c5 ?_)
    case c1 =>
      intro j u hj
      match j, hj with
      | 0, hj => simp at hj; subst hj; simp [Addr.add]
      | 1, hj => simp at hj; subst hj; simp [Addr.add]
      | (j + 2), hj => simp at hj
    case c2 => intro u hu; simp at hu; rcases hu with rfl | rfl <;> rfl
    case c3 => unfold maxLen; omega
    case c4 => omega
    case c5 => have := hb1.size; simp; omega
    intro v2 w2 hown2 hgrow _
    have hb2 := below_step hb1 hb1.size hown hgrow
    clear hgrow hown
    go_wp2
    go_ret
    refine ⟨_, rfl, own_nonnil hown2 (by omega), ?_, hb2⟩
    rw [List.length_append, encR_len, e, bv_append, enc_two h0 h1]
    exact hown2
  · rw [e] at cw
    go_wp2_with fail
    refine (cw _).mono ?_
    rintro e' w' ⟨rfl, rfl⟩
    have hm1 : (224 + n / 4096) % 256 = 224 + n / 4096 := by omega
    have hm2 : (128 + n / 64 % 64) % 256 = 128 + n / 64 % 64 := by omega
    have hm3 : (128 + n % 64) % 256 = 128 + n % 64 := by omega
    go_wp2_with (at_builtin; refine wpList_append_own _ rfl _ _ 22 rfl w.heap.size 5 i0 (.int .u8 0) 1 1 Tryz.underlying22 hi hz0 hz1 hz2 rfl (by decide) _ _ _ rfl (hown.alloc _) ⟨w1.heap.size, 0, none⟩ 3 3 [.int .u8 (224 + n / 4096), .int .u8 (128 + n / 64 % 64), .int .u8 (128 + n % 64)] rfl rfl ?c1 ?c2 ?c3 ?c4 ?c5 ?_)
    case c1 =>
      intro j u hj
      match j, hj with
      | 0, hj => simp at hj; subst hj; simp [Addr.add]
      | 1, hj => simp at hj; subst hj; simp [Addr.add]
      | 2, hj => simp at hj; subst hj; simp [Addr.add]
      | (j + 3), hj => simp at hj
    case c2 => intro u hu; simp at hu; rcases hu with rfl | rfl | rfl <;> rfl
    case c3 => unfold maxLen; omega
    case c4 => omega
    case c5 => have := hb1.size; simp; omega
    intro v2 w2 hown2 hgrow _
    have hb2 := below_step hb1 hb1.size hown hgrow
    clear hgrow hown
    go_wp2
    go_ret
    refine ⟨_, rfl, own_nonnil hown2 (by omega), ?_, hb2⟩
    rw [List.length_append, encR_len, e, bv_append, enc_three h0 h1 h2]
    exact hown2
  · rw [e] at cw
    go_wp2_with fail
    refine (cw _).mono ?_
    rintro e' w' ⟨rfl, rfl⟩
    have hm1 : (240 + n / 262144) % 256 = 240 + n / 262144 := by omega
    have hm2 : (128 + n / 4096 % 64) % 256 = 128 + n / 4096 % 64 := by omega
    have hm3 : (128 + n / 64 % 64) % 256 = 128 + n / 64 % 64 := by omega
    have hm4 : (128 + n % 64) % 256 = 128 + n % 64 := by omega
    go_wp2_with (at_builtin; refine wpList_append_own _ rfl _ _ 22 rfl w.heap.size 5 i0 (.int .u8 0) 1 1 Tryz.underlying22 hi hz0 hz1 hz2 rfl (by decide) _ _ _ rfl (hown.alloc _) ⟨w1.heap.size, 0, none⟩ 4 4 [.int .u8 (240 + n / 262144), .int .u8 (128 + n / 4096 % 64), .int .u8 (128 + n / 64 % 64), .int .u8 (128 + n % 64)] rfl rfl ?c1 ?c2 ?c3 ?c4 ?c5 ?_)
    case c1 =>
      intro j u hj
      match j, hj with
      | 0, hj => simp at hj; subst hj; simp [Addr.add]
      | 1, hj => simp at hj; subst hj; simp [Addr.add]
      | 2, hj => simp at hj; subst hj; simp [Addr.add]
      | 3, hj => simp at hj; subst hj; simp [Addr.add]
      | (j + 4), hj => simp at hj
    case c2 => intro u hu; simp at hu; rcases hu with rfl | rfl | rfl | rfl <;> rfl
    case c3 => unfold maxLen; omega
    case c4 => omega
    case c5 => have := hb1.size; simp; omega
    intro v2 w2 hown2 hgrow _
    have hb2 := below_step hb1 hb1.size hown hgrow
    clear hgrow hown
    go_wp2
    go_ret
    refine ⟨_, rfl, own_nonnil hown2 (by omega), ?_, hb2⟩
    rw [List.length_append, encR_len, e, bv_append, enc_four h0 h1]
    exact hown2
  · rw [e] at cw
    go_wp2_with fail
    refine (cw _).mono ?_
    rintro e' w' ⟨rfl, rfl⟩
    go_wp2
    go_ret
    refine ⟨_, rfl, HN.out, ?_, hb1⟩
    rw [enc_bad h0, List.append_nil]
    exact hown
theorem append_impl (w : World) (B : Nat) (v : Value) (l : List UInt8) (n : Int) (hown : w.ownsRow B 5 1 v l.length (bv l)) (hB : B ≤ w.heap.size) (hl : l.length ≤ 140737488355000) :
    Calls Tryz.prog 201 #[v, .int .i64 n] w fun e w' => ∃ v', e = .returned v' ∧ (v ≠ .slice none 0 0 → v' ≠ .slice none 0 0) ∧ w'.ownsRow B 5 1 v' (l ++ encR n).length (bv (l ++ encR n)) ∧ Below B w w' := by
  by_cases h : okR n
  · have c := runeok_impl_yes h w
    have h2 := okR_un h
    have hn0 : -2147483648 ≤ n := by omega
    have hn1 : n ≤ 2147483647 := by omega
    have ca := Tryz.utf8_AppendRune_plain B v l.length (bv l) n hn0 hn1 w hown (by omega) hB
    have hlt := hown.lt
    have e1 : Lib.runeCells n = bv (encR n) := by
      unfold encR; rw [if_pos h, bv_cells, Lib.byteCells_encodeRune]
    rw [e1, bv_length] at ca
    clear h2 hown
    go_enter Tryz.func201, Tryz.ntmps201
    go_wp2_with fail
    refine c.mono ?_
    rintro e w' ⟨rfl, rfl⟩
    go_wp2_with fail
    refine ca.mono ?_
    rintro e w' ⟨v', rfl, hown, o, hg⟩
    go_wp2
    go_ret
    have hpos : 0 < l.length + (encR n).length := by
      rw [encR_len]; rcases wideR_cases n with h' | h' | h' | h' | ⟨h', _⟩ <;> first | omega | exact absurd h h'
    exact ⟨_, rfl, fun _ => own_nonnil hown hpos, by rw [List.length_append, bv_append]; exact hown, ((Below.refl B w).alloc hB o).trans (grown_belowN hg (by simp; omega) (fun k hk => (hlt k hk).1))⟩
  · have c := runeok_impl_no h w
    rw [enc_bad h, List.append_nil]
    go_enter Tryz.func201, Tryz.ntmps201
    go_wp2_with fail
    refine c.mono ?_
    rintro e w' ⟨rfl, rfl⟩
    go_wp2
    go_ret
    exact ⟨_, rfl, id, hown, Below.refl _ _⟩
end Go.Proofs.YtnikcgmbkmbloaaGreatDoor
/- A string's bytes as a slice, and back. -/
namespace Go.Proofs.YtnikcgmbkmbloaaGreatDoor
open Go.RowKit
theorem size_l (l : List UInt8) : (ByteArray.mk l.toArray).size = l.length := by simp [ByteArray.size]
theorem conv_bytes (w : World) (l : List UInt8) : ∃ cap w1, (convert 9 22 (.string ⟨l.toArray⟩)).run Tryz.prog w = .ok (.slice (some ⟨w.heap.size, 0, none⟩) l.length cap) w1 ∧ Reads w1 (.slice (some ⟨w.heap.size, 0, none⟩) l.length cap) (bv l) ∧ Below w.heap.size w w1 ∧ ∃ C fz, w1.heap[w.heap.size]? = some (.cells C 5 fz) := by
  have h := run_bytes_of_string (P := Tryz.prog) w 9 22 5 ⟨l.toArray⟩ Tryz.underlying9 Tryz.underlying22 Tryz.underlying5
  rw [size_l] at h
  refine ⟨_, _, h, ⟨_, _, by rw [bv_length], fun j hj => ⟨_, _, rfl, ?_⟩⟩, ?_⟩
  · have hj' : j < l.length := by simpa using hj
    rw [show (w.heap.size) = w.drew.heap.size from rfl, Nat.zero_add, World.cell?_alloc_mark, bytesRow_at _ _ _ (by simpa using hj'), bv_getElem]
    simp
  · exact ⟨((Below.refl w.heap.size w).drew).alloc (Nat.le_refl _) _, _, _, heap_alloc_new w.drew _⟩
theorem conv_bytes_cap (w : World) (l : List UInt8) (hl : l.length ≤ maxLen) : ∃ cap w1, l.length ≤ cap ∧ cap ≤ maxLen ∧ (convert 9 22 (.string ⟨l.toArray⟩)).run Tryz.prog w = .ok (.slice (some ⟨w.heap.size, 0, none⟩) l.length cap) w1 ∧ Reads w1 (.slice (some ⟨w.heap.size, 0, none⟩) l.length cap) (bv l) ∧ Below w.heap.size w w1 ∧ ∃ C fz, w1.heap[w.heap.size]? = some (.cells C 5 fz) := by
  have h := run_bytes_of_string (P := Tryz.prog) w 9 22 5 ⟨l.toArray⟩ Tryz.underlying9 Tryz.underlying22 Tryz.underlying5
  rw [size_l] at h
  refine ⟨_, _, grownCap_ge _ _ _ _, grownCap_le_maxLen _ _ _ _ hl, h, ⟨_, _, by rw [bv_length], fun j hj => ⟨_, _, rfl, ?_⟩⟩, ?_⟩
  · have hj' : j < l.length := by simpa using hj
    rw [show (w.heap.size) = w.drew.heap.size from rfl, Nat.zero_add, World.cell?_alloc_mark, bytesRow_at _ _ _ (by simpa using hj'), bv_getElem]
    simp
  · exact ⟨((Below.refl w.heap.size w).drew).alloc (Nat.le_refl _) _, _, _, heap_alloc_new w.drew _⟩
theorem nums_of (l : List UInt8) : strOfNums (l.map fun x => (x.toNat : Int)) = ⟨l.toArray⟩ := by
  unfold strOfNums
  congr 1
  rw [List.map_map]
  congr 1
  rw [show ((fun n : Int => UInt8.ofNat n.toNat) ∘ fun x : UInt8 => (x.toNat : Int)) = id from by funext x; simp]
  simp
theorem conv_str (w : World) (v : Value) (l : List UInt8) (h : Slc w v (bv l)) : (convert 22 9 v).run Tryz.prog w = .ok (.string ⟨l.toArray⟩) w := by
  rcases h with ⟨rfl, h⟩ | ⟨b, o, cap, rfl, hc⟩
  · obtain rfl : l = [] := by cases l with | nil => rfl | cons x l => simp [bv] at h
    exact run_convert_bytes_nil w _ _ Tryz.underlying22 Tryz.underlying5 0 0 _ Tryz.underlying9
  · rw [← nums_of, bv_length]
    refine run_convert_bytes_arg w _ _ Tryz.underlying22 Tryz.underlying5 b o l.length cap _ (by simp) (fun j hj => ?_) _ Tryz.underlying9
    rw [hc j _ (by rw [List.getElem?_eq_getElem (by simpa using hj), bv_getElem])]
    simp [List.getD_eq_getElem?_getD, hj]
theorem slice_cells {w : World} {b len cap : Nat} {l : List UInt8} (h : Reads w (.slice (some ⟨b, 0, none⟩) len cap) (bv l)) : len = l.length ∧ ∀ j u, (bv l)[j]? = some u → w.cell? ⟨b, 0 + j, none⟩ = some u := by
  obtain ⟨a, c, e, hc⟩ := h
  injection e with e1 e2 e3
  refine ⟨by rw [e2, bv_length], fun j u hu => ?_⟩
  obtain ⟨hj, hju⟩ := List.getElem?_eq_some_iff.1 hu
  obtain ⟨b', o, ha, hcl⟩ := hc j hj
  rw [ha] at e1
  injection e1 with e1
  injection e1 with e1 e4
  subst e1
  subst e4
  rw [hcl, hju]
end Go.Proofs.YtnikcgmbkmbloaaGreatDoor
/- The string of given characters: the program's and the model's answers. -/
namespace Go.Proofs.YtnikcgmbkmbloaaGreatDoor
open Go.RowKit
set_option maxRecDepth 100000
theorem flat_nil : flat [] = [] := rfl
theorem flat_append (a b : List Int) : flat (a ++ b) = flat a ++ flat b := by simp [flat]
theorem flat_one (n : Int) : flat [n] = encR n := by simp [flat]
theorem flat_len (l : List Int) : (flat l).length ≤ 4 * l.length := by
  induction l with
  | nil => exact Nat.zero_le _
  | cons n l ih =>
    have : flat (n :: l) = encR n ++ flat l := rfl
    rw [this, List.length_append, encR_len, List.length_cons]
    have : wideR n ≤ 4 := by rcases wideR_cases n with h | h | h | h | h <;> omega
    omega
theorem flat_take (l : List Int) (i : Nat) (h : i < l.length) : flat (l.take (i + 1)) = flat (l.take i) ++ encR l[i] := by
  rw [List.take_succ_eq_append_getElem h, flat_append, flat_one]
theorem fromrunes_spec (w : World) (v : Value) (l : List Int) (h : Reads w v (iv l)) (hl : l.length ≤ 1073741824) :
    Calls Tryz.prog 153 #[v] w fun e w' => e = .returned (.string ⟨(flat l).toArray⟩) ∧ Below w.heap.size w w' := by
  obtain ⟨a, cap, rfl, hc⟩ := reads_int h
  have HC := Lib.hid hc
  clear hc h
  go_enter Tryz.func153, Tryz.ntmps153
  go_wp2
  go_loopw [3, 4] (fun b i wr => ∃ (i' : Nat) (g c : Nat), i = .int .i64 i' ∧ i' ≤ l.length ∧ b = .slice (some ⟨g, 0, none⟩) (flat (l.take i')).length c ∧ wr.ownsRow w.heap.size 5 1 b (flat (l.take i')).length (bv (flat (l.take i'))) ∧ Below w.heap.size w wr) (fun _ i _ => l.length - (intOf i).toNat)
  case atStart => exact ⟨0, w.heap.size, 0, rfl, Nat.zero_le _, rfl, World.ownsRow_made w #[] 0 (Nat.le_refl _) (by decide) rfl, (Below.refl w.heap.size w).alloc (Nat.le_refl _) _⟩
  case round =>
    obtain ⟨i', g, c, rfl, hi', rfl, hown, hb⟩ := hrel
    have HO := Lib.hid hown
    have HB := Lib.hid hb
    by_cases hlt : i' < l.length
    · obtain ⟨b', o, rfl, hcl⟩ := HC.out i' hlt
      have hcl' : wr.cell? ⟨b', o + i', none⟩ = some (.int .i64 l[i']) := by rw [hb.cell (p := ⟨b', o + i', none⟩) (cell_lt hcl)]; exact hcl
      have hfl := flat_len (l.take i')
      rw [List.length_take] at hfl
      have ca := put_spec wr g 0 c (flat (l.take i')) l[i'] (fun j u hu => by rw [Nat.zero_add, hown.cellAt j (by have := (List.getElem?_eq_some_iff.1 hu).1; simpa using this)]; exact hu) (by omega)
      rw [← flat_take l i' hlt] at ca
      have HT := Lib.hid hlt
      generalize hq : l[i'] = q at *
      clear hq hcl hown hb hfl
      go_wp2_with (go_at_call 186; refine ca.mono ?_; rintro e w' ⟨v', rfl, hv, hown, hb⟩)
      obtain ⟨g', c', hv', _⟩ : ∃ g' c', v' = .slice (some ⟨g', 0, none⟩) (flat (l.take (i' + 1))).length c' ∧ True := by
        rcases hown.2 with ⟨h, _⟩ | ⟨g', cap', cur, h, _⟩
        · exact absurd h hv
        · exact ⟨g', cap', h, trivial⟩
      clear hv
      go_roundw
      case rel => exact ⟨i' + 1, g', c', by go_num, HT.out, hv', own_base hown (HB.out.size), HB.out.trans (hb.mono HB.out.size)⟩
      case measure => have := HT.out; simp [intOf]; omega
    · obtain rfl : i' = l.length := by omega
      have hcv := conv_str wr _ _ (own_slc hown)
      rw [List.take_of_length_le (Nat.le_refl _)] at hcv
      generalize hs : (ByteArray.mk (flat l).toArray) = s at hcv
      have HS := Lib.hid hs
      clear hown hb HO hs
      go_wp2
      go_ret
      exact ⟨by rw [HS.out]; rfl, HB.out⟩
end Go.Proofs.YtnikcgmbkmbloaaGreatDoor
