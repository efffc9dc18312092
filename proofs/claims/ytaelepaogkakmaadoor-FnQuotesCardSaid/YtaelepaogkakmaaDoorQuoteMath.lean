/- Quoted strings: plain facts: escapes, quotes, and what is read. -/
import Derived.Test.YtaelepaogkakmaaDoorText
import Derived.Test.YtaelepaogkakmaaDoorHexMath
namespace Go.Proofs.YtaelepaogkakmaaDoor
/-- the letter behind a backslash that stands for n -/
def escB (n : Int) : Option UInt8 := if n = 34 then some 34 else if n = 92 then some 92 else if n = 8 then some 98 else if n = 9 then some 116 else if n = 10 then some 110 else if n = 12 then some 102 else if n = 13 then some 114 else none
def escL (n : Int) : List UInt8 := match escB n with
  | some c => [92, c]
  | none => if 0 ≤ n ∧ n < 32 then [92, 117, 48, 48] ++ hexL [UInt8.ofNat n.toNat] else encR n
def escsL (rs : List Int) : List UInt8 := rs.flatMap escL
def quoteL (l : List UInt8) : List UInt8 := match runes l with
  | none => []
  | some rs => 34 :: (escsL rs ++ [34])
theorem escL_letter {n : Int} {c : UInt8} (h : escB n = some c) : escL n = [92, c] := by unfold escL; rw [h]
theorem escL_low {n : Int} (h : escB n = none) (h0 : 0 ≤ n) (h1 : n < 32) : escL n = [92, 117, 48, 48] ++ hexL [UInt8.ofNat n.toNat] := by unfold escL; rw [h]; simp only; rw [if_pos ⟨h0, h1⟩]
theorem escL_plain {n : Int} (h : escB n = none) (h1 : ¬ (0 ≤ n ∧ n < 32)) : escL n = encR n := by unfold escL; rw [h]; simp only; rw [if_neg h1]
theorem escB_none {n : Int} (h34 : n ≠ 34) (h92 : n ≠ 92) (h8 : n ≠ 8) (h9 : n ≠ 9) (h10 : n ≠ 10) (h12 : n ≠ 12) (h13 : n ≠ 13) : escB n = none := by
  unfold escB; rw [if_neg h34, if_neg h92, if_neg h8, if_neg h9, if_neg h10, if_neg h12, if_neg h13]
theorem escB_cases (n : Int) : (n = 34 ∧ escB n = some 34) ∨ (n = 92 ∧ escB n = some 92) ∨ (n = 8 ∧ escB n = some 98) ∨ (n = 9 ∧ escB n = some 116) ∨ (n = 10 ∧ escB n = some 110) ∨ (n = 12 ∧ escB n = some 102) ∨ (n = 13 ∧ escB n = some 114)
    ∨ (n ≠ 34 ∧ n ≠ 92 ∧ n ≠ 8 ∧ n ≠ 9 ∧ n ≠ 10 ∧ n ≠ 12 ∧ n ≠ 13 ∧ escB n = none) := by
  by_cases h34 : n = 34
  · subst h34; exact .inl ⟨rfl, rfl⟩
  by_cases h92 : n = 92
  · subst h92; exact .inr (.inl ⟨rfl, rfl⟩)
  by_cases h8 : n = 8
  · subst h8; exact .inr (.inr (.inl ⟨rfl, rfl⟩))
  by_cases h9 : n = 9
  · subst h9; exact .inr (.inr (.inr (.inl ⟨rfl, rfl⟩)))
  by_cases h10 : n = 10
  · subst h10; exact .inr (.inr (.inr (.inr (.inl ⟨rfl, rfl⟩))))
  by_cases h12 : n = 12
  · subst h12; exact .inr (.inr (.inr (.inr (.inr (.inl ⟨rfl, rfl⟩)))))
  by_cases h13 : n = 13
  · subst h13; exact .inr (.inr (.inr (.inr (.inr (.inr (.inl ⟨rfl, rfl⟩))))))
  exact .inr (.inr (.inr (.inr (.inr (.inr (.inr ⟨h34, h92, h8, h9, h10, h12, h13, escB_none h34 h92 h8 h9 h10 h12 h13⟩))))))
theorem escB_ok {n : Int} {c : UInt8} (h : escB n = some c) : 0 ≤ n ∧ n < 128 := by
  rcases escB_cases n with ⟨e, _⟩ | ⟨e, _⟩ | ⟨e, _⟩ | ⟨e, _⟩ | ⟨e, _⟩ | ⟨e, _⟩ | ⟨e, _⟩ | ⟨_, _, _, _, _, _, _, e⟩
  all_goals first | omega | (rw [e] at h; cases h)
theorem escL_len (n : Int) : (escL n).length ≤ 6 := by
  unfold escL
  split
  · simp
  · split
    · simp [hexL]
    · rw [encR_len]; rcases wideR_cases n with h | h | h | h | h <;> omega
theorem escsL_nil : escsL [] = [] := rfl
theorem escsL_cons (n : Int) (r : List Int) : escsL (n :: r) = escL n ++ escsL r := rfl
theorem escsL_app (a b : List Int) : escsL (a ++ b) = escsL a ++ escsL b := by simp [escsL]
theorem escsL_take (l : List Int) (i : Nat) (h : i < l.length) : escsL (l.take (i + 1)) = escsL (l.take i) ++ escL l[i] := by
  rw [List.take_succ_eq_append_getElem h, escsL_app]; simp [escsL]
theorem escsL_len (l : List Int) : (escsL l).length ≤ 6 * l.length := by
  induction l with
  | nil => exact Nat.zero_le _
  | cons n r ih => rw [escsL_cons, List.length_append, List.length_cons]; have := escL_len n; omega
theorem quoteL_none {l : List UInt8} (h : runes l = none) : quoteL l = [] := by unfold quoteL; rw [h]
theorem quoteL_some {l : List UInt8} {rs : List Int} (h : runes l = some rs) : quoteL l = 34 :: (escsL rs ++ [34]) := by unfold quoteL; rw [h]
theorem quoteL_len (l : List UInt8) : (quoteL l).length ≤ 6 * l.length + 2 := by
  cases h : runes l with
  | none => rw [quoteL_none h]; simp
  | some rs =>
    rw [quoteL_some h]
    have h1 := runes_len _ l rs (Nat.le_refl _) h
    have h2 := escsL_len rs
    simp
    omega
/-- a hexadecimal digit's number, upper case too -/
def dig16 (c : UInt8) : Int := if 65 ≤ c.toNat ∧ c.toNat ≤ 70 then (c.toNat : Int) - 55 else hexv c
theorem dig16_range (c : UInt8) : -1 ≤ dig16 c ∧ dig16 c ≤ 15 := by have := hexv_range c; unfold dig16; split <;> omega
theorem dig16_hexd (x : Nat) (h : x < 16) : dig16 (hexd x) = x := by
  have h1 : x = 0 ∨ x = 1 ∨ x = 2 ∨ x = 3 ∨ x = 4 ∨ x = 5 ∨ x = 6 ∨ x = 7 ∨ x = 8 ∨ x = 9 ∨ x = 10 ∨ x = 11 ∨ x = 12 ∨ x = 13 ∨ x = 14 ∨ x = 15 := by omega
  rcases h1 with rfl | rfl | rfl | rfl | rfl | rfl | rfl | rfl | rfl | rfl | rfl | rfl | rfl | rfl | rfl | rfl <;> decide
/-- the number that digits denote, behind n -/
def hexN (n : Int) : List UInt8 → Option Int
  | [] => some n
  | c :: r => if 0 ≤ dig16 c then hexN (16 * n + dig16 c) r else none
theorem hexN_bad {n : Int} {c : UInt8} {r : List UInt8} (h : ¬ 0 ≤ dig16 c) : hexN n (c :: r) = none := by unfold hexN; rw [if_neg h]
theorem hexN_good {n : Int} {c : UInt8} {r : List UInt8} (h : 0 ≤ dig16 c) : hexN n (c :: r) = hexN (16 * n + dig16 c) r := by
  show (if 0 ≤ dig16 c then hexN (16 * n + dig16 c) r else none) = _
  rw [if_pos h]
theorem hexN_range : ∀ (l : List UInt8) (n m : Int), 0 ≤ n → hexN n l = some m → 0 ≤ m ∧ m < (n + 1) * 16 ^ l.length
  | [], n, m, h0, h => by unfold hexN at h; cases h; simp; omega
  | c :: r, n, m, h0, h => by
    have hd := dig16_range c
    by_cases hc : 0 ≤ dig16 c
    · rw [hexN_good hc] at h
      have ih := hexN_range r _ m (by omega) h
      refine ⟨ih.1, Int.lt_of_lt_of_le ih.2 ?_⟩
      rw [List.length_cons, Int.pow_succ, Int.mul_comm (16 ^ r.length) 16, ← Int.mul_assoc]
      exact Int.mul_le_mul_of_nonneg_right (by omega) (Int.pow_nonneg (by omega))
    · rw [hexN_bad hc] at h; cases h
def fourAt (l : List UInt8) (i : Nat) : Option Int := if i + 4 ≤ l.length then hexN 0 ((l.drop i).take 4) else none
theorem fourAt_out {l : List UInt8} {i : Nat} (h : ¬ i + 4 ≤ l.length) : fourAt l i = none := by unfold fourAt; rw [if_neg h]
theorem fourAt_in {l : List UInt8} {i : Nat} (h : i + 4 ≤ l.length) : fourAt l i = hexN 0 ((l.drop i).take 4) := by unfold fourAt; rw [if_pos h]
theorem fourAt_range {l : List UInt8} {i : Nat} {n : Int} (h : fourAt l i = some n) : 0 ≤ n ∧ n ≤ 65535 ∧ i + 4 ≤ l.length := by
  unfold fourAt at h
  split at h
  · rename_i hl
    have := hexN_range _ _ _ (Int.le_refl 0) h
    have e : ((l.drop i).take 4).length = 4 := by simp; omega
    rw [e] at this
    have e2 : (0 + 1) * (16 : Int) ^ 4 = 65536 := by decide
    rw [e2] at this
    exact ⟨this.1, by omega, hl⟩
  · cases h
def fourV (l : List UInt8) (a : Int) : Value := match (if 0 ≤ a then fourAt l a.toNat else none) with
  | none => .tuple #[.int .i64 0, .bool false]
  | some n => .tuple #[.int .i64 n, .bool true]
/-- the character for a letter behind a backslash -/
def unB (c : UInt8) : Option Int := if c = 34 then some 34 else if c = 92 then some 92 else if c = 47 then some 47 else if c = 98 then some 8 else if c = 116 then some 9 else if c = 110 then some 10 else if c = 102 then some 12 else if c = 114 then some 13 else none
theorem unB_escB {n : Int} {c : UInt8} (h : escB n = some c) : unB c = some n := by
  rcases escB_cases n with ⟨rfl, e⟩ | ⟨rfl, e⟩ | ⟨rfl, e⟩ | ⟨rfl, e⟩ | ⟨rfl, e⟩ | ⟨rfl, e⟩ | ⟨rfl, e⟩ | ⟨_, _, _, _, _, _, _, e⟩
  all_goals (rw [e] at h; cases h)
  all_goals rfl
theorem unB_u : unB 117 = none := rfl
theorem unB_ok {c : UInt8} {n : Int} (h : unB c = some n) : 0 ≤ n ∧ n ≤ 127 := by
  unfold unB at h
  repeat' (split at h; · cases h; omega)
  cases h
/-- the numbered escape (or the pair) whose letter u stands at i -/
def numAt (l : List UInt8) (i : Nat) : Option (Int × Nat) :=
  match fourAt l (i + 1) with
  | none => none
  | some n => if n < 55296 ∨ 57343 < n then some (n, i + 5)
    else if n < 56320 ∧ l[i + 5]? = some 92 ∧ l[i + 6]? = some 117 then
      match fourAt l (i + 7) with
      | none => none
      | some m => if 56320 ≤ m ∧ m ≤ 57343 then some (65536 + 1024 * (n - 55296) + (m - 56320), i + 11) else none
    else none
/-- what stands behind a backslash, from i on -/
def escAt (l : List UInt8) (i : Nat) : Option (Int × Nat) :=
  match l[i]? with
  | none => none
  | some c => match unB c with
    | some n => some (n, i + 1)
    | none => if c = 117 then numAt l i else none
def charAt (l : List UInt8) (i : Nat) : Option (Int × Nat) :=
  if l[i]? = some 92 then escAt l (i + 1)
  else if i < l.length ∧ dec l i ≠ (65533, 1) ∧ 32 ≤ (dec l i).1 then some (((dec l i).1 : Int), i + (dec l i).2) else none
theorem num_four {l : List UInt8} {i : Nat} (h : fourAt l (i + 1) = none) : numAt l i = none := by unfold numAt; rw [h]
theorem num_one {l : List UInt8} {i : Nat} {n : Int} (h : fourAt l (i + 1) = some n) (hn : n < 55296 ∨ 57343 < n) : numAt l i = some (n, i + 5) := by unfold numAt; rw [h]; simp only; rw [if_pos hn]
theorem num_low {l : List UInt8} {i : Nat} {n : Int} (h : fourAt l (i + 1) = some n) (hn : 56320 ≤ n) (hn2 : n ≤ 57343) : numAt l i = none := by unfold numAt; rw [h]; simp only; rw [if_neg (by omega), if_neg (by omega)]
theorem num_alone {l : List UInt8} {i : Nat} {n : Int} (h : fourAt l (i + 1) = some n) (hn : 55296 ≤ n) (hn2 : n ≤ 57343) (hp : ¬ (l[i + 5]? = some 92 ∧ l[i + 6]? = some 117)) : numAt l i = none := by
  unfold numAt; rw [h]; simp only; rw [if_neg (by omega), if_neg (fun g => hp g.2)]
theorem num_pair {l : List UInt8} {i : Nat} {n : Int} (h : fourAt l (i + 1) = some n) (hn : 55296 ≤ n) (hn2 : n < 56320) (h5 : l[i + 5]? = some 92) (h6 : l[i + 6]? = some 117) :
    numAt l i = match fourAt l (i + 7) with
      | none => none
      | some m => if 56320 ≤ m ∧ m ≤ 57343 then some (65536 + 1024 * (n - 55296) + (m - 56320), i + 11) else none := by
  unfold numAt; rw [h]; simp only; rw [if_neg (by omega), if_pos ⟨hn2, h5, h6⟩]
theorem num_pair_none {l : List UInt8} {i : Nat} {n : Int} (h : fourAt l (i + 1) = some n) (hn : 55296 ≤ n) (hn2 : n < 56320) (h5 : l[i + 5]? = some 92) (h6 : l[i + 6]? = some 117) (h7 : fourAt l (i + 7) = none) : numAt l i = none := by
  rw [num_pair h hn hn2 h5 h6, h7]
theorem num_pair_bad {l : List UInt8} {i : Nat} {n m : Int} (h : fourAt l (i + 1) = some n) (hn : 55296 ≤ n) (hn2 : n < 56320) (h5 : l[i + 5]? = some 92) (h6 : l[i + 6]? = some 117) (h7 : fourAt l (i + 7) = some m) (hm : ¬ (56320 ≤ m ∧ m ≤ 57343)) : numAt l i = none := by
  rw [num_pair h hn hn2 h5 h6, h7]; simp only; rw [if_neg hm]
theorem num_pair_good {l : List UInt8} {i : Nat} {n m : Int} (h : fourAt l (i + 1) = some n) (hn : 55296 ≤ n) (hn2 : n < 56320) (h5 : l[i + 5]? = some 92) (h6 : l[i + 6]? = some 117) (h7 : fourAt l (i + 7) = some m) (hm : 56320 ≤ m ∧ m ≤ 57343) : numAt l i = some (65536 + 1024 * (n - 55296) + (m - 56320), i + 11) := by
  rw [num_pair h hn hn2 h5 h6, h7]; simp only; rw [if_pos hm]
theorem numAt_ok {l : List UInt8} {i j : Nat} {n : Int} (h : numAt l i = some (n, j)) : i < j ∧ j ≤ l.length ∧ okR n := by
  cases h4 : fourAt l (i + 1) with
  | none => rw [num_four h4] at h; cases h
  | some a =>
    have hr := fourAt_range h4
    by_cases h1 : a < 55296 ∨ 57343 < a
    · rw [num_one h4 h1] at h
      cases h
      exact ⟨by omega, by omega, okR_mk (by omega)⟩
    · by_cases h2 : 56320 ≤ a
      · rw [num_low h4 h2 (by omega)] at h; cases h
      · by_cases h3 : l[i + 5]? = some 92 ∧ l[i + 6]? = some 117
        · cases h7 : fourAt l (i + 7) with
          | none => rw [num_pair_none h4 (by omega) (by omega) h3.1 h3.2 h7] at h; cases h
          | some m =>
            have hr2 := fourAt_range h7
            by_cases hm : 56320 ≤ m ∧ m ≤ 57343
            · rw [num_pair_good h4 (by omega) (by omega) h3.1 h3.2 h7 hm] at h
              cases h
              exact ⟨by omega, by omega, okR_mk (by omega)⟩
            · rw [num_pair_bad h4 (by omega) (by omega) h3.1 h3.2 h7 hm] at h; cases h
        · rw [num_alone h4 (by omega) (by omega) h3] at h; cases h
theorem esc_end {l : List UInt8} {i : Nat} (h : l.length ≤ i) : escAt l i = none := by unfold escAt; rw [List.getElem?_eq_none h]
theorem esc_at {l : List UInt8} {i : Nat} (h : i < l.length) : escAt l i = match unB l[i] with
    | some n => some (n, i + 1)
    | none => if l[i] = 117 then numAt l i else none := by unfold escAt; rw [List.getElem?_eq_getElem h]
theorem esc_letter {l : List UInt8} {i : Nat} {n : Int} (h : i < l.length) (hn : unB l[i] = some n) : escAt l i = some (n, i + 1) := by rw [esc_at h, hn]
theorem esc_num {l : List UInt8} {i : Nat} (h : i < l.length) (hn : l[i] = 117) : escAt l i = numAt l i := by rw [esc_at h, hn, unB_u]; simp
theorem esc_bad {l : List UInt8} {i : Nat} (h : i < l.length) (hn : unB l[i] = none) (hu : ¬ l[i] = 117) : escAt l i = none := by rw [esc_at h, hn]; simp only; rw [if_neg hu]
theorem escAt_ok {l : List UInt8} {i j : Nat} {n : Int} (h : escAt l i = some (n, j)) : i < j ∧ j ≤ l.length ∧ okR n := by
  by_cases hi : i < l.length
  · cases hu : unB l[i] with
    | some m =>
      rw [esc_letter hi hu] at h
      cases h
      have := unB_ok hu
      exact ⟨by omega, by omega, okR_mk (by omega)⟩
    | none =>
      by_cases h7 : l[i] = 117
      · rw [esc_num hi h7] at h; exact numAt_ok h
      · rw [esc_bad hi hu h7] at h; cases h
  · rw [esc_end (by omega)] at h; cases h
theorem char_esc {l : List UInt8} {i : Nat} (h : l[i]? = some 92) : charAt l i = escAt l (i + 1) := by unfold charAt; rw [if_pos h]
theorem char_end {l : List UInt8} {i : Nat} (h : l.length ≤ i) : charAt l i = none := by
  unfold charAt; rw [List.getElem?_eq_none h, if_neg (by simp), if_neg (by omega)]
theorem char_bad {l : List UInt8} {i : Nat} (h : ¬ l[i]? = some 92) (hb : dec l i = (65533, 1)) : charAt l i = none := by
  unfold charAt; rw [if_neg h, if_neg (fun g => g.2.1 hb)]
theorem char_low {l : List UInt8} {i : Nat} (h : ¬ l[i]? = some 92) (hb : (dec l i).1 < 32) : charAt l i = none := by
  unfold charAt; rw [if_neg h, if_neg (fun g => by omega)]
theorem char_plain {l : List UInt8} {i : Nat} (hi : i < l.length) (h : ¬ l[i]? = some 92) (hb : dec l i ≠ (65533, 1)) (h32 : 32 ≤ (dec l i).1) : charAt l i = some (((dec l i).1 : Int), i + (dec l i).2) := by
  unfold charAt; rw [if_neg h, if_pos ⟨hi, hb, h32⟩]
theorem charAt_ok {l : List UInt8} {i j : Nat} {n : Int} (h : charAt l i = some (n, j)) : i < j ∧ j ≤ l.length ∧ okR n := by
  unfold charAt at h
  split at h
  · have := escAt_ok h; exact ⟨by omega, this.2.1, this.2.2⟩
  · split at h
    · rename_i hg
      cases h
      have := dec_pos hg.1
      refine ⟨by omega, by omega, ?_⟩
      rw [dec_drop]
      exact decL_ok _ (by intro e; have := congrArg List.length e; simp at this; omega)
    · cases h
/-- the characters from i to the closing quote, and the place behind it -/
def readAt (l : List UInt8) (i : Nat) : Option (List Int × Nat) :=
  if l[i]? = some 34 then some ([], i + 1)
  else match charAt l i with
    | none => none
    | some (c, j) => if _h : i < j ∧ i < l.length then (readAt l j).map (fun r => (c :: r.1, r.2)) else none
termination_by l.length - i
decreasing_by omega
theorem read_quote {l : List UInt8} {i : Nat} (h : l[i]? = some 34) : readAt l i = some ([], i + 1) := by rw [readAt, if_pos h]
theorem read_bad {l : List UInt8} {i : Nat} (h : ¬ l[i]? = some 34) (hc : charAt l i = none) : readAt l i = none := by rw [readAt, if_neg h, hc]
theorem read_char {l : List UInt8} {i j : Nat} {c : Int} (h : ¬ l[i]? = some 34) (hc : charAt l i = some (c, j)) : readAt l i = (readAt l j).map (fun r => (c :: r.1, r.2)) := by
  have := charAt_ok hc
  rw [readAt, if_neg h, hc]
  simp only
  rw [dif_pos ⟨this.1, by omega⟩]
def readQ (l : List UInt8) (a : Int) : Option (List Int × Nat) := if 0 ≤ a ∧ l[a.toNat]? = some 34 then readAt l (a.toNat + 1) else none
/-- how far a reading has come: the characters before i -/
def Far (l : List UInt8) (s i : Nat) (rs : List Int) : Prop := s ≤ i ∧ i ≤ l.length ∧ rs.length + s ≤ i ∧ (∀ r ∈ rs, okR r) ∧ readAt l s = (readAt l i).map (fun r => (rs ++ r.1, r.2))
theorem far_start {l : List UInt8} {s : Nat} (h : s ≤ l.length) : Far l s s [] := ⟨Nat.le_refl _, h, by simp, by simp, by cases readAt l s <;> simp⟩
theorem far_step {l : List UInt8} {s i j : Nat} {rs : List Int} {c : Int} (h : Far l s i rs) (hq : ¬ l[i]? = some 34) (hc : charAt l i = some (c, j)) : Far l s j (rs ++ [c]) := by
  obtain ⟨h1, h2, h3, h4, h5⟩ := h
  have hk := charAt_ok hc
  refine ⟨by omega, hk.2.1, by simp; omega, ?_, ?_⟩
  · intro r hr
    rcases List.mem_append.1 hr with g | g
    · exact h4 r g
    · obtain rfl : r = c := by simpa using g
      exact hk.2.2
  · rw [h5, read_char hq hc]
    cases readAt l j <;> simp
theorem far_bad {l : List UInt8} {s i : Nat} {rs : List Int} (h : Far l s i rs) (hq : ¬ l[i]? = some 34) (hc : charAt l i = none) : readAt l s = none := by rw [h.2.2.2.2, read_bad hq hc]; rfl
theorem far_end {l : List UInt8} {s i : Nat} {rs : List Int} (h : Far l s i rs) (hq : l[i]? = some 34) : readAt l s = some (rs, i + 1) := by rw [h.2.2.2.2, read_quote hq]; simp
theorem readAt_ok : ∀ (n : Nat) (l : List UInt8) (i e : Nat) (rs : List Int), l.length - i ≤ n → readAt l i = some (rs, e) → (∀ r ∈ rs, okR r) ∧ i + rs.length + 1 ≤ e ∧ e ≤ l.length
  | n, l, i, e, rs, hn, h => by
    by_cases hq : l[i]? = some 34
    · rw [read_quote hq] at h
      cases h
      have hi : i < l.length := by
        rcases Nat.lt_or_ge i l.length with g | g
        · exact g
        · rw [List.getElem?_eq_none g] at hq; cases hq
      exact ⟨by simp, by simp, hi⟩
    · cases hc : charAt l i with
      | none => rw [read_bad hq hc] at h; cases h
      | some p =>
        obtain ⟨c, j⟩ := p
        have hk := charAt_ok hc
        rw [read_char hq hc, Option.map_eq_some_iff] at h
        obtain ⟨⟨r, e'⟩, hr, he⟩ := h
        cases he
        cases n with
        | zero => omega
        | succ n =>
          have ih := readAt_ok n l j _ r (by omega) hr
          refine ⟨?_, by simp; omega, ih.2.2⟩
          intro x hx
          rcases List.mem_cons.1 hx with g | g
          · subst g; exact hk.2.2
          · exact ih.1 x g
def readV (l : List UInt8) (a : Int) : Value := match readQ l a with
  | none => .tuple #[.string ⟨#[]⟩, .int .i64 0, .int .i64 1]
  | some (rs, e) => .tuple #[.string ⟨(flat rs).toArray⟩, .int .i64 e, .int .i64 0]
end Go.Proofs.YtaelepaogkakmaaDoor
