import Derived.Test.YtnikcgmbkmbloaaGreatDoorG4
import Derived.Test.YtnikcgmbkmbloaaGreatDoorG0
import Derived.Test.YtnikcgmbkmbloaaGreatDoorG1
import Derived.Lib.Join
/- Quoted strings: what is written is read back; plain facts. -/
namespace Go.Proofs.YtnikcgmbkmbloaaGreatDoor
theorem at_app (pre x : List UInt8) (k : Nat) : (pre ++ x)[pre.length + k]? = x[k]? := by
  rw [List.getElem?_append_right (by omega), Nat.add_sub_cancel_left]
theorem at_app0 (pre x : List UInt8) : (pre ++ x)[pre.length]? = x[0]? := at_app pre x 0
theorem four_app (pre x : List UInt8) (k : Nat) (h : k + 4 ≤ x.length) : fourAt (pre ++ x) (pre.length + k) = hexN 0 ((x.drop k).take 4) := by
  rw [fourAt_in (by rw [List.length_append]; omega), ← List.drop_drop, List.drop_left]
theorem hexd_low (n : Nat) (h : n < 32) : hexN 0 [48, 48, hexd (n / 16), hexd (n % 16)] = some (n : Int) := by
  have e0 : dig16 48 = 0 := by decide
  have e1 := dig16_hexd (n / 16) (by omega)
  have e2 := dig16_hexd (n % 16) (by omega)
  rw [hexN_good (by omega), hexN_good (by omega), hexN_good (by omega), hexN_good (by omega), e0, e1, e2]
  show some _ = some _
  congr 1
  omega
theorem char_at_esc (pre rest : List UInt8) (n : Int) (h : okR n) : charAt (pre ++ (escL n ++ rest)) pre.length = some (n, pre.length + (escL n).length) ∧ ¬ (pre ++ (escL n ++ rest))[pre.length]? = some 34 := by
  cases hE : escB n with
  | some c =>
    have e := escL_letter hE
    rw [e]
    have g0 : (pre ++ ([92, c] ++ rest))[pre.length]? = some 92 := at_app0 pre _
    have g1 : (pre ++ ([92, c] ++ rest))[pre.length + 1]? = some c := at_app pre _ 1
    refine ⟨?_, by rw [g0]; simp⟩
    obtain ⟨hi, hc⟩ := List.getElem?_eq_some_iff.1 g1
    rw [char_esc g0, esc_letter hi (by rw [hc]; exact unB_escB hE)]
    rfl
  | none =>
    have hok := okR_un h
    by_cases hlow : n < 32
    · have h0 : 0 ≤ n := by omega
      obtain ⟨m, rfl⟩ : ∃ m : Nat, n = m := ⟨n.toNat, by omega⟩
      have e : escL (m : Int) = [92, 117, 48, 48, hexd (m / 16), hexd (m % 16)] := by
        rw [escL_low hE h0 hlow]
        have e2 : (UInt8.ofNat (m : Int).toNat).toNat = m := by simp; omega
        show [92, 117, 48, 48] ++ [hexd ((UInt8.ofNat (m : Int).toNat).toNat / 16), hexd ((UInt8.ofNat (m : Int).toNat).toNat % 16)] = _
        rw [e2]; rfl
      rw [e]
      generalize hx : [92, 117, 48, 48, hexd (m / 16), hexd (m % 16)] ++ rest = x at *
      have g0 : (pre ++ x)[pre.length]? = some 92 := by rw [at_app0, ← hx]; rfl
      have g1 : (pre ++ x)[pre.length + 1]? = some 117 := by rw [at_app, ← hx]; rfl
      refine ⟨?_, by rw [g0]; simp⟩
      obtain ⟨hi, hc⟩ := List.getElem?_eq_some_iff.1 g1
      have h4 : fourAt (pre ++ x) (pre.length + 1 + 1) = some (m : Int) := by
        have hl : 2 + 4 ≤ x.length := by rw [← hx]; simp
        have := four_app pre x 2 hl
        rw [show pre.length + 1 + 1 = pre.length + 2 by omega, this, ← hx]
        exact hexd_low m (by omega)
      rw [char_esc g0, esc_num hi hc, num_one h4 (by omega)]
      rfl
    · have e := escL_plain hE (by omega)
      rw [e]
      obtain ⟨m, rfl⟩ : ∃ m : Nat, n = m := ⟨n.toNat, by omega⟩
      have hd := decode_enc m rest h
      have hdec : dec (pre ++ (encR (m : Int) ++ rest)) pre.length = (m, wideR m) := by rw [dec_drop, List.drop_left]; exact hd
      have hw : 1 ≤ wideR (m : Int) := by rcases wideR_cases (m : Int) with h' | h' | h' | h' | ⟨h', _⟩ <;> first | omega | exact absurd h h'
      have hlen := encR_len (m : Int)
      have hbad : ¬ ((m, wideR (m : Int)) = (65533, 1)) := by
        intro g
        rw [Prod.mk.injEq] at g
        obtain ⟨g1, g2⟩ := g
        rcases wideR_cases (m : Int) with h' | h' | h' | h' | ⟨h', _⟩ <;> first | omega | exact absurd h h'
      have first_ne : ∀ c : UInt8, c.toNat < 128 → m ≠ c.toNat → ¬ (pre ++ (encR (m : Int) ++ rest))[pre.length]? = some c := by
        intro c hc hne g
        rw [at_app0] at g
        cases hx : encR (m : Int) ++ rest with
        | nil => rw [hx] at g; cases g
        | cons a r =>
          rw [hx] at g hd
          obtain rfl : a = c := Option.some.inj g
          have e2 : Lib.decodeL (a :: r) = (a.toNat, 1) := by
            have e : Lib.decodeL (a :: r) = dec (a :: r) 0 := rfl
            rw [e, dec_eq, byte_cons0, decN_one hc]
          rw [e2] at hd
          rw [Prod.mk.injEq] at hd
          exact hne hd.1.symm
      have n34 : m ≠ 34 := by
        intro e; subst e; cases hE
      have n92 : m ≠ 92 := by
        intro e; subst e; cases hE
      refine ⟨?_, first_ne 34 (by decide) n34⟩
      rw [char_plain (by rw [List.length_append, List.length_append]; omega) (first_ne 92 (by decide) n92) (by rw [hdec]; exact hbad) (by rw [hdec]; show 32 ≤ m; omega), hdec, hlen]
theorem read_escs : ∀ (rs : List Int) (pre rest : List UInt8), (∀ r ∈ rs, okR r) → readAt (pre ++ (escsL rs ++ 34 :: rest)) pre.length = some (rs, pre.length + (escsL rs).length + 1)
  | [], pre, rest, _ => by
    rw [read_quote (by rw [at_app0]; rfl)]
    rfl
  | n :: r, pre, rest, h => by
    have hc := char_at_esc pre (escsL r ++ 34 :: rest) n (h n (.head _))
    have ih := read_escs r (pre ++ escL n) rest (fun x hx => h x (.tail _ hx))
    rw [escsL_cons, List.append_assoc, read_char hc.2 hc.1]
    rw [List.append_assoc, List.length_append] at ih
    rw [ih]
    refine congrArg some (Prod.ext rfl ?_)
    show pre.length + (escL n).length + (escsL r).length + 1 = _
    rw [List.length_append]
    show _ = pre.length + ((escL n).length + (escsL r).length) + 1
    omega
theorem runes_okR : ∀ (n : Nat) (l : List UInt8) (rs : List Int), l.length ≤ n → runes l = some rs → ∀ r ∈ rs, okR r
  | 0, l, rs, h, k => by
    obtain rfl : l = [] := List.eq_nil_of_length_eq_zero (by omega)
    rw [runes_nil] at k
    obtain rfl : [] = rs := Option.some.inj k
    intro r hr; cases hr
  | n + 1, l, rs, h, k => by
    by_cases hl : l = []
    · subst hl
      rw [runes_nil] at k
      obtain rfl : [] = rs := Option.some.inj k
      intro r hr; cases hr
    · rw [runes_step l hl] at k
      split at k
      · cases k
      · rw [Option.map_eq_some_iff] at k
        obtain ⟨r, hr, rfl⟩ := k
        have hp := decL_pos l hl
        have ih := runes_okR n _ r (by simp; omega) hr
        intro x hx
        rcases List.mem_cons.1 hx with e | e
        · subst e; exact decL_ok l hl
        · exact ih x e
/-- a quoted text with anything behind it is read back -/
theorem quote_back (l rest : List UInt8) (rs : List Int) (h : runes l = some rs) : readQ (quoteL l ++ rest) 0 = some (rs, (quoteL l).length) := by
  have hq := quoteL_some h
  rw [hq]
  have e : (34 :: (escsL rs ++ [34])) ++ rest = [34] ++ (escsL rs ++ 34 :: rest) := by simp
  rw [e]
  have hr := read_escs rs [34] rest (runes_okR _ l rs (Nat.le_refl _) h)
  unfold readQ
  rw [if_pos ⟨by omega, rfl⟩]
  show readAt _ 1 = _
  refine hr.trans ?_
  simp
  omega
theorem ascii_enc : ∀ x : Fin 128, encR (x.val : Int) = [UInt8.ofNat x.val] := by decide +kernel
theorem ascii_flat : ∀ bs : List UInt8, (∀ b ∈ bs, b.toNat < 128) → flat (bs.map fun b => (b.toNat : Int)) = bs
  | [], _ => rfl
  | b :: r, h => by
    have ih := ascii_flat r (fun x hx => h x (.tail _ hx))
    have e := ascii_enc ⟨b.toNat, h b (.head _)⟩
    show encR (b.toNat : Int) ++ flat (r.map fun b => (b.toNat : Int)) = b :: r
    rw [ih]
    have e' : encR (b.toNat : Int) = [UInt8.ofNat b.toNat] := e
    rw [e']
    simp
theorem escL_flat (n : Int) : ∃ ys, escL n = flat ys := by
  cases hE : escB n with
  | some c =>
    refine ⟨_, (escL_letter hE).trans (ascii_flat [92, c] ?_).symm⟩
    intro b hb
    rcases escB_cases n with ⟨rfl, e⟩ | ⟨rfl, e⟩ | ⟨rfl, e⟩ | ⟨rfl, e⟩ | ⟨rfl, e⟩ | ⟨rfl, e⟩ | ⟨rfl, e⟩ | ⟨_, _, _, _, _, _, _, e⟩
    all_goals (rw [e] at hE; cases hE)
    all_goals (simp at hb; rcases hb with rfl | rfl <;> decide)
  | none =>
    by_cases hlow : 0 ≤ n ∧ n < 32
    · refine ⟨_, (escL_low hE hlow.1 hlow.2).trans (ascii_flat _ ?_).symm⟩
      intro b hb
      have hd : ∀ x : Nat, x < 16 → (hexd x).toNat < 128 := by
        intro x hx
        have h1 : x = 0 ∨ x = 1 ∨ x = 2 ∨ x = 3 ∨ x = 4 ∨ x = 5 ∨ x = 6 ∨ x = 7 ∨ x = 8 ∨ x = 9 ∨ x = 10 ∨ x = 11 ∨ x = 12 ∨ x = 13 ∨ x = 14 ∨ x = 15 := by omega
        rcases h1 with rfl | rfl | rfl | rfl | rfl | rfl | rfl | rfl | rfl | rfl | rfl | rfl | rfl | rfl | rfl | rfl <;> decide
      have hb256 : (UInt8.ofNat n.toNat).toNat < 256 := UInt8.toNat_lt _
      simp only [hexL, List.flatMap_cons, List.flatMap_nil, List.append_nil, List.cons_append, List.nil_append, List.mem_cons, List.not_mem_nil, or_false] at hb
      rcases hb with rfl | rfl | rfl | rfl | rfl | rfl
      · decide
      · decide
      · decide
      · decide
      · exact hd _ (by omega)
      · exact hd _ (by omega)
    · exact ⟨[n], (escL_plain hE hlow).trans (flat_one n).symm⟩
theorem escsL_flat : ∀ rs : List Int, ∃ ys, escsL rs = flat ys
  | [] => ⟨[], rfl⟩
  | n :: r => by
    obtain ⟨y1, h1⟩ := escL_flat n
    obtain ⟨y2, h2⟩ := escsL_flat r
    exact ⟨y1 ++ y2, by rw [escsL_cons, h1, h2, flat_append]⟩
theorem quote_text (l : List UInt8) (rs : List Int) (h : runes l = some rs) : (runes (quoteL l)).isSome = true := by
  obtain ⟨ys, hy⟩ := escsL_flat rs
  have e : quoteL l = flat ([34] ++ ys ++ [34]) := by
    rw [quoteL_some h, flat_append, flat_append, hy]
    rfl
  rw [e, runes_flat]; rfl
theorem flat_text (rs : List Int) : (runes (flat rs)).isSome = true := by rw [runes_flat]; rfl
theorem runes_one {n : Int} (h : okR n) : runes (encR n) = some [n] := by
  have := runes_flat [n]
  rw [flat_one] at this
  rw [this]
  simp [h]
theorem quote_one {n : Int} (h : okR n) : quoteL (encR n) = 34 :: (escL n ++ [34]) := by
  rw [quoteL_some (runes_one h)]; simp [escsL]
theorem one_back {n : Int} (h : okR n) : readQ (34 :: (escL n ++ [34])) 0 = some ([n], (escL n).length + 2) := by
  have := quote_back (encR n) [] [n] (runes_one h)
  rw [quote_one h, List.append_nil] at this
  rw [this]
  simp
end Go.Proofs.YtnikcgmbkmbloaaGreatDoor
/- Tokens: plain facts: what a token is, what is read at a place, what the tokens of a text are. No program. -/
namespace Go.Proofs.YtnikcgmbkmbloaaGreatDoor
open Go
/-- a token -/
structure Tok where
  k : Int
  s : List UInt8
  n : Int
  x : Int
def tok0 : Tok := ⟨0, [], 0, 0⟩
def wNull : List UInt8 := [110, 117, 108, 108]
def wTrue : List UInt8 := [116, 114, 117, 101]
def wFalse : List UInt8 := [102, 97, 108, 115, 101]
def preAt (l : List UInt8) (i : Nat) (w : List UInt8) : Bool := (l.drop i).take w.length == w
/-- what is read: the token, the place behind it, the code -/
structure TokR where
  t : Tok
  next : Nat
  code : Nat
def badR (c : Nat) : TokR := ⟨tok0, 0, c⟩
def wordR (l : List UInt8) (i : Nat) : TokR := if preAt l i wNull = true then ⟨⟨4, wNull, 0, 0⟩, i + 4, 0⟩ else if preAt l i wTrue = true then ⟨⟨4, wTrue, 0, 0⟩, i + 4, 0⟩ else if preAt l i wFalse = true then ⟨⟨4, wFalse, 0, 0⟩, i + 5, 0⟩ else badR 1
def textR (l : List UInt8) (i : Nat) : TokR := match readQ l i with
  | none => badR 1
  | some (rs, e) => ⟨⟨2, flat rs, 0, 0⟩, e, 0⟩
def numR (l : List UInt8) (i : Nat) : TokR := if (readN l i).code = 0 then ⟨⟨3, [], (readN l i).n, (readN l i).x⟩, (readN l i).next, 0⟩ else badR (readN l i).code
def charR (l : List UInt8) (i : Nat) (c : UInt8) : TokR := if isSg c = true then ⟨⟨1, [c], 0, 0⟩, i + 1, 0⟩ else if c = 34 then textR l i else if (c == 45 || isD c) = true then numR l i else wordR l i
def tokAt (l : List UInt8) (i : Nat) : TokR := match l[i]? with
  | none => ⟨tok0, i, 0⟩
  | some c => charR l i c
def readTok (l : List UInt8) (i : Nat) : TokR := tokAt l (skE l i)
/-- a token that some text can give -/
inductive GoodTok : Tok → Prop
  | sign (c : UInt8) (h : isSg c = true) : GoodTok ⟨1, [c], 0, 0⟩
  | text (rs : List Int) (h : ∀ r ∈ rs, okR r) : GoodTok ⟨2, flat rs, 0, 0⟩
  | num (n x : Int) (h : n.natAbs < 10 ^ 17) : GoodTok ⟨3, [], n, x⟩
  | word (w : List UInt8) (h : w = wNull ∨ w = wTrue ∨ w = wFalse) : GoodTok ⟨4, w, 0, 0⟩
theorem pre_len {l : List UInt8} {i : Nat} {w : List UInt8} (h : preAt l i w = true) (hw : w ≠ []) : i + w.length ≤ l.length := by
  unfold preAt at h
  have e : (l.drop i).take w.length = w := by simpa using h
  have := congrArg List.length e
  have hp := List.length_pos_iff.2 hw
  simp at this; omega
theorem word_ok {l : List UInt8} {i : Nat} (h : (wordR l i).code = 0) : GoodTok (wordR l i).t ∧ i < (wordR l i).next ∧ (wordR l i).next ≤ l.length := by
  unfold wordR at h ⊢
  split
  · rename_i hp; have := pre_len hp (by decide); exact ⟨.word _ (.inl rfl), by simp, this⟩
  · split
    · rename_i hp; have := pre_len hp (by decide); exact ⟨.word _ (.inr (.inl rfl)), by simp, this⟩
    · split
      · rename_i hp; have := pre_len hp (by decide); exact ⟨.word _ (.inr (.inr rfl)), by simp, this⟩
      · rename_i h1 h2 h3
        rw [if_neg h1, if_neg h2, if_neg h3] at h; cases h
theorem text_ok {l : List UInt8} {i : Nat} (h : (textR l i).code = 0) : GoodTok (textR l i).t ∧ i < (textR l i).next ∧ (textR l i).next ≤ l.length := by
  unfold textR at h ⊢
  cases hq : readQ l i with
  | none => rw [hq] at h; cases h
  | some p =>
    obtain ⟨rs, e⟩ := p
    unfold readQ at hq
    split at hq
    · have := readAt_ok _ l _ e rs (Nat.le_refl _) hq
      simp only at this ⊢
      exact ⟨.text rs this.1, by omega, this.2.2⟩
    · cases hq
theorem val17 {l : List UInt8} (hd : ∀ c ∈ l, isD c = true) (hl : (l.dropWhile (· == 48)).length ≤ 17) : decVal 0 l < 10 ^ 17 := by
  have h1 : decVal 0 (l.dropWhile (· == 48)) = decVal 0 l := by
    clear hd hl
    induction l with
    | nil => rfl
    | cons c r ih =>
      rw [List.dropWhile_cons]
      by_cases hc : c = 48
      · subst hc; rw [if_pos (by decide)]; exact ih
      · rw [if_neg (by simpa using hc)]
  have h2 := decVal_lt (l.dropWhile (· == 48)) (fun c hc => by
    have := hd c ((List.dropWhile_sublist _).subset hc); unfold isD at this; unfold isDig; exact of_decide_eq_true this) 0
  rw [h1] at h2
  refine Nat.lt_of_lt_of_le h2 ?_
  rw [Nat.zero_add, Nat.one_mul]
  exact Nat.pow_le_pow_right (by decide) hl
theorem partsE_digs {l : List UInt8} {neg : Bool} {W F : List UInt8} {a : Nat} (hW : ∀ c ∈ W ++ F, isD c = true) : ∀ c ∈ (partsE l neg W F a).whole ++ (partsE l neg W F a).frac, isD c = true := by
  unfold partsE
  split
  · dsimp only
    split
    all_goals split
    all_goals first | exact hW | (intro c hc; cases hc)
  · exact hW
theorem partsF_digs {l : List UInt8} {neg : Bool} {W : List UInt8} {a : Nat} (hW : ∀ c ∈ W, isD c = true) : ∀ c ∈ (partsF l neg W a).whole ++ (partsF l neg W a).frac, isD c = true := by
  unfold partsF
  split
  · split
    · refine partsE_digs fun c hc => ?_
      rcases List.mem_append.1 hc with g | g
      · exact hW c g
      · exact cut_digs c g
    · intro c hc; cases hc
  · exact partsE_digs (by simpa using hW)
theorem partsW_digs {l : List UInt8} {neg : Bool} {a : Nat} : ∀ c ∈ (partsW l neg a).whole ++ (partsW l neg a).frac, isD c = true := by
  unfold partsW
  split
  · rename_i hd
    refine partsF_digs fun c hc => ?_
    unfold wEnd at hc
    split at hc
    · rename_i h48
      have hl := atC_lt h48
      rw [show cut l a (a + 1) = [l[a]] by unfold cut; rw [List.drop_eq_getElem_cons hl, Nat.add_sub_cancel_left]; rfl] at hc
      obtain rfl : c = l[a] := by simpa using hc
      rw [← atD_get hl]; exact hd
    · exact cut_digs c hc
  · intro c hc; cases hc
theorem pt_digs (l : List UInt8) (i : Nat) : ∀ c ∈ (parts l i).whole ++ (parts l i).frac, isD c = true := by
  unfold parts
  split <;> exact partsW_digs
theorem tnum_ok {l : List UInt8} {i : Nat} (hi : i ≤ l.length) (h : (numR l i).code = 0) : GoodTok (numR l i).t ∧ i < (numR l i).next ∧ (numR l i).next ≤ l.length := by
  unfold numR at h ⊢
  by_cases hc : (readN l i).code = 0
  · rw [if_pos hc]
    have hk := parts_next (readN_code hc)
    have hle := parts_le hi
    rw [← readN_next] at hk hle
    refine ⟨.num _ _ ?_, hk, hle⟩
    have hok := readN_code hc
    unfold readN numOf at hc ⊢
    rw [if_pos hok] at hc ⊢
    split at hc
    · rename_i h17
      rw [if_pos h17]
      have := val17 (pt_digs l i) h17.1
      unfold sgnV
      split
      · simp only; omega
      · simp only; omega
    · cases hc
  · rw [if_neg hc] at h; exact absurd h hc
theorem readTok_ok {l : List UInt8} {i : Nat} (hi : i ≤ l.length) (h : (readTok l i).code = 0) : (readTok l i = ⟨tok0, l.length, 0⟩) ∨ (GoodTok (readTok l i).t ∧ i < (readTok l i).next ∧ (readTok l i).next ≤ l.length) := by
  have hs := skE_ge l i
  have he := skE_le hi
  unfold readTok at h ⊢
  generalize skE l i = j at *
  unfold tokAt at h ⊢
  rcases Nat.lt_or_ge j l.length with g | g
  · right
    rw [List.getElem?_eq_getElem g] at h ⊢
    simp only at h ⊢
    generalize l[j] = c at *
    unfold charR at h ⊢
    split
    · rename_i hsg; exact ⟨.sign c hsg, by simp; omega, by simp; omega⟩
    · rename_i hsg
      rw [if_neg hsg] at h
      split
      · rename_i h34
        rw [if_pos h34] at h
        have := text_ok h; exact ⟨this.1, by omega, this.2.2⟩
      · rename_i h34
        rw [if_neg h34] at h
        split
        · rename_i hn
          rw [if_pos hn] at h
          have := tnum_ok (by omega) h; exact ⟨this.1, by omega, this.2.2⟩
        · rename_i hn
          rw [if_neg hn] at h
          have := word_ok h; exact ⟨this.1, by omega, this.2.2⟩
  · left
    rw [List.getElem?_eq_none g]
    simp only
    rw [show j = l.length by omega]
theorem good_k {t : Tok} (h : GoodTok t) : t.k = 1 ∨ t.k = 2 ∨ t.k = 3 ∨ t.k = 4 := by cases h <;> simp
/-- the tokens from i on, and the code -/
def toks (l : List UInt8) (i : Nat) : List Tok × Nat :=
  if (readTok l i).code ≠ 0 then ([], (readTok l i).code)
  else if (readTok l i).t.k = 0 then ([], 0)
  else if _h : i < (readTok l i).next ∧ (readTok l i).next ≤ l.length then
    (if (toks l (readTok l i).next).2 = 0 then ((readTok l i).t :: (toks l (readTok l i).next).1, 0) else ([], (toks l (readTok l i).next).2))
  else ([], 0)
termination_by l.length - i
decreasing_by all_goals omega
theorem toks_bad {l : List UInt8} {i : Nat} (h : (readTok l i).code ≠ 0) : toks l i = ([], (readTok l i).code) := by rw [toks, if_pos h]
theorem toks_end {l : List UInt8} {i : Nat} (h : (readTok l i).code = 0) (hk : (readTok l i).t.k = 0) : toks l i = ([], 0) := by rw [toks, if_neg (by simpa using h), if_pos hk]
theorem toks_step {l : List UInt8} {i : Nat} (h : (readTok l i).code = 0) (hk : (readTok l i).t.k ≠ 0) (hn : i < (readTok l i).next ∧ (readTok l i).next ≤ l.length) : toks l i = if (toks l (readTok l i).next).2 = 0 then ((readTok l i).t :: (toks l (readTok l i).next).1, 0) else ([], (toks l (readTok l i).next).2) := by
  rw [toks, if_neg (by simpa using h), if_neg hk, dif_pos hn]
/-- how far a reading of tokens has come -/
def FarT (l : List UInt8) (i : Nat) (ts : List Tok) : Prop := i ≤ l.length ∧ ts.length ≤ i ∧ (∀ t ∈ ts, GoodTok t) ∧ toks l 0 = if (toks l i).2 = 0 then (ts ++ (toks l i).1, 0) else ([], (toks l i).2)
theorem farT_start (l : List UInt8) : FarT l 0 [] := by
  refine ⟨Nat.zero_le _, Nat.le_refl _, by simp, ?_⟩
  split
  · rename_i h; rw [List.nil_append]; exact Prod.ext rfl h
  · rename_i h
    refine Prod.ext ?_ rfl
    show (toks l 0).1 = []
    by_cases hc : (readTok l 0).code ≠ 0
    · rw [toks_bad hc]
    · have hc' : (readTok l 0).code = 0 := by simpa using hc
      by_cases hk : (readTok l 0).t.k = 0
      · rw [toks_end hc' hk]
      · rw [toks, if_neg hc, if_neg hk] at h ⊢
        split
        · split
          · rename_i g1 g2; rw [dif_pos g1, if_pos g2] at h; exact absurd rfl h
          · rfl
        · rfl
theorem farT_bad {l : List UInt8} {i : Nat} {ts : List Tok} (h : FarT l i ts) (hc : (readTok l i).code ≠ 0) : toks l 0 = ([], (readTok l i).code) := by
  rw [h.2.2.2, toks_bad hc, if_neg hc]
theorem farT_end {l : List UInt8} {i : Nat} {ts : List Tok} (h : FarT l i ts) (hc : (readTok l i).code = 0) (hk : (readTok l i).t.k = 0) : toks l 0 = (ts, 0) := by
  rw [h.2.2.2, toks_end hc hk, if_pos rfl, List.append_nil]
theorem farT_step {l : List UInt8} {i : Nat} {ts : List Tok} (h : FarT l i ts) (hc : (readTok l i).code = 0) (hk : (readTok l i).t.k ≠ 0) : FarT l (readTok l i).next (ts ++ [(readTok l i).t]) ∧ i < (readTok l i).next := by
  rcases readTok_ok h.1 hc with e | ⟨hg, h1, h2⟩
  · rw [e] at hk; exact absurd rfl hk
  · refine ⟨⟨h2, by have := h.2.1; simp; omega, ?_, ?_⟩, h1⟩
    · intro t ht
      rcases List.mem_append.1 ht with g | g
      · exact h.2.2.1 t g
      · obtain rfl := List.mem_singleton.1 g; exact hg
    · rw [h.2.2.2, toks_step hc hk ⟨h1, h2⟩]
      by_cases hq : (toks l (readTok l i).next).2 = 0
      · rw [if_pos hq, if_pos rfl]; simp [hq]
      · rw [if_neg hq]; simp only; rw [if_neg hq, if_neg hq]
end Go.Proofs.YtnikcgmbkmbloaaGreatDoor
/- Tokens: the text of tokens is read back as these tokens. No program. -/
namespace Go.Proofs.YtnikcgmbkmbloaaGreatDoor
open Go
/-- TokenText -/
def tokText (t : Tok) : List UInt8 := if t.k = 1 ∨ t.k = 4 then t.s else if t.k = 2 then quoteL t.s else if t.k = 3 then (if t.x = 0 then Lib.itoa t.n else Lib.itoa t.n ++ 101 :: Lib.itoa t.x) else []
def joinT (l : List Tok) : List UInt8 := Lib.join (l.map tokText) [32]
theorem tokText_num (s : List UInt8) (n x : Int) : tokText ⟨3, s, n, x⟩ = if x = 0 then Lib.itoa n else Lib.itoa n ++ 101 :: Lib.itoa x := by
  show (if (3 : Int) = 1 ∨ (3 : Int) = 4 then s else if (3 : Int) = 2 then quoteL s else if (3 : Int) = 3 then (if x = 0 then Lib.itoa n else Lib.itoa n ++ 101 :: Lib.itoa x) else []) = _
  rw [if_neg (by decide), if_neg (by decide), if_pos rfl]
theorem tokText_text (s : List UInt8) (n x : Int) : tokText ⟨2, s, n, x⟩ = quoteL s := by
  show (if (2 : Int) = 1 ∨ (2 : Int) = 4 then s else if (2 : Int) = 2 then quoteL s else _) = _
  rw [if_neg (by decide), if_pos rfl]
theorem joinT_nil : joinT [] = [] := rfl
theorem joinT_one (t : Tok) : joinT [t] = tokText t := by unfold joinT; rw [List.map_cons, List.map_nil, Lib.join_one]
theorem joinT_cons (t u : Tok) (r : List Tok) : joinT (t :: u :: r) = tokText t ++ 32 :: joinT (u :: r) := by
  unfold joinT; rw [List.map_cons, List.map_cons, Lib.join_cons, Lib.join_cons]; unfold Lib.joinTail; simp
/-- what may stand behind a token -/
def Rest (r : List UInt8) : Prop := ∀ c t, r = c :: t → isSp c = true
theorem rest_nil : Rest [] := fun _ _ h => by cases h
theorem rest_sp (c : UInt8) (t : List UInt8) (h : isSp c = true) : Rest (c :: t) := fun _ _ e => by injection e with e _; rw [← e]; exact h
theorem sp_cases {c : UInt8} (h : isSp c = true) : c = 9 ∨ c = 10 ∨ c = 13 ∨ c = 32 := by
  unfold isSp at h; simpa using h
theorem rest_atC {pre r : List UInt8} (h : Rest r) (d : UInt8) (hd : isSp d = false) : atC (pre ++ r) pre.length d = false := by
  match r, h with
  | [], _ => rw [List.append_nil]; exact atC_nil _ _
  | c :: t, h =>
    rw [atC_app]
    have := h c t rfl
    by_cases e : c = d
    · subst e; rw [hd] at this; cases this
    · simpa using e
theorem rest_atD {pre r : List UInt8} (h : Rest r) : atD (pre ++ r) pre.length = false := by
  match r, h with
  | [], _ => rw [List.append_nil]; exact atD_nil _
  | c :: t, h =>
    rw [atD_app]
    rcases sp_cases (h c t rfl) with rfl | rfl | rfl | rfl <;> decide
theorem partsE_rest (a r : List UInt8) (hr : Rest r) (neg : Bool) (W F : List UInt8) : partsE (a ++ r) neg W F a.length = ⟨neg, false, W, F, [], a.length, true⟩ := by
  unfold partsE
  rw [rest_atC hr 101 (by decide), rest_atC hr 69 (by decide), if_neg (by decide)]
theorem partsE_exp (a r E : List UInt8) (hr : Rest r) (neg eneg : Bool) (W F : List UInt8) (hE : E ≠ []) (hD : ∀ c ∈ E, isD c = true) :
    partsE (a ++ (101 :: ((if eneg = true then [45] else []) ++ E) ++ r)) neg W F a.length = ⟨neg, eneg, W, F, E, a.length + 1 + (if eneg = true then 1 else 0) + E.length, true⟩ := by
  unfold partsE
  have e101 : atC (a ++ (101 :: ((if eneg = true then [45] else []) ++ E) ++ r)) a.length 101 = true := by rw [List.cons_append, atC_app]; rfl
  rw [e101, Bool.true_or, if_pos rfl]
  dsimp only
  match E, hE with
  | c :: t, _ =>
    have hc := hD c List.mem_cons_self
    have hp := ne45 hc
    have hq : (c == 43) = false := by
      cases e : c == 43
      · rfl
      · rw [show c = 43 by simpa using e] at hc; cases hc
    cases eneg
    · have el : a ++ (101 :: ((if false = true then [45] else []) ++ c :: t) ++ r) = (a ++ [101]) ++ (c :: t) ++ r := by simp
      have hl : a.length + 1 = (a ++ [101]).length := by simp
      rw [el, hl]
      have h1 : ∀ d, atC (a ++ [101] ++ c :: t ++ r) (a ++ [101]).length d = (c == d) := fun d => by rw [List.append_assoc, List.cons_append, atC_app]
      have h2 : atD (a ++ [101] ++ c :: t ++ r) (a ++ [101]).length = true := by rw [List.append_assoc, List.cons_append, atD_app]; exact hc
      have h3 := dEnd_app (c :: t) (a ++ [101]) r hD (by rw [← List.length_append]; exact rest_atD hr)
      rw [h1, h1, hp, hq]
      simp only [Bool.or_self, Bool.false_eq_true, if_false]
      rw [if_pos h2, h3, cut_app]
      simp
    · have el : a ++ (101 :: ((if true = true then [45] else []) ++ c :: t) ++ r) = (a ++ [101, 45]) ++ (c :: t) ++ r := by simp
      have e0 : a ++ (101 :: ((if true = true then [45] else []) ++ c :: t) ++ r) = (a ++ [101]) ++ 45 :: ((c :: t) ++ r) := by simp
      have hl : a.length + 1 = (a ++ [101]).length := by simp
      have h45 : atC (a ++ (101 :: ((if true = true then [45] else []) ++ c :: t) ++ r)) (a.length + 1) 45 = true := by rw [e0, hl, atC_app]; rfl
      have hor : (atC (a ++ (101 :: ((if true = true then [45] else []) ++ c :: t) ++ r)) (a.length + 1) 43 || atC (a ++ (101 :: ((if true = true then [45] else []) ++ c :: t) ++ r)) (a.length + 1) 45) = true := by rw [h45, Bool.or_true]
      rw [if_pos hor, h45, el, show a.length + 2 = (a ++ [101, 45]).length by simp]
      have h2 : atD (a ++ [101, 45] ++ c :: t ++ r) (a ++ [101, 45]).length = true := by rw [List.append_assoc, List.cons_append, atD_app]; exact hc
      have h3 := dEnd_app (c :: t) (a ++ [101, 45]) r hD (by rw [← List.length_append]; exact rest_atD hr)
      rw [if_pos h2, h3, cut_app]
      simp
theorem sgn_split (n : Int) : Lib.itoa n = (if decide (n < 0) = true then [45] else []) ++ Lib.decDigits n.natAbs := by
  by_cases h : n < 0
  · rw [itoa_lt h, decide_eq_true h, if_pos rfl]; rfl
  · rw [itoa_ge h, decide_eq_false h, if_neg (by decide)]; rfl
theorem parts_sign (a : List UInt8) (neg : Bool) (W r : List UInt8) (hW : WholeOk W) : parts (a ++ ((if neg = true then [45] else []) ++ (W ++ r))) a.length = partsW (a ++ ((if neg = true then [45] else []) ++ (W ++ r))) neg (a.length + (if neg = true then 1 else 0)) := by
  unfold parts
  cases neg
  · match W, hW with
    | c :: t, hW =>
      have e : atC (a ++ ((if false = true then [45] else []) ++ (c :: t ++ r))) a.length 45 = false := by
        show atC (a ++ c :: (t ++ r)) a.length 45 = false
        rw [atC_app]; exact ne45 (hW.2.1 c List.mem_cons_self)
      rw [e, if_neg (by decide)]; rfl
    | [], hW => exact absurd rfl hW.1
  · have e : atC (a ++ ((if true = true then [45] else []) ++ (W ++ r))) a.length 45 = true := by
      show atC (a ++ 45 :: (W ++ r)) a.length 45 = true
      rw [atC_app]; rfl
    rw [e, if_pos rfl]; rfl
theorem partsW_go (a W r : List UInt8) (neg : Bool) (hW : WholeOk W) (hd : atD (a ++ W ++ r) (a.length + W.length) = false) (h46 : atC (a ++ W ++ r) (a.length + W.length) 46 = false) : partsW (a ++ W ++ r) neg a.length = partsE (a ++ W ++ r) neg W [] (a.length + W.length) := by
  have h := wEnd_app a r hW hd
  unfold partsW
  rw [if_pos h.2, h.1, cut_app]
  unfold partsF
  rw [h46, if_neg (by decide)]
theorem numOf_val {neg eneg : Bool} {W E : List UInt8} {nx : Nat} (h1 : (lead W).length ≤ 17) (h2 : E.length ≤ 3) : numOf ⟨neg, eneg, W, [], E, nx, true⟩ = ⟨sgnV neg (decVal 0 W), sgnV eneg (decVal 0 E), nx, 0⟩ := by
  unfold numOf
  rw [if_pos rfl]
  simp only [List.append_nil]
  rw [if_pos ⟨h1, h2⟩]
  simp
theorem num_back (n x : Int) (hn : n.natAbs < 10 ^ 17) (hx : x.natAbs < 10 ^ 3) (a r : List UInt8) (hr : Rest r) : readN (a ++ (tokText ⟨3, [], n, x⟩ ++ r)) a.length = ⟨n, x, a.length + (tokText ⟨3, [], n, x⟩).length, 0⟩ := by
  have hW := decDigits_whole n.natAbs
  have hWl : (lead (Lib.decDigits n.natAbs)).length ≤ 17 := Nat.le_trans (lead_len _) (dec_len 16 _ hn)
  have hE0 := decDigits_ne x.natAbs
  have hE1 := decDigits_isD x.natAbs
  have hEl := dec_len 2 x.natAbs hx
  have hv1 := decDigits_val n.natAbs
  have hv2 := decDigits_val x.natAbs
  have hs1 := sgn_abs n (decide (n < 0)) (by simp)
  have hs2 := sgn_abs x (decide (x < 0)) (by simp)
  have ht : tokText ⟨3, [], n, x⟩ = (if decide (n < 0) = true then [45] else []) ++ (Lib.decDigits n.natAbs ++ (if x = 0 then [] else 101 :: ((if decide (x < 0) = true then [45] else []) ++ Lib.decDigits x.natAbs))) := by
    rw [tokText_num]
    by_cases h0 : x = 0
    · rw [if_pos h0, if_pos h0, List.append_nil]; exact sgn_split n
    · rw [if_neg h0, if_neg h0]
      rw [sgn_split n, sgn_split x, List.append_assoc]
  rw [ht]
  generalize decide (n < 0) = neg at *
  generalize decide (x < 0) = eneg at *
  generalize Lib.decDigits n.natAbs = W at *
  generalize Lib.decDigits x.natAbs = E at *
  unfold readN
  rw [show a ++ ((if neg = true then [45] else []) ++ (W ++ (if x = 0 then [] else 101 :: ((if eneg = true then [45] else []) ++ E))) ++ r) = a ++ ((if neg = true then [45] else []) ++ (W ++ ((if x = 0 then [] else 101 :: ((if eneg = true then [45] else []) ++ E)) ++ r))) by simp only [List.append_assoc]]
  rw [parts_sign a neg W _ hW]
  obtain ⟨a', ha'⟩ : ∃ a', a' = a ++ (if neg = true then [45] else []) := ⟨_, rfl⟩
  have hal : a.length + (if neg = true then 1 else 0) = a'.length := by rw [ha']; cases neg <;> simp
  have hnl : ((if neg = true then [45] else [] : List UInt8)).length = if neg = true then 1 else 0 := by cases neg <;> rfl
  have hel : ((if eneg = true then [45] else [] : List UInt8)).length = if eneg = true then 1 else 0 := by cases eneg <;> rfl
  by_cases h0 : x = 0
  · rw [if_pos h0]
    simp only [List.append_nil, List.nil_append]
    rw [hal, ← List.append_assoc, ← ha', ← List.append_assoc, partsW_go a' W r neg hW (by rw [← List.length_append]; exact rest_atD hr) (by rw [← List.length_append]; exact rest_atC hr 46 (by decide))]
    rw [← List.length_append, partsE_rest _ _ hr, numOf_val hWl (by simp), hv1, hs1]
    have : sgnV false ((decVal 0 [] : Nat) : Int) = x := by rw [h0]; rfl
    rw [this]
    congr 1
    rw [ha']; simp only [List.length_append, hnl]; omega
  · rw [if_neg h0]
    rw [hal, ← List.append_assoc, ← ha', ← List.append_assoc, partsW_go a' W _ neg hW (by rw [← List.length_append, List.cons_append, atD_app]; decide) (by rw [← List.length_append, List.cons_append, atC_app]; decide)]
    rw [← List.length_append, partsE_exp _ r E hr neg eneg W [] hE0 hE1, numOf_val hWl (by omega), hv1, hs1, hv2, hs2]
    congr 1
    rw [ha']; simp only [List.length_append, List.length_cons, hnl, hel]; omega
theorem itoa_head (n : Int) : ∃ c r, Lib.itoa n = c :: r ∧ (c = 45 ∨ isD c = true) := by
  by_cases h : n < 0
  · exact ⟨45, _, itoa_lt h, .inl rfl⟩
  · obtain ⟨c, r, e, hd⟩ := dec_head n.natAbs
    exact ⟨c, r, (itoa_ge h).trans e, .inr (by unfold isDig at hd; unfold isD; exact decide_eq_true hd)⟩
theorem isD_no {c : UInt8} (h : c = 45 ∨ isD c = true) : isSp c = false ∧ isSg c = false ∧ c ≠ 34 ∧ (c == 45 || isD c) = true := by
  have hall : ∀ n : Fin 256, (UInt8.ofNat n.val = 45 ∨ isD (UInt8.ofNat n.val) = true) → isSp (UInt8.ofNat n.val) = false ∧ isSg (UInt8.ofNat n.val) = false ∧ UInt8.ofNat n.val ≠ 34 ∧ (UInt8.ofNat n.val == 45 || isD (UInt8.ofNat n.val)) = true := by decide +kernel
  have := hall ⟨c.toNat, c.toNat_lt⟩
  simp only [UInt8.ofNat_toNat] at this
  exact this h
theorem pre_app (a w r : List UInt8) : preAt (a ++ (w ++ r)) a.length w = true := by
  unfold preAt; rw [List.drop_left, List.take_left]; simp
theorem at_head (a r : List UInt8) (c : UInt8) : (a ++ c :: r)[a.length]? = some c := by simp
/-- a token's text, with spaces or nothing behind it, is read back -/
theorem tok_back (t : Tok) (h : GoodTok t) (hx : t.k = 3 → t.x.natAbs < 10 ^ 3) (a r : List UInt8) (hr : Rest r) :
    tokAt (a ++ (tokText t ++ r)) a.length = ⟨t, a.length + (tokText t).length, 0⟩ ∧ atSp (a ++ (tokText t ++ r)) a.length = false := by
  cases h with
  | sign c hc =>
    have ht : tokText ⟨1, [c], 0, 0⟩ = [c] := by unfold tokText; rw [if_pos (.inl rfl)]
    have hall : ∀ n : Fin 256, isSg (UInt8.ofNat n.val) = true → isSp (UInt8.ofNat n.val) = false := by decide +kernel
    have h1 := hall ⟨c.toNat, c.toNat_lt⟩
    simp only [UInt8.ofNat_toNat] at h1
    rw [ht, List.singleton_append]
    unfold tokAt atSp
    rw [at_head]
    simp only
    unfold charR
    rw [if_pos hc]
    exact ⟨rfl, h1 hc⟩
  | text rs hrs =>
    have ht : tokText ⟨2, flat rs, 0, 0⟩ = 34 :: (escsL rs ++ [34]) := by
      rw [tokText_text]
      have : runes (flat rs) = some rs := by
        rw [runes_flat]; congr 1; rw [List.filter_eq_self]; intro x hx; exact decide_eq_true (hrs x hx)
      exact quoteL_some this
    rw [ht, List.cons_append]
    have hq : readQ (a ++ 34 :: (escsL rs ++ [34] ++ r)) (a.length : Nat) = some (rs, a.length + 1 + (escsL rs).length + 1) := by
      unfold readQ
      rw [if_pos ⟨by omega, by rw [show (((a.length : Nat) : Int)).toNat = a.length by omega]; exact at_head _ _ _⟩, show (((a.length : Nat) : Int)).toNat = a.length by omega]
      have := read_escs rs (a ++ [34]) r hrs
      rw [List.length_append] at this
      rw [show a ++ 34 :: (escsL rs ++ [34] ++ r) = a ++ [34] ++ (escsL rs ++ 34 :: r) by simp]
      exact this
    unfold tokAt atSp
    rw [at_head]
    simp only
    refine ⟨?_, by decide⟩
    unfold charR
    rw [if_neg (by decide), if_pos rfl]
    unfold textR
    rw [hq]
    simp only [List.length_cons, List.length_append, List.length_nil]
    congr 1
    omega
  | num n x hn =>
    have hb := num_back n x hn (hx rfl) a r hr
    obtain ⟨c, t, hc, hd⟩ := itoa_head n
    obtain ⟨t', ht'⟩ : ∃ t', tokText ⟨3, [], n, x⟩ = c :: t' := by
      rw [tokText_num]
      split
      · exact ⟨_, hc⟩
      · exact ⟨_, by rw [hc]; rfl⟩
    obtain ⟨h1, h2, h3, h4⟩ := isD_no hd
    have hat : (a ++ (tokText ⟨3, [], n, x⟩ ++ r))[a.length]? = some c := by rw [ht', List.cons_append]; exact at_head _ _ _
    unfold tokAt atSp
    rw [hat]
    simp only
    refine ⟨?_, h1⟩
    unfold charR
    rw [if_neg (by rw [h2]; decide), if_neg h3, if_pos h4]
    unfold numR
    rw [hb]
    rfl
  | word w hw =>
    have ht : tokText ⟨4, w, 0, 0⟩ = w := by unfold tokText; rw [if_pos (.inr rfl)]
    rw [ht]
    have hp := pre_app a w r
    rcases hw with rfl | rfl | rfl
    · have hat : (a ++ (wNull ++ r))[a.length]? = some 110 := at_head _ _ _
      unfold tokAt atSp
      rw [hat]
      refine ⟨?_, by decide⟩
      show wordR _ _ = _
      unfold wordR
      rw [if_pos hp]; rfl
    · have hat : (a ++ (wTrue ++ r))[a.length]? = some 116 := at_head _ _ _
      have hn : ¬ preAt (a ++ (wTrue ++ r)) a.length wNull = true := by
        unfold preAt; rw [List.drop_left]; unfold wTrue wNull; simp
      unfold tokAt atSp
      rw [hat]
      refine ⟨?_, by decide⟩
      show wordR _ _ = _
      unfold wordR
      rw [if_neg hn, if_pos hp]; rfl
    · have hat : (a ++ (wFalse ++ r))[a.length]? = some 102 := at_head _ _ _
      have hn : ¬ preAt (a ++ (wFalse ++ r)) a.length wNull = true := by
        unfold preAt; rw [List.drop_left]; unfold wFalse wNull; simp
      have hm : ¬ preAt (a ++ (wFalse ++ r)) a.length wTrue = true := by
        unfold preAt; rw [List.drop_left]; unfold wFalse wTrue; simp
      unfold tokAt atSp
      rw [hat]
      refine ⟨?_, by decide⟩
      show wordR _ _ = _
      unfold wordR
      rw [if_neg hn, if_neg hm, if_pos hp]; rfl
theorem skE_sp : ∀ (sp a r : List UInt8), (∀ c ∈ sp, isSp c = true) → skE (a ++ (sp ++ r)) a.length = skE (a ++ sp ++ r) (a ++ sp).length
  | [], a, r, _ => by simp
  | c :: t, a, r, h => by
    have h1 : atSp (a ++ (c :: t ++ r)) a.length = true := by unfold atSp; rw [List.cons_append, at_head]; exact h c List.mem_cons_self
    rw [skE_step h1]
    have ih := skE_sp t (a ++ [c]) r (fun x hx => h x (List.mem_cons_of_mem _ hx))
    rw [show a ++ (c :: t ++ r) = a ++ [c] ++ (t ++ r) by simp, show a.length + 1 = (a ++ [c]).length by simp, ih]
    simp
/-- the text of tokens, with spaces before and behind it, is read back -/
theorem toks_back : ∀ (l : List Tok) (a sp r : List UInt8), (∀ t ∈ l, GoodTok t ∧ (t.k = 3 → t.x.natAbs < 10 ^ 3)) → (∀ c ∈ sp, isSp c = true) → (∀ c ∈ r, isSp c = true) → toks (a ++ (sp ++ (joinT l ++ r))) a.length = (l, 0)
  | [], a, sp, r, _, hs, hr => by
    rw [joinT_nil, List.nil_append]
    have h1 := skE_sp (sp ++ r) a [] (fun c hc => (List.mem_append.1 hc).elim (hs c) (hr c))
    simp only [List.append_nil] at h1
    rw [skE_stop (atSp_out (Nat.le_refl _))] at h1
    have h2 : readTok (a ++ (sp ++ r)) a.length = ⟨tok0, (a ++ (sp ++ r)).length, 0⟩ := by
      unfold readTok tokAt; rw [h1, List.getElem?_eq_none (Nat.le_refl _)]
    exact toks_end (by rw [h2]) (by rw [h2]; rfl)
  | t :: l, a, sp, r, h, hs, hr => by
    obtain ⟨hg, hx⟩ := h t List.mem_cons_self
    have hih : ∀ u ∈ l, GoodTok u ∧ (u.k = 3 → u.x.natAbs < 10 ^ 3) := fun u hu => h u (List.mem_cons_of_mem _ hu)
    -- what stands behind the first token: spaces, the others, spaces
    obtain ⟨sp2, hsp2, hrest, hj⟩ : ∃ sp2 : List UInt8, (∀ c ∈ sp2, isSp c = true) ∧ Rest (sp2 ++ (joinT l ++ r)) ∧ joinT (t :: l) ++ r = tokText t ++ (sp2 ++ (joinT l ++ r)) := by
      match l with
      | [] =>
        refine ⟨[], by simp, ?_, ?_⟩
        · rw [joinT_nil]
          intro c u e
          exact hr c (by have e' : r = c :: u := e; rw [e']; exact List.mem_cons_self)
        · rw [joinT_one, joinT_nil]; rfl
      | u :: l' =>
        refine ⟨[32], by simp [isSp], rest_sp _ _ (by decide), ?_⟩
        rw [joinT_cons, List.append_assoc]; rfl
    rw [hj]
    have hb := tok_back t hg hx (a ++ sp) (sp2 ++ (joinT l ++ r)) hrest
    have hrd : readTok (a ++ (sp ++ (tokText t ++ (sp2 ++ (joinT l ++ r))))) a.length = ⟨t, (a ++ sp).length + (tokText t).length, 0⟩ := by
      unfold readTok
      rw [skE_sp sp a _ hs, skE_stop hb.2, ← List.append_assoc]
      exact hb.1
    have ih := toks_back l (a ++ sp ++ tokText t) sp2 r hih hsp2 hr
    have hle : (a ++ sp).length + (tokText t).length = (a ++ sp ++ tokText t).length := by simp only [List.length_append]
    have hlist : a ++ (sp ++ (tokText t ++ (sp2 ++ (joinT l ++ r)))) = a ++ sp ++ tokText t ++ (sp2 ++ (joinT l ++ r)) := by simp only [List.append_assoc]
    have hk := good_k hg
    rcases readTok_ok (l := a ++ (sp ++ (tokText t ++ (sp2 ++ (joinT l ++ r))))) (i := a.length) (by simp) (by rw [hrd]) with e | ⟨_, h1, h2⟩
    · rw [hrd] at e
      have : t.k = 0 := by injection e with e _; rw [e]; rfl
      omega
    · rw [toks_step (by rw [hrd]) (by rw [hrd]; show t.k ≠ 0; omega) ⟨h1, h2⟩, hrd]
      simp only
      rw [hle, hlist, ih, if_pos rfl]
theorem joinT_back (l : List Tok) (h : ∀ t ∈ l, GoodTok t ∧ (t.k = 3 → t.x.natAbs < 10 ^ 3)) : toks (joinT l) 0 = (l, 0) := by
  have := toks_back l [] [] [] h (by simp) (by simp)
  simpa using this
theorem joinT_back_sp (l : List Tok) (h : ∀ t ∈ l, GoodTok t ∧ (t.k = 3 → t.x.natAbs < 10 ^ 3)) : toks (9 :: (joinT l ++ [32, 10])) 0 = (l, 0) := by
  have := toks_back l [] [9] [32, 10] h (by decide) (by decide)
  simpa using this
end Go.Proofs.YtnikcgmbkmbloaaGreatDoor
