import Derived.Test.YtelehfefhlgbkaaGreatDoorG7
import Derived.Lib.Join
import Derived.Test.YtelehfefhlgbkaaGreatDoorG5
import Derived.Lib.Hide
import Derived.Outline
import Derived.ProofKit
import Derived.StillTailTactics
import Derived.Test.YtelehfefhlgbkaaGreatDoorRows
import Derived.WalkKit
import Derived.Maps.OwnSet
import Derived.Maps.RangeWalk
import Derived.Test.YtelehfefhlgbkaaGreatDoorG0
import Derived.Test.YtelehfefhlgbkaaGreatDoorG2
import Derived.Test.YtelehfefhlgbkaaGreatDoorG6
import Derived.Deep.RegionHeld3
import Derived.Deep.AppendLies
/- Tokens: the text of tokens is read back as these tokens. No program. -/
namespace Go.Proofs.YtelehfefhlgbkaaGreatDoor
open Go
/-- TokenText -/
def tokText (t : Tok) : List UInt8 := if t.k = 1 ∨ t.k = 4 then t.s else if t.k = 2 then quoteL t.s else if t.k = 3 then (if t.x = 0 then Lib.itoa t.n else Lib.itoa t.n ++ 101 :: Lib.itoa t.x) else []
def joinT (l : List Tok) : List UInt8 := Lib.join (l.map tokText) [32]
theorem tokText_num (s : List UInt8) (n x : Int) : tokText ⟨3, s, n, x⟩ = if x = 0 then Lib.itoa n else Lib.itoa n ++ 101 :: Lib.itoa x := by
  show (if (3 : Int) = 1 ∨ (3 : Int) = 4 then s else if (3 : Int) = 2 then quoteL s else if (3 : Int) = 3 then (if x = 0 then Lib.itoa n else Lib.itoa n ++ 101 :: Lib.itoa x) else []) = _
  rw [if_neg (by decide), if_neg (by decide), if_pos rfl]
theorem tokText_text (s : List UInt8) (n x : Int) : tokText ⟨2, s, n, x⟩ = quoteL s := by
  show (if (2 : Int) = 1 ∨ (2 : Int) = 4 then s else if (2 : Int) = 2 then quoteL s else _) = _
  rw [if_neg (by decide), if_pos rfl]
theorem joinT_nil : joinT [] = [] := rfl
theorem joinT_one (t : Tok) : joinT [t] = tokText t := by unfold joinT; rw [List.map_cons, List.map_nil, Lib.join_one]
theorem joinT_cons (t u : Tok) (r : List Tok) : joinT (t :: u :: r) = tokText t ++ 32 :: joinT (u :: r) := by
  unfold joinT; rw [List.map_cons, List.map_cons, Lib.join_cons, Lib.join_cons]; unfold Lib.joinTail; simp
/-- what may stand behind a token -/
def Rest (r : List UInt8) : Prop := ∀ c t, r = c :: t → isSp c = true
theorem rest_nil : Rest [] := fun _ _ h => by cases h
theorem rest_sp (c : UInt8) (t : List UInt8) (h : isSp c = true) : Rest (c :: t) := fun _ _ e => by injection e with e _; rw [← e]; exact h
theorem sp_cases {c : UInt8} (h : isSp c = true) : c = 9 ∨ c = 10 ∨ c = 13 ∨ c = 32 := by
  unfold isSp at h; simpa using h
theorem rest_atC {pre r : List UInt8} (h : Rest r) (d : UInt8) (hd : isSp d = false) : atC (pre ++ r) pre.length d = false := by
  match r, h with
  | [], _ => rw [List.append_nil]; exact atC_nil _ _
  | c :: t, h =>
    rw [atC_app]
    have := h c t rfl
    by_cases e : c = d
    · subst e; rw [hd] at this; cases this
    · simpa using e
theorem rest_atD {pre r : List UInt8} (h : Rest r) : atD (pre ++ r) pre.length = false := by
  match r, h with
  | [], _ => rw [List.append_nil]; exact atD_nil _
  | c :: t, h =>
    rw [atD_app]
    rcases sp_cases (h c t rfl) with rfl | rfl | rfl | rfl <;> decide
theorem partsE_rest (a r : List UInt8) (hr : Rest r) (neg : Bool) (W F : List UInt8) : partsE (a ++ r) neg W F a.length = ⟨neg, false, W, F, [], a.length, true⟩ := by
  unfold partsE
  rw [rest_atC hr 101 (by decide), rest_atC hr 69 (by decide), if_neg (by decide)]
theorem partsE_exp (a r E : List UInt8) (hr : Rest r) (neg eneg : Bool) (W F : List UInt8) (hE : E ≠ []) (hD : ∀ c ∈ E, isD c = true) :
    partsE (a ++ (101 :: ((if eneg = true then [45] else []) ++ E) ++ r)) neg W F a.length = ⟨neg, eneg, W, F, E, a.length + 1 + (if eneg = true then 1 else 0) + E.length, true⟩ := by
  unfold partsE
  have e101 : atC (a ++ (101 :: ((if eneg = true then [45] else []) ++ E) ++ r)) a.length 101 = true := by rw [List.cons_append, atC_app]; rfl
  rw [e101, Bool.true_or, if_pos rfl]
  dsimp only
  match E, hE with
  | c :: t, _ =>
    have hc := hD c List.mem_cons_self
    have hp := ne45 hc
    have hq : (c == 43) = false := by
      cases e : c == 43
      · rfl
      · rw [show c = 43 by simpa using e] at hc; cases hc
    cases eneg
    · have el : a ++ (101 :: ((if false = true then [45] else []) ++ c :: t) ++ r) = (a ++ [101]) ++ (c :: t) ++ r := by simp
      have hl : a.length + 1 = (a ++ [101]).length := by simp
      rw [el, hl]
      have h1 : ∀ d, atC (a ++ [101] ++ c :: t ++ r) (a ++ [101]).length d = (c == d) := fun d => by rw [List.append_assoc, List.cons_append, atC_app]
      have h2 : atD (a ++ [101] ++ c :: t ++ r) (a ++ [101]).length = true := by rw [List.append_assoc, List.cons_append, atD_app]; exact hc
      have h3 := dEnd_app (c :: t) (a ++ [101]) r hD (by rw [← List.length_append]; exact rest_atD hr)
      rw [h1, h1, hp, hq]
      simp only [Bool.or_self, Bool.false_eq_true, if_false]
      rw [if_pos h2, h3, cut_app]
      simp
    · have el : a ++ (101 :: ((if true = true then [45] else []) ++ c :: t) ++ r) = (a ++ [101, 45]) ++ (c :: t) ++ r := by simp
      have e0 : a ++ (101 :: ((if true = true then [45] else []) ++ c :: t) ++ r) = (a ++ [101]) ++ 45 :: ((c :: t) ++ r) := by simp
      have hl : a.length + 1 = (a ++ [101]).length := by simp
      have h45 : atC (a ++ (101 :: ((if true = true then [45] else []) ++ c :: t) ++ r)) (a.length + 1) 45 = true := by rw [e0, hl, atC_app]; rfl
      have hor : (atC (a ++ (101 :: ((if true = true then [45] else []) ++ c :: t) ++ r)) (a.length + 1) 43 || atC (a ++ (101 :: ((if true = true then [45] else []) ++ c :: t) ++ r)) (a.length + 1) 45) = true := by rw [h45, Bool.or_true]
      rw [if_pos hor, h45, el, show a.length + 2 = (a ++ [101, 45]).length by simp]
      have h2 : atD (a ++ [101, 45] ++ c :: t ++ r) (a ++ [101, 45]).length = true := by rw [List.append_assoc, List.cons_append, atD_app]; exact hc
      have h3 := dEnd_app (c :: t) (a ++ [101, 45]) r hD (by rw [← List.length_append]; exact rest_atD hr)
      rw [if_pos h2, h3, cut_app]
      simp
theorem sgn_split (n : Int) : Lib.itoa n = (if decide (n < 0) = true then [45] else []) ++ Lib.decDigits n.natAbs := by
  by_cases h : n < 0
  · rw [itoa_lt h, decide_eq_true h, if_pos rfl]; rfl
  · rw [itoa_ge h, decide_eq_false h, if_neg (by decide)]; rfl
theorem parts_sign (a : List UInt8) (neg : Bool) (W r : List UInt8) (hW : WholeOk W) : parts (a ++ ((if neg = true then [45] else []) ++ (W ++ r))) a.length = partsW (a ++ ((if neg = true then [45] else []) ++ (W ++ r))) neg (a.length + (if neg = true then 1 else 0)) := by
  unfold parts
  cases neg
  · match W, hW with
    | c :: t, hW =>
      have e : atC (a ++ ((if false = true then [45] else []) ++ (c :: t ++ r))) a.length 45 = false := by
        show atC (a ++ c :: (t ++ r)) a.length 45 = false
        rw [atC_app]; exact ne45 (hW.2.1 c List.mem_cons_self)
      rw [e, if_neg (by decide)]; rfl
    | [], hW => exact absurd rfl hW.1
  · have e : atC (a ++ ((if true = true then [45] else []) ++ (W ++ r))) a.length 45 = true := by
      show atC (a ++ 45 :: (W ++ r)) a.length 45 = true
      rw [atC_app]; rfl
    rw [e, if_pos rfl]; rfl
theorem partsW_go (a W r : List UInt8) (neg : Bool) (hW : WholeOk W) (hd : atD (a ++ W ++ r) (a.length + W.length) = false) (h46 : atC (a ++ W ++ r) (a.length + W.length) 46 = false) : partsW (a ++ W ++ r) neg a.length = partsE (a ++ W ++ r) neg W [] (a.length + W.length) := by
  have h := wEnd_app a r hW hd
  unfold partsW
  rw [if_pos h.2, h.1, cut_app]
  unfold partsF
  rw [h46, if_neg (by decide)]
theorem numOf_val {neg eneg : Bool} {W E : List UInt8} {nx : Nat} (h1 : (lead W).length ≤ 17) (h2 : E.length ≤ 3) : numOf ⟨neg, eneg, W, [], E, nx, true⟩ = ⟨sgnV neg (decVal 0 W), sgnV eneg (decVal 0 E), nx, 0⟩ := by
  unfold numOf
  rw [if_pos rfl]
  simp only [List.append_nil]
  rw [if_pos ⟨h1, h2⟩]
  simp
theorem num_back (n x : Int) (hn : n.natAbs < 10 ^ 17) (hx : x.natAbs < 10 ^ 3) (a r : List UInt8) (hr : Rest r) : readN (a ++ (tokText ⟨3, [], n, x⟩ ++ r)) a.length = ⟨n, x, a.length + (tokText ⟨3, [], n, x⟩).length, 0⟩ := by
  have hW := decDigits_whole n.natAbs
  have hWl : (lead (Lib.decDigits n.natAbs)).length ≤ 17 := Nat.le_trans (lead_len _) (dec_len 16 _ hn)
  have hE0 := decDigits_ne x.natAbs
  have hE1 := decDigits_isD x.natAbs
  have hEl := dec_len 2 x.natAbs hx
  have hv1 := decDigits_val n.natAbs
  have hv2 := decDigits_val x.natAbs
  have hs1 := sgn_abs n (decide (n < 0)) (by simp)
  have hs2 := sgn_abs x (decide (x < 0)) (by simp)
  have ht : tokText ⟨3, [], n, x⟩ = (if decide (n < 0) = true then [45] else []) ++ (Lib.decDigits n.natAbs ++ (if x = 0 then [] else 101 :: ((if decide (x < 0) = true then [45] else []) ++ Lib.decDigits x.natAbs))) := by
    rw [tokText_num]
    by_cases h0 : x = 0
    · rw [if_pos h0, if_pos h0, List.append_nil]; exact sgn_split n
    · rw [if_neg h0, if_neg h0]
      rw [sgn_split n, sgn_split x, List.append_assoc]
  rw [ht]
  generalize decide (n < 0) = neg at *
  generalize decide (x < 0) = eneg at *
  generalize Lib.decDigits n.natAbs = W at *
  generalize Lib.decDigits x.natAbs = E at *
  unfold readN
  rw [show a ++ ((if neg = true then [45] else []) ++ (W ++ (if x = 0 then [] else 101 :: ((if eneg = true then [45] else []) ++ E))) ++ r) = a ++ ((if neg = true then [45] else []) ++ (W ++ ((if x = 0 then [] else 101 :: ((if eneg = true then [45] else []) ++ E)) ++ r))) by simp only [List.append_assoc]]
  rw [parts_sign a neg W _ hW]
  obtain ⟨a', ha'⟩ : ∃ a', a' = a ++ (if neg = true then [45] else []) := ⟨_, rfl⟩
  have hal : a.length + (if neg = true then 1 else 0) = a'.length := by rw [ha']; cases neg <;> simp
  have hnl : ((if neg = true then [45] else [] : List UInt8)).length = if neg = true then 1 else 0 := by cases neg <;> rfl
  have hel : ((if eneg = true then [45] else [] : List UInt8)).length = if eneg = true then 1 else 0 := by cases eneg <;> rfl
  by_cases h0 : x = 0
  · rw [if_pos h0]
    simp only [List.append_nil, List.nil_append]
    rw [hal, ← List.append_assoc, ← ha', ← List.append_assoc, partsW_go a' W r neg hW (by rw [← List.length_append]; exact rest_atD hr) (by rw [← List.length_append]; exact rest_atC hr 46 (by decide))]
    rw [← List.length_append, partsE_rest _ _ hr, numOf_val hWl (by simp), hv1, hs1]
    have : sgnV false ((decVal 0 [] : Nat) : Int) = x := by rw [h0]; rfl
    rw [this]
    congr 1
    rw [ha']; simp only [List.length_append, hnl]; omega
  · rw [if_neg h0]
    rw [hal, ← List.append_assoc, ← ha', ← List.append_assoc, partsW_go a' W _ neg hW (by rw [← List.length_append, List.cons_append, atD_app]; decide) (by rw [← List.length_append, List.cons_append, atC_app]; decide)]
    rw [← List.length_append, partsE_exp _ r E hr neg eneg W [] hE0 hE1, numOf_val hWl (by omega), hv1, hs1, hv2, hs2]
    congr 1
    rw [ha']; simp only [List.length_append, List.length_cons, hnl, hel]; omega
theorem itoa_head (n : Int) : ∃ c r, Lib.itoa n = c :: r ∧ (c = 45 ∨ isD c = true) := by
  by_cases h : n < 0
  · exact ⟨45, _, itoa_lt h, .inl rfl⟩
  · obtain ⟨c, r, e, hd⟩ := dec_head n.natAbs
    exact ⟨c, r, (itoa_ge h).trans e, .inr (by unfold isDig at hd; unfold isD; exact decide_eq_true hd)⟩
theorem isD_no {c : UInt8} (h : c = 45 ∨ isD c = true) : isSp c = false ∧ isSg c = false ∧ c ≠ 34 ∧ (c == 45 || isD c) = true := by
  have hall : ∀ n : Fin 256, (UInt8.ofNat n.val = 45 ∨ isD (UInt8.ofNat n.val) = true) → isSp (UInt8.ofNat n.val) = false ∧ isSg (UInt8.ofNat n.val) = false ∧ UInt8.ofNat n.val ≠ 34 ∧ (UInt8.ofNat n.val == 45 || isD (UInt8.ofNat n.val)) = true := by decide +kernel
  have := hall ⟨c.toNat, c.toNat_lt⟩
  simp only [UInt8.ofNat_toNat] at this
  exact this h
theorem pre_app (a w r : List UInt8) : preAt (a ++ (w ++ r)) a.length w = true := by
  unfold preAt; rw [List.drop_left, List.take_left]; simp
theorem at_head (a r : List UInt8) (c : UInt8) : (a ++ c :: r)[a.length]? = some c := by simp
/-- a token's text, with spaces or nothing behind it, is read back -/
theorem tok_back (t : Tok) (h : GoodTok t) (hx : t.k = 3 → t.x.natAbs < 10 ^ 3) (a r : List UInt8) (hr : Rest r) :
    tokAt (a ++ (tokText t ++ r)) a.length = ⟨t, a.length + (tokText t).length, 0⟩ ∧ atSp (a ++ (tokText t ++ r)) a.length = false := by
  cases h with
  | sign c hc =>
    have ht : tokText ⟨1, [c], 0, 0⟩ = [c] := by unfold tokText; rw [if_pos (.inl rfl)]
    have hall : ∀ n : Fin 256, isSg (UInt8.ofNat n.val) = true → isSp (UInt8.ofNat n.val) = false := by decide +kernel
    have h1 := hall ⟨c.toNat, c.toNat_lt⟩
    simp only [UInt8.ofNat_toNat] at h1
    rw [ht, List.singleton_append]
    unfold tokAt atSp
    rw [at_head]
    simp only
    unfold charR
    rw [if_pos hc]
    exact ⟨rfl, h1 hc⟩
  | text rs hrs =>
    have ht : tokText ⟨2, flat rs, 0, 0⟩ = 34 :: (escsL rs ++ [34]) := by
      rw [tokText_text]
      have : runes (flat rs) = some rs := by
        rw [runes_flat]; congr 1; rw [List.filter_eq_self]; intro x hx; exact decide_eq_true (hrs x hx)
      exact quoteL_some this
    rw [ht, List.cons_append]
    have hq : readQ (a ++ 34 :: (escsL rs ++ [34] ++ r)) (a.length : Nat) = some (rs, a.length + 1 + (escsL rs).length + 1) := by
      unfold readQ
      rw [if_pos ⟨by omega, by rw [show (((a.length : Nat) : Int)).toNat = a.length by omega]; exact at_head _ _ _⟩, show (((a.length : Nat) : Int)).toNat = a.length by omega]
      have := read_escs rs (a ++ [34]) r hrs
      rw [List.length_append] at this
      rw [show a ++ 34 :: (escsL rs ++ [34] ++ r) = a ++ [34] ++ (escsL rs ++ 34 :: r) by simp]
      exact this
    unfold tokAt atSp
    rw [at_head]
    simp only
    refine ⟨?_, by decide⟩
    unfold charR
    rw [if_neg (by decide), if_pos rfl]
    unfold textR
    rw [hq]
    simp only [List.length_cons, List.length_append, List.length_nil]
    congr 1
    omega
  | num n x hn =>
    have hb := num_back n x hn (hx rfl) a r hr
    obtain ⟨c, t, hc, hd⟩ := itoa_head n
    obtain ⟨t', ht'⟩ : ∃ t', tokText ⟨3, [], n, x⟩ = c :: t' := by
      rw [tokText_num]
      split
      · exact ⟨_, hc⟩
      · exact ⟨_, by rw [hc]; rfl⟩
    obtain ⟨h1, h2, h3, h4⟩ := isD_no hd
    have hat : (a ++ (tokText ⟨3, [], n, x⟩ ++ r))[a.length]? = some c := by rw [ht', List.cons_append]; exact at_head _ _ _
    unfold tokAt atSp
    rw [hat]
    simp only
    refine ⟨?_, h1⟩
    unfold charR
    rw [if_neg (by rw [h2]; decide), if_neg h3, if_pos h4]
    unfold numR
    rw [hb]
    rfl
  | word w hw =>
    have ht : tokText ⟨4, w, 0, 0⟩ = w := by unfold tokText; rw [if_pos (.inr rfl)]
    rw [ht]
    have hp := pre_app a w r
    rcases hw with rfl | rfl | rfl
    · have hat : (a ++ (wNull ++ r))[a.length]? = some 110 := at_head _ _ _
      unfold tokAt atSp
      rw [hat]
      refine ⟨?_, by decide⟩
      show wordR _ _ = _
      unfold wordR
      rw [if_pos hp]; rfl
    · have hat : (a ++ (wTrue ++ r))[a.length]? = some 116 := at_head _ _ _
      have hn : ¬ preAt (a ++ (wTrue ++ r)) a.length wNull = true := by
        unfold preAt; rw [List.drop_left]; unfold wTrue wNull; simp
      unfold tokAt atSp
      rw [hat]
      refine ⟨?_, by decide⟩
      show wordR _ _ = _
      unfold wordR
      rw [if_neg hn, if_pos hp]; rfl
    · have hat : (a ++ (wFalse ++ r))[a.length]? = some 102 := at_head _ _ _
      have hn : ¬ preAt (a ++ (wFalse ++ r)) a.length wNull = true := by
        unfold preAt; rw [List.drop_left]; unfold wFalse wNull; simp
      have hm : ¬ preAt (a ++ (wFalse ++ r)) a.length wTrue = true := by
        unfold preAt; rw [List.drop_left]; unfold wFalse wTrue; simp
      unfold tokAt atSp
      rw [hat]
      refine ⟨?_, by decide⟩
      show wordR _ _ = _
      unfold wordR
      rw [if_neg hn, if_neg hm, if_pos hp]; rfl
theorem skE_sp : ∀ (sp a r : List UInt8), (∀ c ∈ sp, isSp c = true) → skE (a ++ (sp ++ r)) a.length = skE (a ++ sp ++ r) (a ++ sp).length
  | [], a, r, _ => by simp
  | c :: t, a, r, h => by
    have h1 : atSp (a ++ (c :: t ++ r)) a.length = true := by unfold atSp; rw [List.cons_append, at_head]; exact h c List.mem_cons_self
    rw [skE_step h1]
    have ih := skE_sp t (a ++ [c]) r (fun x hx => h x (List.mem_cons_of_mem _ hx))
    rw [show a ++ (c :: t ++ r) = a ++ [c] ++ (t ++ r) by simp, show a.length + 1 = (a ++ [c]).length by simp, ih]
    simp
/-- the text of tokens, with spaces before and behind it, is read back -/
theorem toks_back : ∀ (l : List Tok) (a sp r : List UInt8), (∀ t ∈ l, GoodTok t ∧ (t.k = 3 → t.x.natAbs < 10 ^ 3)) → (∀ c ∈ sp, isSp c = true) → (∀ c ∈ r, isSp c = true) → toks (a ++ (sp ++ (joinT l ++ r))) a.length = (l, 0)
  | [], a, sp, r, _, hs, hr => by
    rw [joinT_nil, List.nil_append]
    have h1 := skE_sp (sp ++ r) a [] (fun c hc => (List.mem_append.1 hc).elim (hs c) (hr c))
    simp only [List.append_nil] at h1
    rw [skE_stop (atSp_out (Nat.le_refl _))] at h1
    have h2 : readTok (a ++ (sp ++ r)) a.length = ⟨tok0, (a ++ (sp ++ r)).length, 0⟩ := by
      unfold readTok tokAt; rw [h1, List.getElem?_eq_none (Nat.le_refl _)]
    exact toks_end (by rw [h2]) (by rw [h2]; rfl)
  | t :: l, a, sp, r, h, hs, hr => by
    obtain ⟨hg, hx⟩ := h t List.mem_cons_self
    have hih : ∀ u ∈ l, GoodTok u ∧ (u.k = 3 → u.x.natAbs < 10 ^ 3) := fun u hu => h u (List.mem_cons_of_mem _ hu)
    -- what stands behind the first token: spaces, the others, spaces
    obtain ⟨sp2, hsp2, hrest, hj⟩ : ∃ sp2 : List UInt8, (∀ c ∈ sp2, isSp c = true) ∧ Rest (sp2 ++ (joinT l ++ r)) ∧ joinT (t :: l) ++ r = tokText t ++ (sp2 ++ (joinT l ++ r)) := by
      match l with
      | [] =>
        refine ⟨[], by simp, ?_, ?_⟩
        · rw [joinT_nil]
          intro c u e
          exact hr c (by have e' : r = c :: u := e; rw [e']; exact List.mem_cons_self)
        · rw [joinT_one, joinT_nil]; rfl
      | u :: l' =>
        refine ⟨[32], by simp [isSp], rest_sp _ _ (by decide), ?_⟩
        rw [joinT_cons, List.append_assoc]; rfl
    rw [hj]
    have hb := tok_back t hg hx (a ++ sp) (sp2 ++ (joinT l ++ r)) hrest
    have hrd : readTok (a ++ (sp ++ (tokText t ++ (sp2 ++ (joinT l ++ r))))) a.length = ⟨t, (a ++ sp).length + (tokText t).length, 0⟩ := by
      unfold readTok
      rw [skE_sp sp a _ hs, skE_stop hb.2, ← List.append_assoc]
      exact hb.1
    have ih := toks_back l (a ++ sp ++ tokText t) sp2 r hih hsp2 hr
    have hle : (a ++ sp).length + (tokText t).length = (a ++ sp ++ tokText t).length := by simp only [List.length_append]
    have hlist : a ++ (sp ++ (tokText t ++ (sp2 ++ (joinT l ++ r)))) = a ++ sp ++ tokText t ++ (sp2 ++ (joinT l ++ r)) := by simp only [List.append_assoc]
    have hk := good_k hg
    rcases readTok_ok (l := a ++ (sp ++ (tokText t ++ (sp2 ++ (joinT l ++ r))))) (i := a.length) (by simp) (by rw [hrd]) with e | ⟨_, h1, h2⟩
    · rw [hrd] at e
      have : t.k = 0 := by injection e with e _; rw [e]; rfl
      omega
    · rw [toks_step (by rw [hrd]) (by rw [hrd]; show t.k ≠ 0; omega) ⟨h1, h2⟩, hrd]
      simp only
      rw [hle, hlist, ih, if_pos rfl]
theorem joinT_back (l : List Tok) (h : ∀ t ∈ l, GoodTok t ∧ (t.k = 3 → t.x.natAbs < 10 ^ 3)) : toks (joinT l) 0 = (l, 0) := by
  have := toks_back l [] [] [] h (by simp) (by simp)
  simpa using this
theorem joinT_back_sp (l : List Tok) (h : ∀ t ∈ l, GoodTok t ∧ (t.k = 3 → t.x.natAbs < 10 ^ 3)) : toks (9 :: (joinT l ++ [32, 10])) 0 = (l, 0) := by
  have := toks_back l [] [9] [32, 10] h (by decide) (by decide)
  simpa using this
end Go.Proofs.YtelehfefhlgbkaaGreatDoor
/- Tokens as cells, in slices that are read and in rows of one's own. -/
namespace Go.Proofs.YtelehfefhlgbkaaGreatDoor
open Go.RowKit
@[reducible] def Tok.val (t : Tok) : Value := .agg #[.int .i64 t.k, .string ⟨t.s.toArray⟩, .int .i64 t.n, .int .i64 t.x]
def tkv (l : List Tok) : List Value := l.flatMap fun t => [.int .i64 t.k, .string ⟨t.s.toArray⟩, .int .i64 t.n, .int .i64 t.x]
@[simp] theorem tkv_nil : tkv [] = [] := rfl
theorem tkv_cons (t : Tok) (l : List Tok) : tkv (t :: l) = .int .i64 t.k :: .string ⟨t.s.toArray⟩ :: .int .i64 t.n :: .int .i64 t.x :: tkv l := rfl
theorem tkv_append (l m : List Tok) : tkv (l ++ m) = tkv l ++ tkv m := by simp [tkv]
@[simp] theorem tkv_length (l : List Tok) : (tkv l).length = l.length * 4 := by
  induction l with
  | nil => rfl
  | cons s l ih => rw [tkv_cons]; simp only [List.length_cons, ih]; omega
theorem tkv_get (l : List Tok) (j : Nat) (h : j < l.length) : (tkv l)[j * 4]? = some (.int .i64 (l[j]).k) ∧ (tkv l)[j * 4 + 1]? = some (.string ⟨(l[j]).s.toArray⟩) ∧ (tkv l)[j * 4 + 2]? = some (.int .i64 (l[j]).n) ∧ (tkv l)[j * 4 + 3]? = some (.int .i64 (l[j]).x) := by
  induction l generalizing j with
  | nil => simp at h
  | cons s l ih =>
    cases j with
    | zero => exact ⟨rfl, rfl, rfl, rfl⟩
    | succ j =>
      rw [tkv_cons, show (j + 1) * 4 = j * 4 + 1 + 1 + 1 + 1 by omega]
      simpa using ih j (by simpa using h)
theorem tkv_one' (l : List Tok) : ∀ u ∈ tkv l, u.oneCell' = true := by
  intro u hu
  obtain ⟨s, _, hs⟩ := List.mem_flatMap.1 hu
  simp only [List.mem_cons, List.not_mem_nil, or_false] at hs
  rcases hs with rfl | rfl | rfl | rfl <;> rfl
theorem tkv_take (l : List Tok) (k : Nat) : tkv (l.take k) = (tkv l).take (k * 4) := by
  induction l generalizing k with
  | nil => simp
  | cons s l ih =>
    cases k with
    | zero => simp
    | succ k => rw [List.take_succ_cons, tkv_cons, tkv_cons, ih, show (k + 1) * 4 = k * 4 + 1 + 1 + 1 + 1 by omega, List.take_succ_cons, List.take_succ_cons, List.take_succ_cons, List.take_succ_cons]
/-- a slice of tokens reads as l, in a block below N -/
structure TkAt (w : World) (N : Nat) (a : Option Addr) (cap : Nat) (l : List Tok) : Prop where
  hc : l.length ≤ cap
  cell : ∀ j (h : j < l.length), ∃ b o, a = some ⟨b, o, none⟩ ∧ b < N ∧ w.cell? ⟨b, o + j * 4, none⟩ = some (.int .i64 (l[j]).k) ∧ w.cell? ⟨b, o + j * 4 + 1, none⟩ = some (.string ⟨(l[j]).s.toArray⟩) ∧ w.cell? ⟨b, o + j * 4 + 2, none⟩ = some (.int .i64 (l[j]).n) ∧ w.cell? ⟨b, o + j * 4 + 3, none⟩ = some (.int .i64 (l[j]).x)
theorem TkAt.below {w w' : World} {N M : Nat} {a : Option Addr} {cap : Nat} {l : List Tok} (h : TkAt w N a cap l) (hb : Below M w w') (hN : N ≤ M) : TkAt w' N a cap l :=
  ⟨h.hc, fun j hj => by
    obtain ⟨b, o, ha, hbN, h0, h1, h2, h3⟩ := h.cell j hj
    exact ⟨b, o, ha, hbN, (hb.cell (p := ⟨b, o + j * 4, none⟩) (by show b < M; omega)).trans h0, (hb.cell (p := ⟨b, o + j * 4 + 1, none⟩) (by show b < M; omega)).trans h1, (hb.cell (p := ⟨b, o + j * 4 + 2, none⟩) (by show b < M; omega)).trans h2, (hb.cell (p := ⟨b, o + j * 4 + 3, none⟩) (by show b < M; omega)).trans h3⟩⟩
theorem TkAt.mono {w : World} {N M : Nat} {a : Option Addr} {cap : Nat} {l : List Tok} (h : TkAt w N a cap l) (hN : N ≤ M) : TkAt w M a cap l :=
  ⟨h.hc, fun j hj => by
    obtain ⟨b, o, ha, hbN, hr⟩ := h.cell j hj
    exact ⟨b, o, ha, by omega, hr⟩⟩
theorem TkAt.nil (w : World) (N : Nat) (a : Option Addr) (cap : Nat) : TkAt w N a cap [] := ⟨Nat.zero_le _, fun j hj => absurd hj (by simp)⟩
/-- tokens in a row of one's own -/
def OwnT (w : World) (B : Nat) (a : Option Addr) (cap : Nat) (l : List Tok) : Prop := w.ownsRow B 30 4 (.slice a l.length cap) l.length (tkv l)
theorem OwnT.lt {w : World} {B : Nat} {a : Option Addr} {cap : Nat} {l : List Tok} (h : OwnT w B a cap l) : ∀ g, a.map (·.block) = some g → B ≤ g ∧ g < w.heap.size := fun g hg => by
  cases a with
  | none => simp at hg
  | some a => exact World.ownsRow.lt h g (by simpa [Value.ownBlock] using hg)
theorem OwnT.blw {w w' : World} {B : Nat} {a : Option Addr} {cap : Nat} {l : List Tok} (h : OwnT w B a cap l) (hb : Below w.heap.size w w') : OwnT w' B a cap l :=
  own_heap h fun g hg => hb.block g (World.ownsRow.lt h g hg).2
theorem OwnT.base {w : World} {B B' : Nat} {a : Option Addr} {cap : Nat} {l : List Tok} (h : OwnT w B a cap l) (hB : B' ≤ B) : OwnT w B' a cap l := own_base' h hB
theorem OwnT.tkat {w : World} {B : Nat} {a : Option Addr} {cap : Nat} {l : List Tok} (h : OwnT w B a cap l) : TkAt w w.heap.size a cap l :=
  ⟨(own_cap h).2.1, fun j hj => by
    rcases h.2 with ⟨_, h0⟩ | ⟨g, cap', cur, hv, hb, _⟩
    · omega
    · injection hv with h1 h2 h3
      subst h1
      have hlt := (World.ownsRow.lt h g rfl).2
      have hg := tkv_get l j hj
      refine ⟨g, 0, rfl, hlt, ?_, ?_, ?_, ?_⟩
      · rw [Nat.zero_add, World.ownsRow.cellAt h (j * 4) (by omega)]; exact hg.1
      · rw [Nat.zero_add, World.ownsRow.cellAt h (j * 4 + 1) (by omega)]; exact hg.2.1
      · rw [Nat.zero_add, World.ownsRow.cellAt h (j * 4 + 2) (by omega)]; exact hg.2.2.1
      · rw [Nat.zero_add, World.ownsRow.cellAt h (j * 4 + 3) (by omega)]; exact hg.2.2.2⟩
theorem tokenInfo : (Tryz.prog.info? 30).map (fun i => (i.zero, i.size, i.bytes)) = some (some (.agg #[.int .i64 0, .string ⟨#[]⟩, .int .i64 0, .int .i64 0]), 4, 40) := by kernel_rfl
end Go.Proofs.YtelehfefhlgbkaaGreatDoor
/- What the laws' test of equality on tokens returns. -/
namespace Go.Proofs.YtelehfefhlgbkaaGreatDoor
open Go.RowKit
set_option maxRecDepth 100000
theorem below2 (w : World) (a b : Obj) : Below w.heap.size w ((w.alloc a).alloc b) := ((Below.refl w.heap.size w).alloc (Nat.le_refl _) a).alloc (by simp) b
/-- a box of a token -/
structure TC (w : World) (b : Nat) (t : Tok) : Prop where
  c0 : w.cell? ⟨b, 0, none⟩ = some (.int .i64 t.k)
  c1 : w.cell? ⟨b, 1, none⟩ = some (.string ⟨t.s.toArray⟩)
  c2 : w.cell? ⟨b, 2, none⟩ = some (.int .i64 t.n)
  c3 : w.cell? ⟨b, 3, none⟩ = some (.int .i64 t.x)
theorem TC.blw {w w' : World} {b : Nat} {t : Tok} (h : TC w b t) (hb : Below w.heap.size w w') : TC w' b t := ⟨keep_below hb h.c0, keep_below hb h.c1, keep_below hb h.c2, keep_below hb h.c3⟩
theorem tc_new (w : World) (t : Tok) (ty : TypeId) : TC (w.alloc (.cells #[.int .i64 t.k, .string ⟨t.s.toArray⟩, .int .i64 t.n, .int .i64 t.x] ty)) w.heap.size t := by
  refine ⟨?_, ?_, ?_, ?_⟩ <;> simp [go_sem]
end Go.Proofs.YtelehfefhlgbkaaGreatDoor
/- A map from integers to integers that the call makes, as a function: filled, asked, ranged over. -/
namespace Go.Proofs.YtelehfefhlgbkaaGreatDoor
open Go.RowKit Go.Maps
section
variable {P : Program} {K E t : TypeId} {qk qe : IntKind} {w : World} {b n : Nat} {f : Int → Option Int}
/-- the datum D reads as f -/
def ReadsF (qk qe : IntKind) (D : DataW Unit) (f : Int → Option Int) : Prop := ∀ k, Maps.has D (.int qk k) = (f k).isSome ∧ ∀ z, D.atKey (.int qk k) z = match f k with | some c => .lit (.int qe c) | none => z
/-- block b is a map that reads as f -/
def MapI (P : Program) (K E : TypeId) (qk qe : IntKind) (w : World) (b n : Nat) (f : Int → Option Int) : Prop := ∃ D : DataW Unit, w.ownsMap P K (plainElem P E) b n D ∧ ReadsF qk qe D f
def upd (f : Int → Option Int) (k c : Int) : Int → Option Int := fun x => if x = k then some c else f x
theorem reads_put {D : DataW Unit} (hD : Maps.IsMap D) (h : ReadsF qk qe D f) (k c : Int) : ReadsF qk qe (D.put (.int qk k) (.lit (.int qe c))) (upd f k c) := by
  intro x
  unfold upd
  by_cases hx : x = k
  · subst hx
    simp only [if_pos]
    have hl : WideAt.IsKeyLit (Lit.int qk x) := trivial
    exact ⟨Maps.has_put_same hD hl _, fun z => Maps.atKey_put_same hD hl _ z⟩
  · have hne : (Lit.int qk x) ≠ .int qk k := fun e => hx (by injection e)
    simp only [if_neg hx]
    exact ⟨(Maps.has_put_other hne _).trans (h x).1, fun z => (Maps.atKey_put_other hne _ z).trans ((h x).2 z)⟩
theorem MapI.made (w : World) : MapI P K E qk qe (w.alloc (.map #[] 0)) w.heap.size 0 (fun _ => none) := ⟨.map [], World.ownsMap_made _ _ _ _, fun _ => ⟨rfl, fun _ => rfl⟩⟩
theorem MapI.lt (h : MapI P K E qk qe w b n f) : b < w.heap.size := by obtain ⟨D, ho, _⟩ := h; exact ho.lt
theorem MapI.kept {w' : World} {row : Option Nat} (h : MapI P K E qk qe w b n f) (hg : w.grownBy w' row) (hne : some b ≠ row) : MapI P K E qk qe w' b n f := by
  obtain ⟨D, ho, hr⟩ := h
  exact ⟨D, ho.kept hg hne, hr⟩
theorem MapI.below {w' : World} {N : Nat} (h : MapI P K E qk qe w b n f) (hb : Below N w w') (hN : b < N) : MapI P K E qk qe w' b n f := by
  obtain ⟨D, ⟨es, clock, h1, h2⟩, hr⟩ := h
  exact ⟨D, ⟨es, clock, (hb.block b hN).trans h1, h2⟩, hr⟩
theorem wpList_insert_I (w : World) {ops : Array Oper} {rest : List Oper} {o : Oper} {a : Act} {Q : Exit → Act → World → Prop} (hg : o.guard = none) (m x v : Operand) (t : TypeId) (hop : o.op = Op.insert t m x v)
    (K E : TypeId) (qk qe : IntKind) (hK : P.underlying K = some (.int qk)) (hE : P.underlying E = some (.int qe)) (ht : P.underlying t = some (.map K E)) (b n : Nat) (f : Int → Option Int) (hm : a.eval m = .map (some b))
    (h : MapI P K E qk qe w b n f) (hn : n < maxLen) (k c : Int) (hx : a.eval x = .int qk k) (hv : a.eval v = .int qe c) (wk : (Lit.int qk k).wf = true) (wc : (Lit.int qe c).wf = true)
    (hk : ∀ w', MapI P K E qk qe w' b (n + 1) (upd f k c) → w.grownBy w' (some b) → wpList P ops Q rest (a.put o.dst undef) w') : wpList P ops Q (o :: rest) a w := by
  obtain ⟨D, ho, hr⟩ := h
  refine wpList_plain hg fun K' hK' => ?_
  obtain ⟨w', hrun, r1, r2⟩ := ho.update (int_keyed hK) ht hn (keyOf_int_mk hK wk) (plainElem_int hE wc)
  unfold Oper.wp
  simp [execOp, hop, hm, hx, hv, hrun, Result.andThen]
  exact hK' _ _ (hk w' ⟨_, r1, reads_put ho.isMap hr k c⟩ r2)
theorem wpList_update_I (w : World) {ops : Array Oper} {rest : List Oper} {o : Oper} {a : Act} {Q : Exit → Act → World → Prop} (hg : o.guard = none) (m x v : Operand) (t : TypeId) (hop : o.op = Op.mapUpdate t m x v)
    (K E : TypeId) (qk qe : IntKind) (hK : P.underlying K = some (.int qk)) (hE : P.underlying E = some (.int qe)) (ht : P.underlying t = some (.map K E)) (b n : Nat) (f : Int → Option Int) (hm : a.eval m = .map (some b))
    (h : MapI P K E qk qe w b n f) (hn : n < maxLen) (k c : Int) (hx : a.eval x = .int qk k) (hv : a.eval v = .int qe c) (wk : (Lit.int qk k).wf = true) (wc : (Lit.int qe c).wf = true)
    (hk : ∀ w', MapI P K E qk qe w' b (n + 1) (upd f k c) → w.grownBy w' (some b) → wpList P ops Q rest (a.put o.dst undef) w') : wpList P ops Q (o :: rest) a w := by
  obtain ⟨D, ho, hr⟩ := h
  refine wpList_plain hg fun K' hK' => ?_
  obtain ⟨w', hrun, r1, r2⟩ := ho.update (int_keyed hK) ht hn (keyOf_int_mk hK wk) (plainElem_int hE wc)
  unfold Oper.wp
  simp [execOp, hop, hm, hx, hv, hrun, Result.andThen]
  exact hK' _ _ (hk w' ⟨_, r1, reads_put ho.isMap hr k c⟩ r2)
theorem MapI.look (h : MapI P K E qk qe w b n f) (hK : P.underlying K = some (.int qk)) (hE : P.underlying E = some (.int qe)) (ht : P.underlying t = some (.map K E)) (hz : (zeroValue E).run P w = .ok (.int qe 0) w) (k : Int) (wk : (Lit.int qk k).wf = true) :
    (Instr.lookup t (.map (some b)) (.int qk k) true).run P w = .ok (.tuple #[.int qe ((f k).getD 0), .bool (f k).isSome]) w := by
  obtain ⟨D, ho, hr⟩ := h
  obtain ⟨v, ps, hrun, hv⟩ := ho.look_ok (int_keyed hK) ht hz (plainElem_int hE (by cases qe <;> decide)) (keyOf_int_mk hK wk)
  obtain ⟨c, rfl, hc, _⟩ := plainElem_int_inv hE hv
  rw [hrun, (hr k).1]
  have h2 := (hr k).2 (.lit (.int qe 0))
  have hc1 : D.atKey (.int qk k) (.lit (.int qe 0)) = .lit (.int qe c) := congrArg Prod.fst hc
  rw [hc1] at h2
  cases hf : f k with
  | none => rw [hf] at h2; simp only at h2; injection h2 with h2; injection h2 with _ h2; rw [h2]; rfl
  | some d => rw [hf] at h2; simp only at h2; injection h2 with h2; injection h2 with _ h2; rw [h2]; rfl
end
end Go.Proofs.YtelehfefhlgbkaaGreatDoor
/- The hexadecimal digits of bytes: the program's and the model's answers. -/
namespace Go.Proofs.YtelehfefhlgbkaaGreatDoor
open Go.RowKit
def hexS : ByteArray := ⟨#[48, 49, 50, 51, 52, 53, 54, 55, 56, 57, 97, 98, 99, 100, 101, 102]⟩
theorem hex_at (q : Nat) (h : q < 16) (h2 : q < hexS.size) : hexS[q] = hexd q := by
  have h1 : q = 0 ∨ q = 1 ∨ q = 2 ∨ q = 3 ∨ q = 4 ∨ q = 5 ∨ q = 6 ∨ q = 7 ∨ q = 8 ∨ q = 9 ∨ q = 10 ∨ q = 11 ∨ q = 12 ∨ q = 13 ∨ q = 14 ∨ q = 15 := by omega
  rcases h1 with rfl | rfl | rfl | rfl | rfl | rfl | rfl | rfl | rfl | rfl | rfl | rfl | rfl | rfl | rfl | rfl <;> rfl
theorem hex_index (q : Nat) (h : q < 16) (w : World) : (Instr.index 9 (.string ⟨#[48, 49, 50, 51, 52, 53, 54, 55, 56, 57, 97, 98, 99, 100, 101, 102]⟩) (.int .u8 q)).run Tryz.prog w = .ok (.int .u8 (hexd q).toNat) w := by
  have hs : hexS.size = 16 := rfl
  have := run_index_string (P := Tryz.prog) w 9 hexS .u8 q Tryz.underlying9
  rw [dif_pos (by rw [hs]; omega)] at this
  rw [show (⟨#[48, 49, 50, 51, 52, 53, 54, 55, 56, 57, 97, 98, 99, 100, 101, 102]⟩ : ByteArray) = hexS from rfl, this]
  have e := hex_at q h (by rw [hs]; exact h)
  simp only [Int.toNat_natCast]
  rw [e]
theorem grown_undrew {w w' : World} {r : Option Nat} (h : w.drew.grownBy w' r) : w.grownBy w' r := ⟨h.os, h.tape, h.output, h.size, h.block⟩
theorem step_hex {w wr w1 : World} {o : Obj} {g n c cap gg m : Nat} {xs : List Value} (hg : g ≠ w.heap.size + 1) (hs : w.heap.size + 1 < wr.heap.size) (hb : Below w.heap.size w wr) (hR : Reads wr (.slice (some ⟨w.heap.size + 1, 0, none⟩) m cap) xs)
    (hgrow : (wr.alloc o).drew.grownBy w1 (Value.slice (some ⟨g, 0, none⟩) n c).ownBlock) (hat : (Value.slice (some ⟨g, 0, none⟩) n c).ownBlock = some gg ∨ gg = wr.heap.size + 1) (hgb : w.heap.size ≤ g) :
    gg ≠ w.heap.size + 1 ∧ w.heap.size + 1 < w1.heap.size ∧ Reads w1 (.slice (some ⟨w.heap.size + 1, 0, none⟩) m cap) xs ∧ Below w.heap.size w w1 := by
  have hgr := grown_undrew hgrow
  have hsz := hgr.size
  simp at hsz
  refine ⟨?_, by omega, ?_, ?_⟩
  · rcases hat with h | h
    · simp [Value.ownBlock] at h; omega
    · omega
  · exact (hR.below (below_alloc wr o)).only (Only.of_grown hgr) (by simp [Value.ownBlock]; omega)
  · exact (hb.alloc (by omega) o).trans (grown_belowN hgr (by simp; omega) (by simp [Value.ownBlock]; omega))
set_option maxRecDepth 100000 in
theorem hextext_impl (l : List UInt8) (w : World) (hl : l.length ≤ 1099511627776) : Calls Tryz.prog 74 #[.string ⟨l.toArray⟩] w fun e w' => e = .returned (.string ⟨(hexL l).toArray⟩) ∧ Below w.heap.size w w' := by
  obtain ⟨i0, hi, hz0, hz1, hz2⟩ := info_parts byteInfo'
  obtain ⟨cap, w1, hcv, hR, hb, _, _, hR0⟩ := conv_bytes (w.alloc (.cells #[] 5)) l
  have hR0 : w.heap.size + 1 < w1.heap.size := by
    rcases Nat.lt_or_ge (w.alloc (.cells #[] 5)).heap.size w1.heap.size with h | h
    · simpa using h
    · rw [Array.getElem?_eq_none h] at hR0; cases hR0
  have hR : Reads w1 (.slice (some ⟨w.heap.size + 1, 0, none⟩) l.length cap) (bv l) := by simpa using hR
  have hsz := size_l l
  generalize hgs : (ByteArray.mk l.toArray) = s at *
  go_enter Tryz.func74, Tryz.ntmps74
  go_wp2
  go_loopw [3, 5, 10] (fun out _ i wr => ∃ (i' g c : Nat), i = .int .i64 i' ∧ i' ≤ l.length ∧ out = .slice (some ⟨g, 0, none⟩) (2 * i') c ∧ g ≠ w.heap.size + 1 ∧ w.heap.size + 1 < wr.heap.size ∧ wr.ownsRow w.heap.size 5 1 out (2 * i') (bv (hexL (l.take i'))) ∧ Reads wr (.slice (some ⟨w.heap.size + 1, 0, none⟩) l.length cap) (bv l) ∧ Below w.heap.size w wr) (fun _ _ i _ => l.length - (intOf i).toNat)
  case atStart =>
    refine ⟨0, w.heap.size, 0, rfl, Nat.zero_le _, rfl, by omega, ?_, ?_, hR, (below_alloc w _).trans (hb.mono (by simp))⟩
    · exact hR0
    · exact own_below (World.ownsRow_made w #[] 0 (Nat.le_refl _) (by decide) rfl) hb
  case round =>
    obtain ⟨i, g, c, rfl, hi', rfl, hg, hsz, hown, hR, hb⟩ := hrel
    by_cases hlt : i < l.length
    · obtain ⟨_, hcs⟩ := slice_cells hR
      have hcl : wr.cell? ⟨w.heap.size + 1, i, none⟩ = some (.int .u8 (l[i]).toNat) := by have := hcs i _ (by rw [List.getElem?_eq_getElem (by simpa using hlt), bv_getElem]); rw [Nat.zero_add] at this; exact this
      have HT := Lib.hid (hexL_take l i hlt)
      have HL := Lib.hid hlt
      have hc1 : (l[i].toNat : Int) < 256 := by have : l[i].toNat < 256 := UInt8.toNat_lt _; omega
      generalize l[i].toNat = x at *
      have hx0 : (0 : Int) ≤ x := by omega
      have e1 : ((x : Int)).tdiv 16 = ((x / 16 : Nat) : Int) := by rw [Int.tdiv_eq_ediv_of_nonneg (by omega)]; omega
      have e2 : ((x : Int)).tmod 16 = ((x % 16 : Nat) : Int) := by rw [Int.tmod_eq_emod_of_nonneg (by omega)]; omega
      have hq : x / 16 < 16 := by omega
      have hr : x % 16 < 16 := by omega
      generalize x / 16 = q at *
      generalize x % 16 = r at *
      have iq := hex_index q hq
      have ir := hex_index r hr
      have wq : IntKind.u8.wrap (q : Int) = q := by rw [IntKind.wrap_u8']; omega
      have wr' : IntKind.u8.wrap (r : Int) = r := by rw [IntKind.wrap_u8']; omega
      have HG := Lib.hid hg
      have HO := Lib.hid hown
      have HS := Lib.hid hsz
      have HB := Lib.hid hb
      have HR := Lib.hid hR
      have HQ := Lib.hid (And.intro hq hr)
      clear hcs hg hown hsz hb hR hq hr
      go_wp2_with fail
      go_region_held3 (fun _ => True) (trivial) ((refine step_append_lies _ (by rfl) _ _ _ (by rfl) w.heap.size 5 i0 _ 1 1 Tryz.underlying22 hi hz0 hz1 hz2 rfl (by omega) _ (2 * i) _ (by rfl) ((HO.out.alloc _).drew) ⟨wr.heap.size, 0, none⟩ 2 2 [.int .u8 (hexd q).toNat, .int .u8 (hexd r).toNat] (by rfl) (by rfl) (World.news_of_block (cs := #[.int .u8 (hexd q).toNat, .int .u8 (hexd r).toNat]) (t := 5) (fr := (0, 0)) (heap_alloc_new wr _)) (by simp [Value.oneCell']) (by omega) (by unfold maxLen; omega) (by omega) (by simp; have := HB.out.size; omega) (wr.heap.size + 1) (by simp) ?_; intro gg cap w1 hown1 hgrow hat hlt))
      all_goals
        have hx := step_hex HG.out HS.out HB.out HR.out hgrow hat (HO.out.lt g rfl).1
        have HX := Lib.hid hx
        have HW := Lib.hid hown1
        clear hx hown1 hgrow hat hlt hcl e1 e2 iq ir wq wr'
        go_wp2
        go_roundw
        case rel =>
          refine ⟨i + 1, gg, cap, by go_num, HL.out, by rw [show 2 * (i + 1) = 2 * i + 2 by omega], HX.out.1, HX.out.2.1, ?_, HX.out.2.2.1, HX.out.2.2.2⟩
          rw [HT.out, bv_append, show 2 * (i + 1) = 2 * i + 2 by omega]
          exact HW.out
        case measure => have := HL.out; simp [intOf]; omega
    · obtain rfl : i = l.length := by omega
      rw [List.take_of_length_le (Nat.le_refl _)] at hown
      have hcv2 := conv_str wr _ _ (own_slc hown)
      generalize hs : (ByteArray.mk (hexL l).toArray) = s2 at hcv2
      have HS := Lib.hid hs
      have HB := Lib.hid hb
      clear hown hb hs hR hcv hg hsz
      go_wp2
      go_ret
      exact ⟨by rw [HS.out]; rfl, HB.out⟩
theorem hx_index (l : List UInt8) (i : Nat) (h : i < l.length) (w : World) : (Instr.index 9 (.string ⟨l.toArray⟩) (.int .i64 i)).run Tryz.prog w = .ok (.int .u8 (l[i]).toNat) w := by
  have := run_index_string (P := Tryz.prog) w 9 ⟨l.toArray⟩ .i64 i Tryz.underlying9
  rw [dif_pos (by rw [size_l]; omega)] at this
  rw [this]
  congr 3
theorem u8_and15 (n : Nat) : bits .and .u8 n 15 = ((n % 16 : Nat) : Int) := by
  have h15 : (BitVec.ofInt 8 15).toNat = 2 ^ 4 - 1 := by decide
  have key : (BitVec.ofInt 8 (n : Int) &&& BitVec.ofInt 8 15).toNat = n % 16 := by
    rw [BitVec.toNat_and, BitVec.toNat_ofInt, h15, Nat.and_two_pow_sub_one_eq_mod]
    omega
  show IntKind.u8.wrap ((BitVec.ofInt 8 (n : Int) &&& BitVec.ofInt 8 15).toNat : Nat) = _
  rw [key, IntKind.wrap_u8']
  omega
set_option maxRecDepth 100000 in
theorem hextext_spec (l : List UInt8) (w : World) (hl : l.length ≤ 1099511627776) : Calls Tryz.prog 78 #[.string ⟨l.toArray⟩] w fun e w' => e = .returned (.string ⟨(hexL l).toArray⟩) ∧ Below w.heap.size w w' := by
  obtain ⟨i0, hi, hz0, hz1, hz2⟩ := info_parts byteInfo'
  have hsz := size_l l
  have IX := Lib.hid (hx_index l)
  generalize hgs : (ByteArray.mk l.toArray) = s at *
  clear hgs
  go_enter Tryz.func78, Tryz.ntmps78
  go_wp2
  go_loopw [3, 4] (fun out i wr => ∃ (i' g c : Nat), i = .int .i64 i' ∧ i' ≤ l.length ∧ out = .slice (some ⟨g, 0, none⟩) (2 * i') c ∧ wr.ownsRow w.heap.size 5 1 out (2 * i') (bv (hexL (l.take i'))) ∧ Below w.heap.size w wr) (fun _ i _ => l.length - (intOf i).toNat)
  case atStart => exact ⟨0, w.heap.size, 0, rfl, Nat.zero_le _, rfl, World.ownsRow_made w #[] 0 (Nat.le_refl _) (by decide) rfl, below_alloc w _⟩
  case round =>
    obtain ⟨i, g, c, rfl, hi', rfl, hown, hb⟩ := hrel
    by_cases hlt : i < l.length
    · have ix := IX.out i hlt
      have HT := Lib.hid (hexL_take l i hlt)
      have HL := Lib.hid hlt
      have hc1 : (l[i].toNat : Int) < 256 := by have : l[i].toNat < 256 := UInt8.toNat_lt _; omega
      generalize l[i].toNat = x at *
      have hx0 : (0 : Int) ≤ x := by omega
      have e1 : ((x : Int)) / 16 = ((x / 16 : Nat) : Int) := by omega
      have e2 := u8_and15 x
      have hq : x / 16 < 16 := by omega
      have hr : x % 16 < 16 := by omega
      generalize x / 16 = q at *
      generalize x % 16 = r at *
      have iq := hex_index q hq
      have ir := hex_index r hr
      have wq : IntKind.u8.wrap (q : Int) = q := by rw [IntKind.wrap_u8']; omega
      have wr' : IntKind.u8.wrap (r : Int) = r := by rw [IntKind.wrap_u8']; omega
      have HO := Lib.hid hown
      have HB := Lib.hid hb
      clear hown hb hq hr
      go_wp2_with fail
      go_region_held3 (fun _ => True) (trivial) ((refine step_append_lies _ (by rfl) _ _ _ (by rfl) w.heap.size 5 i0 _ 1 1 Tryz.underlying22 hi hz0 hz1 hz2 rfl (by omega) _ (2 * i) _ (by rfl) ((HO.out.alloc _).drew) ⟨wr.heap.size, 0, none⟩ 2 2 [.int .u8 (hexd q).toNat, .int .u8 (hexd r).toNat] (by rfl) (by rfl) (World.news_of_block (cs := #[.int .u8 (hexd q).toNat, .int .u8 (hexd r).toNat]) (t := 5) (fr := (0, 0)) (heap_alloc_new wr _)) (by simp [Value.oneCell']) (by omega) (by unfold maxLen; omega) (by omega) (by simp; have := HB.out.size; omega) (wr.heap.size + 1) (by simp) ?_; intro gg cap w1 hown1 hgrow hat hlt))
      all_goals
        have hb1 := (HB.out.alloc HB.out.size _).trans (grown_belowN (grown_undrew hgrow) (by simp; have := HB.out.size; omega) (by simp [Value.ownBlock]; exact (HO.out.lt g rfl).1))
        have HX := Lib.hid hb1
        have HW := Lib.hid hown1
        clear hb1 hown1 hgrow hat hlt e1 e2 iq ir wq wr' ix
        go_wp2
        go_roundw
        case rel =>
          refine ⟨i + 1, gg, cap, by go_num, HL.out, by rw [show 2 * (i + 1) = 2 * i + 2 by omega], ?_, HX.out⟩
          rw [HT.out, bv_append, show 2 * (i + 1) = 2 * i + 2 by omega]
          exact HW.out
        case measure => have := HL.out; simp [intOf]; omega
    · obtain rfl : i = l.length := by omega
      rw [List.take_of_length_le (Nat.le_refl _)] at hown
      have hcv2 := conv_str wr _ _ (own_slc hown)
      generalize hs : (ByteArray.mk (hexL l).toArray) = s2 at hcv2
      have HS := Lib.hid hs
      have HB := Lib.hid hb
      clear hown hb hs
      go_wp2
      go_ret
      exact ⟨by rw [HS.out]; rfl, HB.out⟩
end Go.Proofs.YtelehfefhlgbkaaGreatDoor
