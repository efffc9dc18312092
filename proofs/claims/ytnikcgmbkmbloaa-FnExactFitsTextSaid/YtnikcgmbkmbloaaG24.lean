import Derived.Test.YtnikcgmbkmbloaaG23
import Derived.Lib.Join
import Derived.Test.YtnikcgmbkmbloaaG22
import Derived.Test.YtnikcgmbkmbloaaG0
/- Tokens: the text of tokens is read back as these tokens. No program. -/
namespace Go.Proofs.Ytnikcgmbkmbloaa
open Go
/-- TokenText -/
def tokText (t : Tok) : List UInt8 := if t.k = 1 ∨ t.k = 4 then t.s else if t.k = 2 then quoteL t.s else if t.k = 3 then (if t.x = 0 then Lib.itoa t.n else Lib.itoa t.n ++ 101 :: Lib.itoa t.x) else []
def joinT (l : List Tok) : List UInt8 := Lib.join (l.map tokText) [32]
theorem tokText_num (s : List UInt8) (n x : Int) : tokText ⟨3, s, n, x⟩ = if x = 0 then Lib.itoa n else Lib.itoa n ++ 101 :: Lib.itoa x := by
  show (if (3 : Int) = 1 ∨ (3 : Int) = 4 then s else if (3 : Int) = 2 then quoteL s else if (3 : Int) = 3 then (if x = 0 then Lib.itoa n else Lib.itoa n ++ 101 :: Lib.itoa x) else []) = _
  rw [if_neg (by decide), if_neg (by decide), if_pos rfl]
theorem tokText_text (s : List UInt8) (n x : Int) : tokText ⟨2, s, n, x⟩ = quoteL s := by
  show (if (2 : Int) = 1 ∨ (2 : Int) = 4 then s else if (2 : Int) = 2 then quoteL s else _) = _
  rw [if_neg (by decide), if_pos rfl]
theorem joinT_nil : joinT [] = [] := rfl
theorem joinT_one (t : Tok) : joinT [t] = tokText t := by unfold joinT; rw [List.map_cons, List.map_nil, Lib.join_one]
theorem joinT_cons (t u : Tok) (r : List Tok) : joinT (t :: u :: r) = tokText t ++ 32 :: joinT (u :: r) := by
  unfold joinT; rw [List.map_cons, List.map_cons, Lib.join_cons, Lib.join_cons]; unfold Lib.joinTail; simp
/-- what may stand behind a token -/
def Rest (r : List UInt8) : Prop := ∀ c t, r = c :: t → isSp c = true
theorem rest_nil : Rest [] := fun _ _ h => by cases h
theorem rest_sp (c : UInt8) (t : List UInt8) (h : isSp c = true) : Rest (c :: t) := fun _ _ e => by injection e with e _; rw [← e]; exact h
theorem sp_cases {c : UInt8} (h : isSp c = true) : c = 9 ∨ c = 10 ∨ c = 13 ∨ c = 32 := by
  unfold isSp at h; simpa using h
theorem rest_atC {pre r : List UInt8} (h : Rest r) (d : UInt8) (hd : isSp d = false) : atC (pre ++ r) pre.length d = false := by
  match r, h with
  | [], _ => rw [List.append_nil]; exact atC_nil _ _
  | c :: t, h =>
    rw [atC_app]
    have := h c t rfl
    by_cases e : c = d
    · subst e; rw [hd] at this; cases this
    · simpa using e
theorem rest_atD {pre r : List UInt8} (h : Rest r) : atD (pre ++ r) pre.length = false := by
  match r, h with
  | [], _ => rw [List.append_nil]; exact atD_nil _
  | c :: t, h =>
    rw [atD_app]
    rcases sp_cases (h c t rfl) with rfl | rfl | rfl | rfl <;> decide
theorem partsE_rest (a r : List UInt8) (hr : Rest r) (neg : Bool) (W F : List UInt8) : partsE (a ++ r) neg W F a.length = ⟨neg, false, W, F, [], a.length, true⟩ := by
  unfold partsE
  rw [rest_atC hr 101 (by decide), rest_atC hr 69 (by decide), if_neg (by decide)]
theorem partsE_exp (a r E : List UInt8) (hr : Rest r) (neg eneg : Bool) (W F : List UInt8) (hE : E ≠ []) (hD : ∀ c ∈ E, isD c = true) :
    partsE (a ++ (101 :: ((if eneg = true then [45] else []) ++ E) ++ r)) neg W F a.length = ⟨neg, eneg, W, F, E, a.length + 1 + (if eneg = true then 1 else 0) + E.length, true⟩ := by
  unfold partsE
  have e101 : atC (a ++ (101 :: ((if eneg = true then [45] else []) ++ E) ++ r)) a.length 101 = true := by rw [List.cons_append, atC_app]; rfl
  rw [e101, Bool.true_or, if_pos rfl]
  dsimp only
  match E, hE with
  | c :: t, _ =>
    have hc := hD c List.mem_cons_self
    have hp := ne45 hc
    have hq : (c == 43) = false := by
      cases e : c == 43
      · rfl
      · rw [show c = 43 by simpa using e] at hc; cases hc
    cases eneg
    · have el : a ++ (101 :: ((if false = true then [45] else []) ++ c :: t) ++ r) = (a ++ [101]) ++ (c :: t) ++ r := by simp
      have hl : a.length + 1 = (a ++ [101]).length := by simp
      rw [el, hl]
      have h1 : ∀ d, atC (a ++ [101] ++ c :: t ++ r) (a ++ [101]).length d = (c == d) := fun d => by rw [List.append_assoc, List.cons_append, atC_app]
      have h2 : atD (a ++ [101] ++ c :: t ++ r) (a ++ [101]).length = true := by rw [List.append_assoc, List.cons_append, atD_app]; exact hc
      have h3 := dEnd_app (c :: t) (a ++ [101]) r hD (by rw [← List.length_append]; exact rest_atD hr)
      rw [h1, h1, hp, hq]
      simp only [Bool.or_self, Bool.false_eq_true, if_false]
      rw [if_pos h2, h3, cut_app]
      simp
    · have el : a ++ (101 :: ((if true = true then [45] else []) ++ c :: t) ++ r) = (a ++ [101, 45]) ++ (c :: t) ++ r := by simp
      have e0 : a ++ (101 :: ((if true = true then [45] else []) ++ c :: t) ++ r) = (a ++ [101]) ++ 45 :: ((c :: t) ++ r) := by simp
      have hl : a.length + 1 = (a ++ [101]).length := by simp
      have h45 : atC (a ++ (101 :: ((if true = true then [45] else []) ++ c :: t) ++ r)) (a.length + 1) 45 = true := by rw [e0, hl, atC_app]; rfl
      have hor : (atC (a ++ (101 :: ((if true = true then [45] else []) ++ c :: t) ++ r)) (a.length + 1) 43 || atC (a ++ (101 :: ((if true = true then [45] else []) ++ c :: t) ++ r)) (a.length + 1) 45) = true := by rw [h45, Bool.or_true]
      rw [if_pos hor, h45, el, show a.length + 2 = (a ++ [101, 45]).length by simp]
      have h2 : atD (a ++ [101, 45] ++ c :: t ++ r) (a ++ [101, 45]).length = true := by rw [List.append_assoc, List.cons_append, atD_app]; exact hc
      have h3 := dEnd_app (c :: t) (a ++ [101, 45]) r hD (by rw [← List.length_append]; exact rest_atD hr)
      rw [if_pos h2, h3, cut_app]
      simp
theorem sgn_split (n : Int) : Lib.itoa n = (if decide (n < 0) = true then [45] else []) ++ Lib.decDigits n.natAbs := by
  by_cases h : n < 0
  · rw [itoa_lt h, decide_eq_true h, if_pos rfl]; rfl
  · rw [itoa_ge h, decide_eq_false h, if_neg (by decide)]; rfl
theorem parts_sign (a : List UInt8) (neg : Bool) (W r : List UInt8) (hW : WholeOk W) : parts (a ++ ((if neg = true then [45] else []) ++ (W ++ r))) a.length = partsW (a ++ ((if neg = true then [45] else []) ++ (W ++ r))) neg (a.length + (if neg = true then 1 else 0)) := by
  unfold parts
  cases neg
  · match W, hW with
    | c :: t, hW =>
      have e : atC (a ++ ((if false = true then [45] else []) ++ (c :: t ++ r))) a.length 45 = false := by
        show atC (a ++ c :: (t ++ r)) a.length 45 = false
        rw [atC_app]; exact ne45 (hW.2.1 c List.mem_cons_self)
      rw [e, if_neg (by decide)]; rfl
    | [], hW => exact absurd rfl hW.1
  · have e : atC (a ++ ((if true = true then [45] else []) ++ (W ++ r))) a.length 45 = true := by
      show atC (a ++ 45 :: (W ++ r)) a.length 45 = true
      rw [atC_app]; rfl
    rw [e, if_pos rfl]; rfl
theorem partsW_go (a W r : List UInt8) (neg : Bool) (hW : WholeOk W) (hd : atD (a ++ W ++ r) (a.length + W.length) = false) (h46 : atC (a ++ W ++ r) (a.length + W.length) 46 = false) : partsW (a ++ W ++ r) neg a.length = partsE (a ++ W ++ r) neg W [] (a.length + W.length) := by
  have h := wEnd_app a r hW hd
  unfold partsW
  rw [if_pos h.2, h.1, cut_app]
  unfold partsF
  rw [h46, if_neg (by decide)]
theorem numOf_val {neg eneg : Bool} {W E : List UInt8} {nx : Nat} (h1 : (lead W).length ≤ 17) (h2 : E.length ≤ 3) : numOf ⟨neg, eneg, W, [], E, nx, true⟩ = ⟨sgnV neg (decVal 0 W), sgnV eneg (decVal 0 E), nx, 0⟩ := by
  unfold numOf
  rw [if_pos rfl]
  simp only [List.append_nil]
  rw [if_pos ⟨h1, h2⟩]
  simp
theorem num_back (n x : Int) (hn : n.natAbs < 10 ^ 17) (hx : x.natAbs < 10 ^ 3) (a r : List UInt8) (hr : Rest r) : readN (a ++ (tokText ⟨3, [], n, x⟩ ++ r)) a.length = ⟨n, x, a.length + (tokText ⟨3, [], n, x⟩).length, 0⟩ := by
  have hW := decDigits_whole n.natAbs
  have hWl : (lead (Lib.decDigits n.natAbs)).length ≤ 17 := Nat.le_trans (lead_len _) (dec_len 16 _ hn)
  have hE0 := decDigits_ne x.natAbs
  have hE1 := decDigits_isD x.natAbs
  have hEl := dec_len 2 x.natAbs hx
  have hv1 := decDigits_val n.natAbs
  have hv2 := decDigits_val x.natAbs
  have hs1 := sgn_abs n (decide (n < 0)) (by simp)
  have hs2 := sgn_abs x (decide (x < 0)) (by simp)
  have ht : tokText ⟨3, [], n, x⟩ = (if decide (n < 0) = true then [45] else []) ++ (Lib.decDigits n.natAbs ++ (if x = 0 then [] else 101 :: ((if decide (x < 0) = true then [45] else []) ++ Lib.decDigits x.natAbs))) := by
    rw [tokText_num]
    by_cases h0 : x = 0
    · rw [if_pos h0, if_pos h0, List.append_nil]; exact sgn_split n
    · rw [if_neg h0, if_neg h0]
      rw [sgn_split n, sgn_split x, List.append_assoc]
  rw [ht]
  generalize decide (n < 0) = neg at *
  generalize decide (x < 0) = eneg at *
  generalize Lib.decDigits n.natAbs = W at *
  generalize Lib.decDigits x.natAbs = E at *
  unfold readN
  rw [show a ++ ((if neg = true then [45] else []) ++ (W ++ (if x = 0 then [] else 101 :: ((if eneg = true then [45] else []) ++ E))) ++ r) = a ++ ((if neg = true then [45] else []) ++ (W ++ ((if x = 0 then [] else 101 :: ((if eneg = true then [45] else []) ++ E)) ++ r))) by simp only [List.append_assoc]]
  rw [parts_sign a neg W _ hW]
  obtain ⟨a', ha'⟩ : ∃ a', a' = a ++ (if neg = true then [45] else []) := ⟨_, rfl⟩
  have hal : a.length + (if neg = true then 1 else 0) = a'.length := by rw [ha']; cases neg <;> simp
  have hnl : ((if neg = true then [45] else [] : List UInt8)).length = if neg = true then 1 else 0 := by cases neg <;> rfl
  have hel : ((if eneg = true then [45] else [] : List UInt8)).length = if eneg = true then 1 else 0 := by cases eneg <;> rfl
  by_cases h0 : x = 0
  · rw [if_pos h0]
    simp only [List.append_nil, List.nil_append]
    rw [hal, ← List.append_assoc, ← ha', ← List.append_assoc, partsW_go a' W r neg hW (by rw [← List.length_append]; exact rest_atD hr) (by rw [← List.length_append]; exact rest_atC hr 46 (by decide))]
    rw [← List.length_append, partsE_rest _ _ hr, numOf_val hWl (by simp), hv1, hs1]
    have : sgnV false ((decVal 0 [] : Nat) : Int) = x := by rw [h0]; rfl
    rw [this]
    congr 1
    rw [ha']; simp only [List.length_append, hnl]; omega
  · rw [if_neg h0]
    rw [hal, ← List.append_assoc, ← ha', ← List.append_assoc, partsW_go a' W _ neg hW (by rw [← List.length_append, List.cons_append, atD_app]; decide) (by rw [← List.length_append, List.cons_append, atC_app]; decide)]
    rw [← List.length_append, partsE_exp _ r E hr neg eneg W [] hE0 hE1, numOf_val hWl (by omega), hv1, hs1, hv2, hs2]
    congr 1
    rw [ha']; simp only [List.length_append, List.length_cons, hnl, hel]; omega
theorem itoa_head (n : Int) : ∃ c r, Lib.itoa n = c :: r ∧ (c = 45 ∨ isD c = true) := by
  by_cases h : n < 0
  · exact ⟨45, _, itoa_lt h, .inl rfl⟩
  · obtain ⟨c, r, e, hd⟩ := dec_head n.natAbs
    exact ⟨c, r, (itoa_ge h).trans e, .inr (by unfold isDig at hd; unfold isD; exact decide_eq_true hd)⟩
theorem isD_no {c : UInt8} (h : c = 45 ∨ isD c = true) : isSp c = false ∧ isSg c = false ∧ c ≠ 34 ∧ (c == 45 || isD c) = true := by
  have hall : ∀ n : Fin 256, (UInt8.ofNat n.val = 45 ∨ isD (UInt8.ofNat n.val) = true) → isSp (UInt8.ofNat n.val) = false ∧ isSg (UInt8.ofNat n.val) = false ∧ UInt8.ofNat n.val ≠ 34 ∧ (UInt8.ofNat n.val == 45 || isD (UInt8.ofNat n.val)) = true := by decide +kernel
  have := hall ⟨c.toNat, c.toNat_lt⟩
  simp only [UInt8.ofNat_toNat] at this
  exact this h
theorem pre_app (a w r : List UInt8) : preAt (a ++ (w ++ r)) a.length w = true := by
  unfold preAt; rw [List.drop_left, List.take_left]; simp
theorem at_head (a r : List UInt8) (c : UInt8) : (a ++ c :: r)[a.length]? = some c := by simp
/-- a token's text, with spaces or nothing behind it, is read back -/
theorem tok_back (t : Tok) (h : GoodTok t) (hx : t.k = 3 → t.x.natAbs < 10 ^ 3) (a r : List UInt8) (hr : Rest r) :
    tokAt (a ++ (tokText t ++ r)) a.length = ⟨t, a.length + (tokText t).length, 0⟩ ∧ atSp (a ++ (tokText t ++ r)) a.length = false := by
  cases h with
  | sign c hc =>
    have ht : tokText ⟨1, [c], 0, 0⟩ = [c] := by unfold tokText; rw [if_pos (.inl rfl)]
    have hall : ∀ n : Fin 256, isSg (UInt8.ofNat n.val) = true → isSp (UInt8.ofNat n.val) = false := by decide +kernel
    have h1 := hall ⟨c.toNat, c.toNat_lt⟩
    simp only [UInt8.ofNat_toNat] at h1
    rw [ht, List.singleton_append]
    unfold tokAt atSp
    rw [at_head]
    simp only
    unfold charR
    rw [if_pos hc]
    exact ⟨rfl, h1 hc⟩
  | text rs hrs =>
    have ht : tokText ⟨2, flat rs, 0, 0⟩ = 34 :: (escsL rs ++ [34]) := by
      rw [tokText_text]
      have : runes (flat rs) = some rs := by
        rw [runes_flat]; congr 1; rw [List.filter_eq_self]; intro x hx; exact decide_eq_true (hrs x hx)
      exact quoteL_some this
    rw [ht, List.cons_append]
    have hq : readQ (a ++ 34 :: (escsL rs ++ [34] ++ r)) (a.length : Nat) = some (rs, a.length + 1 + (escsL rs).length + 1) := by
      unfold readQ
      rw [if_pos ⟨by omega, by rw [show (((a.length : Nat) : Int)).toNat = a.length by omega]; exact at_head _ _ _⟩, show (((a.length : Nat) : Int)).toNat = a.length by omega]
      have := read_escs rs (a ++ [34]) r hrs
      rw [List.length_append] at this
      rw [show a ++ 34 :: (escsL rs ++ [34] ++ r) = a ++ [34] ++ (escsL rs ++ 34 :: r) by simp]
      exact this
    unfold tokAt atSp
    rw [at_head]
    simp only
    refine ⟨?_, by decide⟩
    unfold charR
    rw [if_neg (by decide), if_pos rfl]
    unfold textR
    rw [hq]
    simp only [List.length_cons, List.length_append, List.length_nil]
    congr 1
    omega
  | num n x hn =>
    have hb := num_back n x hn (hx rfl) a r hr
    obtain ⟨c, t, hc, hd⟩ := itoa_head n
    obtain ⟨t', ht'⟩ : ∃ t', tokText ⟨3, [], n, x⟩ = c :: t' := by
      rw [tokText_num]
      split
      · exact ⟨_, hc⟩
      · exact ⟨_, by rw [hc]; rfl⟩
    obtain ⟨h1, h2, h3, h4⟩ := isD_no hd
    have hat : (a ++ (tokText ⟨3, [], n, x⟩ ++ r))[a.length]? = some c := by rw [ht', List.cons_append]; exact at_head _ _ _
    unfold tokAt atSp
    rw [hat]
    simp only
    refine ⟨?_, h1⟩
    unfold charR
    rw [if_neg (by rw [h2]; decide), if_neg h3, if_pos h4]
    unfold numR
    rw [hb]
    rfl
  | word w hw =>
    have ht : tokText ⟨4, w, 0, 0⟩ = w := by unfold tokText; rw [if_pos (.inr rfl)]
    rw [ht]
    have hp := pre_app a w r
    rcases hw with rfl | rfl | rfl
    · have hat : (a ++ (wNull ++ r))[a.length]? = some 110 := at_head _ _ _
      unfold tokAt atSp
      rw [hat]
      refine ⟨?_, by decide⟩
      show wordR _ _ = _
      unfold wordR
      rw [if_pos hp]; rfl
    · have hat : (a ++ (wTrue ++ r))[a.length]? = some 116 := at_head _ _ _
      have hn : ¬ preAt (a ++ (wTrue ++ r)) a.length wNull = true := by
        unfold preAt; rw [List.drop_left]; unfold wTrue wNull; simp
      unfold tokAt atSp
      rw [hat]
      refine ⟨?_, by decide⟩
      show wordR _ _ = _
      unfold wordR
      rw [if_neg hn, if_pos hp]; rfl
    · have hat : (a ++ (wFalse ++ r))[a.length]? = some 102 := at_head _ _ _
      have hn : ¬ preAt (a ++ (wFalse ++ r)) a.length wNull = true := by
        unfold preAt; rw [List.drop_left]; unfold wFalse wNull; simp
      have hm : ¬ preAt (a ++ (wFalse ++ r)) a.length wTrue = true := by
        unfold preAt; rw [List.drop_left]; unfold wFalse wTrue; simp
      unfold tokAt atSp
      rw [hat]
      refine ⟨?_, by decide⟩
      show wordR _ _ = _
      unfold wordR
      rw [if_neg hn, if_neg hm, if_pos hp]; rfl
theorem skE_sp : ∀ (sp a r : List UInt8), (∀ c ∈ sp, isSp c = true) → skE (a ++ (sp ++ r)) a.length = skE (a ++ sp ++ r) (a ++ sp).length
  | [], a, r, _ => by simp
  | c :: t, a, r, h => by
    have h1 : atSp (a ++ (c :: t ++ r)) a.length = true := by unfold atSp; rw [List.cons_append, at_head]; exact h c List.mem_cons_self
    rw [skE_step h1]
    have ih := skE_sp t (a ++ [c]) r (fun x hx => h x (List.mem_cons_of_mem _ hx))
    rw [show a ++ (c :: t ++ r) = a ++ [c] ++ (t ++ r) by simp, show a.length + 1 = (a ++ [c]).length by simp, ih]
    simp
/-- the text of tokens, with spaces before and behind it, is read back -/
theorem toks_back : ∀ (l : List Tok) (a sp r : List UInt8), (∀ t ∈ l, GoodTok t ∧ (t.k = 3 → t.x.natAbs < 10 ^ 3)) → (∀ c ∈ sp, isSp c = true) → (∀ c ∈ r, isSp c = true) → toks (a ++ (sp ++ (joinT l ++ r))) a.length = (l, 0)
  | [], a, sp, r, _, hs, hr => by
    rw [joinT_nil, List.nil_append]
    have h1 := skE_sp (sp ++ r) a [] (fun c hc => (List.mem_append.1 hc).elim (hs c) (hr c))
    simp only [List.append_nil] at h1
    rw [skE_stop (atSp_out (Nat.le_refl _))] at h1
    have h2 : readTok (a ++ (sp ++ r)) a.length = ⟨tok0, (a ++ (sp ++ r)).length, 0⟩ := by
      unfold readTok tokAt; rw [h1, List.getElem?_eq_none (Nat.le_refl _)]
    exact toks_end (by rw [h2]) (by rw [h2]; rfl)
  | t :: l, a, sp, r, h, hs, hr => by
    obtain ⟨hg, hx⟩ := h t List.mem_cons_self
    have hih : ∀ u ∈ l, GoodTok u ∧ (u.k = 3 → u.x.natAbs < 10 ^ 3) := fun u hu => h u (List.mem_cons_of_mem _ hu)
    -- what stands behind the first token: spaces, the others, spaces
    obtain ⟨sp2, hsp2, hrest, hj⟩ : ∃ sp2 : List UInt8, (∀ c ∈ sp2, isSp c = true) ∧ Rest (sp2 ++ (joinT l ++ r)) ∧ joinT (t :: l) ++ r = tokText t ++ (sp2 ++ (joinT l ++ r)) := by
      match l with
      | [] =>
        refine ⟨[], by simp, ?_, ?_⟩
        · rw [joinT_nil]
          intro c u e
          exact hr c (by have e' : r = c :: u := e; rw [e']; exact List.mem_cons_self)
        · rw [joinT_one, joinT_nil]; rfl
      | u :: l' =>
        refine ⟨[32], by simp [isSp], rest_sp _ _ (by decide), ?_⟩
        rw [joinT_cons, List.append_assoc]; rfl
    rw [hj]
    have hb := tok_back t hg hx (a ++ sp) (sp2 ++ (joinT l ++ r)) hrest
    have hrd : readTok (a ++ (sp ++ (tokText t ++ (sp2 ++ (joinT l ++ r))))) a.length = ⟨t, (a ++ sp).length + (tokText t).length, 0⟩ := by
      unfold readTok
      rw [skE_sp sp a _ hs, skE_stop hb.2, ← List.append_assoc]
      exact hb.1
    have ih := toks_back l (a ++ sp ++ tokText t) sp2 r hih hsp2 hr
    have hle : (a ++ sp).length + (tokText t).length = (a ++ sp ++ tokText t).length := by simp only [List.length_append]
    have hlist : a ++ (sp ++ (tokText t ++ (sp2 ++ (joinT l ++ r)))) = a ++ sp ++ tokText t ++ (sp2 ++ (joinT l ++ r)) := by simp only [List.append_assoc]
    have hk := good_k hg
    rcases readTok_ok (l := a ++ (sp ++ (tokText t ++ (sp2 ++ (joinT l ++ r))))) (i := a.length) (by simp) (by rw [hrd]) with e | ⟨_, h1, h2⟩
    · rw [hrd] at e
      have : t.k = 0 := by injection e with e _; rw [e]; rfl
      omega
    · rw [toks_step (by rw [hrd]) (by rw [hrd]; show t.k ≠ 0; omega) ⟨h1, h2⟩, hrd]
      simp only
      rw [hle, hlist, ih, if_pos rfl]
theorem joinT_back (l : List Tok) (h : ∀ t ∈ l, GoodTok t ∧ (t.k = 3 → t.x.natAbs < 10 ^ 3)) : toks (joinT l) 0 = (l, 0) := by
  have := toks_back l [] [] [] h (by simp) (by simp)
  simpa using this
theorem joinT_back_sp (l : List Tok) (h : ∀ t ∈ l, GoodTok t ∧ (t.k = 3 → t.x.natAbs < 10 ^ 3)) : toks (9 :: (joinT l ++ [32, 10])) 0 = (l, 0) := by
  have := toks_back l [] [9] [32, 10] h (by decide) (by decide)
  simpa using this
end Go.Proofs.Ytnikcgmbkmbloaa
/- A number read whole is read in any context that does not go on with it. No program. -/
namespace Go.Proofs.Ytnikcgmbkmbloaa
open Go
/-- what may stand behind a number -/
def NumRest (r : List UInt8) : Prop := ∀ c t, r = c :: t → isD c = false ∧ c ≠ 46 ∧ c ≠ 101 ∧ c ≠ 69
def shiftU (p : Parts) (A : Nat) : Parts := ⟨p.neg, p.eneg, p.whole, p.frac, p.exp, A + p.next, p.ok⟩
section
variable {a l r : List UInt8}
theorem app_get {j : Nat} (h : j < l.length) : (a ++ (l ++ r))[a.length + j]? = l[j]? := by
  rw [List.getElem?_append_right (by omega), Nat.add_sub_cancel_left, List.getElem?_append_left h]
theorem app_C {j : Nat} (h : j < l.length) (c : UInt8) : atC (a ++ (l ++ r)) (a.length + j) c = atC l j c := by unfold atC; rw [app_get h]
theorem app_D {j : Nat} (h : j < l.length) : atD (a ++ (l ++ r)) (a.length + j) = atD l j := by unfold atD; rw [app_get h]
theorem app_end : (a ++ (l ++ r))[a.length + l.length]? = r[0]? := by
  rw [List.getElem?_append_right (by omega), Nat.add_sub_cancel_left, List.getElem?_append_right (Nat.le_refl _), Nat.sub_self]
theorem app_D_end (hr : NumRest r) : atD (a ++ (l ++ r)) (a.length + l.length) = false := by
  unfold atD
  rw [app_end]
  match r, hr with
  | [], _ => rfl
  | c :: t, hr => exact (hr c t rfl).1
theorem app_C_end (hr : NumRest r) (d : UInt8) (hd : d = 46 ∨ d = 101 ∨ d = 69) : atC (a ++ (l ++ r)) (a.length + l.length) d = false := by
  unfold atC
  rw [app_end]
  match r, hr with
  | [], _ => rfl
  | c :: t, hr =>
    obtain ⟨_, h1, h2, h3⟩ := hr c t rfl
    rcases hd with rfl | rfl | rfl <;> simpa using (by assumption)
theorem app_dEnd (hr : NumRest r) : ∀ (n j : Nat), l.length - j ≤ n → j ≤ l.length → dEnd (a ++ (l ++ r)) (a.length + j) = a.length + dEnd l j
  | n, j, hn, hj => by
    rcases Nat.lt_or_ge j l.length with h | h
    · cases hd : atD l j
      · rw [dEnd_stop hd, dEnd_stop (by rw [app_D h]; exact hd)]
      · cases n with
        | zero => omega
        | succ n =>
          have ih := app_dEnd hr n (j + 1) (by omega) (by omega)
          rw [dEnd_step hd, dEnd_step (by rw [app_D h]; exact hd), Nat.add_assoc, ih]
    · obtain rfl : j = l.length := by omega
      rw [dEnd_stop (app_D_end hr), dEnd_stop (atD_out (Nat.le_refl _))]
theorem app_cut {i j : Nat} (h0 : i ≤ j) (h1 : j ≤ l.length) : cut (a ++ (l ++ r)) (a.length + i) (a.length + j) = cut l i j := by
  unfold cut
  have e1 : (a ++ (l ++ r)).drop (a.length + i) = l.drop i ++ r := by
    rw [List.drop_append, List.drop_append]
    rw [List.drop_eq_nil_of_le (by omega), show a.length + i - a.length = i by omega, show i - l.length = 0 by omega]
    simp
  rw [e1, show a.length + j - (a.length + i) = j - i by omega, List.take_append_of_le_length (by simp; omega)]
theorem partsE_app (hr : NumRest r) {neg : Bool} {W F : List UInt8} {b : Nat} (hb : b ≤ l.length) (h : (partsE l neg W F b).ok = true) (hn : (partsE l neg W F b).next = l.length) :
    partsE (a ++ (l ++ r)) neg W F (a.length + b) = shiftU (partsE l neg W F b) a.length := by
  unfold partsE at h hn ⊢
  by_cases he : (atC l b 101 || atC l b 69) = true
  · have hbl : b < l.length := by
      rcases Nat.lt_or_ge b l.length with g | g
      · exact g
      · rw [atC_out g, atC_out g] at he; cases he
    rw [if_pos he] at h hn ⊢
    rw [app_C hbl, app_C hbl, if_pos he]
    simp only at h hn ⊢
    have key : ∀ j, b < j → j ≤ b + 2 → atD l j = true → (if atD (a ++ (l ++ r)) (a.length + j) = true then (⟨neg, atC l (b + 1) 45, W, F, cut (a ++ (l ++ r)) (a.length + j) (dEnd (a ++ (l ++ r)) (a.length + j)), dEnd (a ++ (l ++ r)) (a.length + j), true⟩ : Parts) else noParts (a.length + j)) = shiftU ⟨neg, atC l (b + 1) 45, W, F, cut l j (dEnd l j), dEnd l j, true⟩ a.length := by
      intro j h1 h2 hd
      have hjl := atD_lt hd
      rw [app_D hjl, if_pos hd, app_dEnd hr _ j (Nat.le_refl _) (by omega), app_cut (dEnd_ge l j) (dEnd_le (by omega))]
      rfl
    have hb1 : b + 1 < l.length := by
      by_cases hs : (atC l (b + 1) 43 || atC l (b + 1) 45) = true
      · rcases Nat.lt_or_ge (b + 1) l.length with g | g
        · exact g
        · rw [atC_out g, atC_out g] at hs; cases hs
      · rw [if_neg hs] at h
        by_cases hd : atD l (b + 1) = true
        · exact atD_lt hd
        · rw [if_neg hd] at h; cases h
    rw [Nat.add_assoc, app_C hb1, app_C hb1]
    by_cases hs : (atC l (b + 1) 43 || atC l (b + 1) 45) = true
    · rw [if_pos hs] at h hn
      rw [if_pos hs, if_pos hs]
      by_cases hd : atD l (b + 2) = true
      · rw [if_pos hd, Nat.add_assoc]; exact key (b + 2) (by omega) (by omega) hd
      · rw [if_neg hd] at h; cases h
    · rw [if_neg hs] at h hn
      rw [if_neg hs, if_neg hs]
      by_cases hd : atD l (b + 1) = true
      · rw [if_pos hd]; exact key (b + 1) (by omega) (by omega) hd
      · rw [if_neg hd] at h; cases h
  · rw [if_neg he] at hn ⊢
    simp only at hn
    subst hn
    rw [app_C_end hr 101 (by simp), app_C_end hr 69 (by simp), if_neg (by decide)]
    rfl
theorem partsF_app (hr : NumRest r) {neg : Bool} {W : List UInt8} {b : Nat} (hb : b ≤ l.length) (h : (partsF l neg W b).ok = true) (hn : (partsF l neg W b).next = l.length) :
    partsF (a ++ (l ++ r)) neg W (a.length + b) = shiftU (partsF l neg W b) a.length := by
  unfold partsF at h hn ⊢
  by_cases he : atC l b 46 = true
  · have hbl := atC_lt he
    rw [if_pos he] at h hn ⊢
    rw [app_C hbl, if_pos he]
    by_cases hd : atD l (b + 1) = true
    · rw [if_pos hd] at h hn ⊢
      have hjl := atD_lt hd
      rw [Nat.add_assoc, app_D hjl, if_pos hd, app_dEnd hr _ (b + 1) (Nat.le_refl _) (by omega), app_cut (dEnd_ge l _) (dEnd_le (by omega))]
      exact partsE_app hr (dEnd_le (by omega)) h hn
    · rw [if_neg hd] at h; cases h
  · rw [if_neg he] at h hn ⊢
    have hC : atC (a ++ (l ++ r)) (a.length + b) 46 = false := by
      rcases Nat.lt_or_ge b l.length with g | g
      · rw [app_C g]; simpa using he
      · obtain rfl : b = l.length := by omega
        exact app_C_end hr 46 (by simp)
    rw [hC, if_neg (by decide)]
    exact partsE_app hr hb h hn
theorem partsW_app (hr : NumRest r) {neg : Bool} {b : Nat} (h : (partsW l neg b).ok = true) (hn : (partsW l neg b).next = l.length) :
    partsW (a ++ (l ++ r)) neg (a.length + b) = shiftU (partsW l neg b) a.length := by
  unfold partsW at h hn ⊢
  by_cases hd : atD l b = true
  · have hbl := atD_lt hd
    rw [if_pos hd] at h hn ⊢
    have hw : wEnd (a ++ (l ++ r)) (a.length + b) = a.length + wEnd l b := by
      unfold wEnd
      rw [app_C hbl]
      by_cases h48 : atC l b 48 = true
      · rw [if_pos h48, if_pos h48]; omega
      · rw [if_neg h48, if_neg h48]; exact app_dEnd hr _ b (Nat.le_refl _) (by omega)
    have hwl := wEnd_le (l := l) (a := b) (by omega)
    have hwg := wEnd_gt hd
    rw [app_D hbl, if_pos hd, hw, app_cut (by omega) hwl]
    exact partsF_app hr hwl h hn
  · rw [if_neg hd] at h; cases h
theorem parts_app (hr : NumRest r) (h : (parts l 0).ok = true) (hn : (parts l 0).next = l.length) : parts (a ++ (l ++ r)) a.length = shiftU (parts l 0) a.length := by
  have hlt := parts_next h
  rw [hn] at hlt
  unfold parts at h hn ⊢
  have e := app_C (a := a) (r := r) hlt 45
  rw [Nat.add_zero] at e
  rw [e]
  by_cases hd : atC l 0 45 = true
  · rw [if_pos hd] at h hn ⊢
    rw [if_pos hd]
    exact partsW_app hr h hn
  · rw [if_neg hd] at h hn ⊢
    rw [if_neg hd]
    exact partsW_app (b := 0) hr h hn
end
/-- a number that is read whole is read with anything around it that does not go on with it -/
theorem readN_app {a l r : List UInt8} {n x : Int} (hr : NumRest r) (h : readN l 0 = ⟨n, x, l.length, 0⟩) : readN (a ++ (l ++ r)) a.length = ⟨n, x, a.length + l.length, 0⟩ := by
  have hc : (readN l 0).code = 0 := by rw [h]
  have hok := readN_code hc
  have hnx : (parts l 0).next = l.length := by rw [← readN_next, h]
  unfold readN
  rw [parts_app hr hok hnx]
  have hh : numOf (parts l 0) = ⟨n, x, l.length, 0⟩ := h
  unfold numOf at hh ⊢
  unfold shiftU
  simp only at hh ⊢
  rw [if_pos hok] at hh ⊢
  by_cases hq : (lead ((parts l 0).whole ++ (parts l 0).frac)).length ≤ 17 ∧ (parts l 0).exp.length ≤ 3
  · rw [if_pos hq] at hh ⊢
    injection hh with h1 h2 h3 h4
    rw [h1, h2, h3]
  · rw [if_neg hq] at hh; injection hh with _ _ _ h4; cases h4
end Go.Proofs.Ytnikcgmbkmbloaa
/- The text of a tree, its tokens, and what is read of them: plain facts. No program. -/
namespace Go.Proofs.Ytnikcgmbkmbloaa
open Go
/-! The tokens of a text, piece by piece. -/
def goOn (ts : List Tok) (p : List Tok × Nat) : List Tok × Nat := if p.2 = 0 then (ts ++ p.1, 0) else ([], p.2)
theorem goOn_nil (p : List Tok × Nat) (h : p.2 ≠ 0 → p.1 = []) : goOn [] p = p := by
  unfold goOn
  obtain ⟨l, c⟩ := p
  split
  · rename_i hc; exact Prod.ext rfl hc.symm
  · rename_i hc; exact Prod.ext (h hc).symm rfl
theorem goOn_app (a b : List Tok) (p : List Tok × Nat) : goOn a (goOn b p) = goOn (a ++ b) p := by
  unfold goOn
  obtain ⟨l, c⟩ := p
  by_cases hc : c = 0 <;> simp [hc]
theorem toks_code (l : List UInt8) (i : Nat) (h : (toks l i).2 ≠ 0) : (toks l i).1 = [] := by
  rw [toks] at h ⊢
  split
  · rfl
  · rename_i h1
    rw [if_neg h1] at h
    split
    · rfl
    · rename_i h2
      rw [if_neg h2] at h
      split
      · rename_i h3
        rw [dif_pos h3] at h
        split
        · rename_i h4; rw [if_pos h4] at h; exact absurd rfl h
        · rfl
      · rfl
/-- w is read as these tokens wherever what stands behind it is in Q -/
def Lex (Q : List UInt8 → Prop) (w : List UInt8) (ts : List Tok) : Prop := ∀ a r, Q r → toks (a ++ (w ++ r)) a.length = goOn ts (toks (a ++ (w ++ r)) (a.length + w.length))
theorem Lex.nil (Q : List UInt8 → Prop) : Lex Q [] [] := fun a r _ => by
  rw [goOn_nil _ (toks_code _ _)]; rfl
theorem Lex.append {Q1 Q2 : List UInt8 → Prop} {w1 w2 : List UInt8} {t1 t2 : List Tok} (h1 : Lex Q1 w1 t1) (h2 : Lex Q2 w2 t2) (hq : ∀ r, Q2 r → Q1 (w2 ++ r)) : Lex Q2 (w1 ++ w2) (t1 ++ t2) := fun a r hr => by
  have e1 := h1 a (w2 ++ r) (hq r hr)
  have e2 := h2 (a ++ w1) r hr
  rw [show a ++ w1 ++ (w2 ++ r) = a ++ (w1 ++ (w2 ++ r)) by simp, show (a ++ w1).length = a.length + w1.length by simp] at e2
  rw [show w1 ++ w2 ++ r = w1 ++ (w2 ++ r) by simp, e1, e2, goOn_app, List.length_append, Nat.add_assoc]
theorem Lex.mono {Q1 Q2 : List UInt8 → Prop} {w : List UInt8} {ts : List Tok} (h : Lex Q1 w ts) (hq : ∀ r, Q2 r → Q1 r) : Lex Q2 w ts := fun a r hr => h a r (hq r hr)
theorem Lex.one {Q : List UInt8 → Prop} {w : List UInt8} {t : Tok} (hk : t.k ≠ 0) (hw : w ≠ []) (h : ∀ a r, Q r → tokAt (a ++ (w ++ r)) a.length = ⟨t, a.length + w.length, 0⟩ ∧ atSp (a ++ (w ++ r)) a.length = false) : Lex Q w [t] := fun a r hr => by
  obtain ⟨h1, h2⟩ := h a r hr
  have hp := List.length_pos_iff.2 hw
  have hrd : readTok (a ++ (w ++ r)) a.length = ⟨t, a.length + w.length, 0⟩ := by
    unfold readTok; rw [skE_stop h2]; exact h1
  rw [toks_step (by rw [hrd]) (by rw [hrd]; exact hk) (by rw [hrd]; simp; omega), hrd]
  rfl
theorem Lex.all {w : List UInt8} {ts : List Tok} (h : Lex NumRest w ts) : toks w 0 = (ts, 0) := by
  have e := h [] [] (fun c t h => by cases h)
  simp only [List.nil_append, List.append_nil, List.length_nil, Nat.zero_add] at e
  have h2 : readTok w w.length = ⟨tok0, w.length, 0⟩ := by
    unfold readTok tokAt; rw [skE_stop (atSp_out (Nat.le_refl _)), List.getElem?_eq_none (Nat.le_refl _)]
  rw [e, toks_end (by rw [h2]) (by rw [h2]; rfl)]
  simp [goOn]
def sg (c : UInt8) : Tok := ⟨1, [c], 0, 0⟩
theorem lex_sg (c : UInt8) (h : isSg c = true) : Lex (fun _ => True) [c] [sg c] :=
  Lex.one (by simp [sg]) (by simp) fun a r _ => by
    have hall : ∀ n : Fin 256, isSg (UInt8.ofNat n.val) = true → isSp (UInt8.ofNat n.val) = false := by decide +kernel
    have h1 := hall ⟨c.toNat, c.toNat_lt⟩
    simp only [UInt8.ofNat_toNat] at h1
    rw [List.singleton_append]
    unfold tokAt atSp
    rw [at_head]
    simp only
    unfold charR
    rw [if_pos h]
    exact ⟨rfl, h1 h⟩
/-- words and texts are read in any context -/
theorem lex_word (w : List UInt8) (h : w = wNull ∨ w = wTrue ∨ w = wFalse) : Lex (fun _ => True) w [⟨4, w, 0, 0⟩] :=
  Lex.one (by simp) (by rcases h with rfl | rfl | rfl <;> decide) fun a r _ => by
    have hp := pre_app a w r
    rcases h with rfl | rfl | rfl
    · have hat : (a ++ (wNull ++ r))[a.length]? = some 110 := at_head _ _ _
      unfold tokAt atSp
      rw [hat]
      refine ⟨?_, by decide⟩
      show wordR _ _ = _
      unfold wordR
      rw [if_pos hp]; rfl
    · have hat : (a ++ (wTrue ++ r))[a.length]? = some 116 := at_head _ _ _
      have hn : ¬ preAt (a ++ (wTrue ++ r)) a.length wNull = true := by
        unfold preAt; rw [List.drop_left]; unfold wTrue wNull; simp
      unfold tokAt atSp
      rw [hat]
      refine ⟨?_, by decide⟩
      show wordR _ _ = _
      unfold wordR
      rw [if_neg hn, if_pos hp]; rfl
    · have hat : (a ++ (wFalse ++ r))[a.length]? = some 102 := at_head _ _ _
      have hn : ¬ preAt (a ++ (wFalse ++ r)) a.length wNull = true := by
        unfold preAt; rw [List.drop_left]; unfold wFalse wNull; simp
      have hm : ¬ preAt (a ++ (wFalse ++ r)) a.length wTrue = true := by
        unfold preAt; rw [List.drop_left]; unfold wFalse wTrue; simp
      unfold tokAt atSp
      rw [hat]
      refine ⟨?_, by decide⟩
      show wordR _ _ = _
      unfold wordR
      rw [if_neg hn, if_neg hm, if_pos hp]; rfl
theorem lex_text (rs : List Int) (hrs : ∀ r ∈ rs, okR r) : Lex (fun _ => True) (quoteL (flat rs)) [⟨2, flat rs, 0, 0⟩] := by
  have ht : quoteL (flat rs) = 34 :: (escsL rs ++ [34]) := by
    have : runes (flat rs) = some rs := by
      rw [runes_flat]; congr 1; rw [List.filter_eq_self]; intro x hx; exact decide_eq_true (hrs x hx)
    exact quoteL_some this
  rw [ht]
  refine Lex.one (by simp) (by simp) fun a r _ => ?_
  rw [List.cons_append]
  have hq : readQ (a ++ 34 :: (escsL rs ++ [34] ++ r)) (a.length : Nat) = some (rs, a.length + 1 + (escsL rs).length + 1) := by
    unfold readQ
    rw [if_pos ⟨by omega, by rw [show (((a.length : Nat) : Int)).toNat = a.length by omega]; exact at_head _ _ _⟩, show (((a.length : Nat) : Int)).toNat = a.length by omega]
    have := read_escs rs (a ++ [34]) r hrs
    rw [List.length_append] at this
    rw [show a ++ 34 :: (escsL rs ++ [34] ++ r) = a ++ [34] ++ (escsL rs ++ 34 :: r) by simp]
    exact this
  unfold tokAt atSp
  rw [at_head]
  simp only
  refine ⟨?_, by decide⟩
  unfold charR
  rw [if_neg (by decide), if_pos rfl]
  unfold textR
  rw [hq]
  simp only [List.length_cons, List.length_append, List.length_nil]
  congr 1
  omega
theorem lex_num {w : List UInt8} {n x : Int} (h : readN w 0 = ⟨n, x, w.length, 0⟩) (hc : ∃ c t, w = c :: t ∧ (c = 45 ∨ isD c = true)) : Lex NumRest w [⟨3, [], n, x⟩] := by
  obtain ⟨c, t, ht, hd⟩ := hc
  refine Lex.one (by simp) (by rw [ht]; simp) fun a r hr => ?_
  have hb := readN_app (a := a) hr h
  obtain ⟨h1, h2, h3, h4⟩ := isD_no hd
  have hat : (a ++ (w ++ r))[a.length]? = some c := by rw [ht, List.cons_append]; exact at_head _ _ _
  unfold tokAt atSp
  rw [hat]
  simp only
  refine ⟨?_, h1⟩
  unfold charR
  rw [if_neg (by rw [h2]; decide), if_neg h3, if_pos h4]
  unfold numR
  rw [hb]
  rfl
end Go.Proofs.Ytnikcgmbkmbloaa
/- The text of a tree and its tokens: plain facts. No program. -/
namespace Go.Proofs.Ytnikcgmbkmbloaa
open Go
/-- what stands before the element i -/
def sepB (m : Bool) (i : Nat) : List UInt8 := if i = 0 then [] else if (m && i % 2 == 1) = true then [58] else [44]
def sepT (m : Bool) (i : Nat) : List Tok := if i = 0 then [] else if (m && i % 2 == 1) = true then [sg 58] else [sg 44]
def leafB (F : Int → Int → List UInt8) (k n x : Int) (s : List UInt8) : List UInt8 :=
  if k = 1 then wNull else if k = 2 then (if n = 1 then wTrue else wFalse) else if k = 3 then Lib.itoa n else if k = 6 then decText n x else if k = 4 then F n x else quoteL s
def leafT (k n x : Int) (s : List UInt8) : List Tok :=
  if k = 1 then [⟨4, wNull, 0, 0⟩] else if k = 2 then [⟨4, if n = 1 then wTrue else wFalse, 0, 0⟩] else if k = 3 ∨ k = 6 then [⟨3, [], n, x⟩] else [⟨2, s, 0, 0⟩]
def isLeafK (k : Int) : Bool := decide (k = 1 ∨ k = 2 ∨ k = 3 ∨ k = 4 ∨ k = 6 ∨ k = 7)
mutual
/-- the text of a tree; F gives the text of a number in binary -/
def PT.txt (F : Int → Int → List UInt8) : PT → List UInt8
  | .mk k n x s l => if isLeafK k = true then leafB F k n x s else if k = 10 then 123 :: (PT.txtL F true 0 l ++ [125]) else 91 :: (PT.txtL F false 0 l ++ [93])
def PT.txtL (F : Int → Int → List UInt8) (m : Bool) : Nat → List PT → List UInt8
  | _, [] => []
  | i, t :: l => sepB m i ++ (t.txt F ++ PT.txtL F m (i + 1) l)
end
mutual
def PT.tks : PT → List Tok
  | .mk k n x s l => if isLeafK k = true then leafT k n x s else if k = 10 then sg 123 :: (PT.tksL true 0 l ++ [sg 125]) else sg 91 :: (PT.tksL false 0 l ++ [sg 93])
def PT.tksL (m : Bool) : Nat → List PT → List Tok
  | _, [] => []
  | i, t :: l => sepT m i ++ (t.tks ++ PT.tksL m (i + 1) l)
end
def PT.kd : PT → Int | .mk k _ _ _ _ => k
/-- a tree of the first way (that a map's names differ is not asked here) -/
inductive PT.Fits : PT → Prop
  | null : PT.Fits (.mk 1 0 0 [] [])
  | bool (n : Int) (h : n = 0 ∨ n = 1) : PT.Fits (.mk 2 n 0 [] [])
  | int (n : Int) (h : decOk n 0 = true) : PT.Fits (.mk 3 n 0 [] [])
  | dec (n x : Int) (h : decOk n x = true) (hx : x ≠ 0) : PT.Fits (.mk 6 n x [] [])
  | text (rs : List Int) (h : ∀ r ∈ rs, okR r) : PT.Fits (.mk 7 0 0 (flat rs) [])
  | list (l : List PT) (h : ∀ t ∈ l, PT.Fits t) : PT.Fits (.mk 9 0 0 [] l)
  | map (l : List PT) (h : ∀ t ∈ l, PT.Fits t) (he : l.length % 2 = 0) (hn : ∀ i t, l[i]? = some t → i % 2 = 0 → t.kd = 7) : PT.Fits (.mk 10 0 0 [] l)
theorem isDig_D {c : UInt8} (h : isDig c) : isD c = true := by unfold isD; exact decide_eq_true h
/-- a decimal's text begins with a sign or a digit -/
theorem decText_head {n x : Int} (h : decOk n x = true) : ∃ c t, decText n x = c :: t ∧ (c = 45 ∨ isD c = true) := by
  have hr := read_text h
  have hok := readN_code (l := decText n x) (i := 0) (by rw [hr])
  unfold parts at hok
  by_cases h45 : atC (decText n x) 0 45 = true
  · match hd : decText n x, h45 with
    | [], h45 => unfold atC at h45; simp at h45
    | c :: t, h45 =>
      refine ⟨c, t, rfl, .inl ?_⟩
      unfold atC at h45; simpa using h45
  · rw [if_neg h45] at hok
    have hD : atD (decText n x) 0 = true := by
      cases hD : atD (decText n x) 0
      · unfold partsW at hok; rw [hD] at hok; cases hok
      · rfl
    match hd : decText n x, hD with
    | [], hD => unfold atD at hD; simp at hD
    | c :: t, hD =>
      refine ⟨c, t, rfl, .inr ?_⟩
      unfold atD at hD; simpa using hD
theorem lex_dec {n x : Int} (h : decOk n x = true) : Lex NumRest (decText n x) [⟨3, [], n, x⟩] := lex_num (read_text h) (decText_head h)
theorem numRest_sg {c : UInt8} (t : List UInt8) (h : c = 58 ∨ c = 44 ∨ c = 93 ∨ c = 125) : NumRest (c :: t) := by
  intro d u e
  injection e with e _
  subst e
  rcases h with rfl | rfl | rfl | rfl <;> decide
theorem lex_sep (m : Bool) (i : Nat) : Lex (fun _ => True) (sepB m i) (sepT m i) := by
  unfold sepB sepT
  split
  · exact Lex.nil _
  · split
    · exact lex_sg 58 (by decide)
    · exact lex_sg 44 (by decide)
theorem txtL_rest (F : Int → Int → List UInt8) (m : Bool) (i : Nat) (l : List PT) (r : List UInt8) (hi : i ≠ 0) (hr : NumRest r) : NumRest (PT.txtL F m i l ++ r) := by
  cases l with
  | nil => rw [PT.txtL]; exact hr
  | cons t l =>
    rw [PT.txtL]
    unfold sepB
    rw [if_neg hi]
    split
    · exact numRest_sg _ (.inl rfl)
    · exact numRest_sg _ (.inr (.inl rfl))
theorem lex_list (F : Int → Int → List UInt8) (m : Bool) : ∀ (l : List PT) (i : Nat), (∀ t ∈ l, Lex NumRest (t.txt F) t.tks) → Lex NumRest (PT.txtL F m i l) (PT.tksL m i l)
  | [], i, _ => by rw [PT.txtL, PT.tksL]; exact Lex.nil _
  | t :: l, i, h => by
    rw [PT.txtL, PT.tksL]
    refine (lex_sep m i).append ((h t List.mem_cons_self).append (lex_list F m l (i + 1) fun u hu => h u (List.mem_cons_of_mem _ hu)) fun r hr => txtL_rest F m (i + 1) l r (by omega) hr) fun _ _ => trivial
theorem lex_box (a b : UInt8) (ha : isSg a = true) (hb : b = 93 ∨ b = 125) {w : List UInt8} {ts : List Tok} (h : Lex NumRest w ts) : Lex (fun _ => True) (a :: (w ++ [b])) (sg a :: (ts ++ [sg b])) := by
  have h1 := (lex_sg a ha).append (h.append (lex_sg b (by rcases hb with rfl | rfl <;> decide)) fun r _ => numRest_sg r (by rcases hb with rfl | rfl <;> simp)) fun _ _ => trivial
  simpa using h1
/-- the text of a tree of the first way is read as its tokens -/
theorem lex_tree (F : Int → Int → List UInt8) (T : PT) : T.Fits → Lex NumRest (T.txt F) T.tks := by
  refine PT.ind (P := fun T => T.Fits → Lex NumRest (T.txt F) T.tks) (fun k n x s l ih h => ?_) T
  cases h with
  | null => exact (lex_word wNull (.inl rfl)).mono fun _ _ => trivial
  | bool n h =>
    rcases h with rfl | rfl
    · exact (lex_word wFalse (.inr (.inr rfl))).mono fun _ _ => trivial
    · exact (lex_word wTrue (.inr (.inl rfl))).mono fun _ _ => trivial
  | int n h => have := lex_dec h; rw [decText_int h] at this; exact this
  | dec n x h hx => exact lex_dec h
  | text rs h => exact (lex_text rs h).mono fun _ _ => trivial
  | list l h =>
    rw [PT.txt, PT.tks]
    exact (lex_box 91 93 (by decide) (.inl rfl) (lex_list F false l 0 fun t ht => ih t ht (h t ht))).mono fun _ _ => trivial
  | map l h he hn =>
    rw [PT.txt, PT.tks]
    exact (lex_box 123 125 (by decide) (.inr rfl) (lex_list F true l 0 fun t ht => ih t ht (h t ht))).mono fun _ _ => trivial
theorem toks_tree (F : Int → Int → List UInt8) (T : PT) (h : T.Fits) : toks (T.txt F) 0 = (T.tks, 0) := (lex_tree F T h).all
end Go.Proofs.Ytnikcgmbkmbloaa
