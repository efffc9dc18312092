/- Quoted strings: what is written is read back; plain facts. -/
import Derived.Test.YtaelepaogkakmaaDoorQuoteMath
import Derived.Test.YtaelepaogkakmaaDoorFromRunes
namespace Go.Proofs.YtaelepaogkakmaaDoor
theorem at_app (pre x : List UInt8) (k : Nat) : (pre ++ x)[pre.length + k]? = x[k]? := by
  rw [List.getElem?_append_right (by omega), Nat.add_sub_cancel_left]
theorem at_app0 (pre x : List UInt8) : (pre ++ x)[pre.length]? = x[0]? := at_app pre x 0
theorem four_app (pre x : List UInt8) (k : Nat) (h : k + 4 ≤ x.length) : fourAt (pre ++ x) (pre.length + k) = hexN 0 ((x.drop k).take 4) := by
  rw [fourAt_in (by rw [List.length_append]; omega), ← List.drop_drop, List.drop_left]
theorem hexd_low (n : Nat) (h : n < 32) : hexN 0 [48, 48, hexd (n / 16), hexd (n % 16)] = some (n : Int) := by
  have e0 : dig16 48 = 0 := by decide
  have e1 := dig16_hexd (n / 16) (by omega)
  have e2 := dig16_hexd (n % 16) (by omega)
  rw [hexN_good (by omega), hexN_good (by omega), hexN_good (by omega), hexN_good (by omega), e0, e1, e2]
  show some _ = some _
  congr 1
  omega
theorem char_at_esc (pre rest : List UInt8) (n : Int) (h : okR n) : charAt (pre ++ (escL n ++ rest)) pre.length = some (n, pre.length + (escL n).length) ∧ ¬ (pre ++ (escL n ++ rest))[pre.length]? = some 34 := by
  cases hE : escB n with
  | some c =>
    have e := escL_letter hE
    rw [e]
    have g0 : (pre ++ ([92, c] ++ rest))[pre.length]? = some 92 := at_app0 pre _
    have g1 : (pre ++ ([92, c] ++ rest))[pre.length + 1]? = some c := at_app pre _ 1
    refine ⟨?_, by rw [g0]; simp⟩
    obtain ⟨hi, hc⟩ := List.getElem?_eq_some_iff.1 g1
    rw [char_esc g0, esc_letter hi (by rw [hc]; exact unB_escB hE)]
    rfl
  | none =>
    have hok := okR_un h
    by_cases hlow : n < 32
    · have h0 : 0 ≤ n := by omega
      obtain ⟨m, rfl⟩ : ∃ m : Nat, n = m := ⟨n.toNat, by omega⟩
      have e : escL (m : Int) = [92, 117, 48, 48, hexd (m / 16), hexd (m % 16)] := by
        rw [escL_low hE h0 hlow]
        have e2 : (UInt8.ofNat (m : Int).toNat).toNat = m := by simp; omega
        show [92, 117, 48, 48] ++ [hexd ((UInt8.ofNat (m : Int).toNat).toNat / 16), hexd ((UInt8.ofNat (m : Int).toNat).toNat % 16)] = _
        rw [e2]; rfl
      rw [e]
      generalize hx : [92, 117, 48, 48, hexd (m / 16), hexd (m % 16)] ++ rest = x at *
      have g0 : (pre ++ x)[pre.length]? = some 92 := by rw [at_app0, ← hx]; rfl
      have g1 : (pre ++ x)[pre.length + 1]? = some 117 := by rw [at_app, ← hx]; rfl
      refine ⟨?_, by rw [g0]; simp⟩
      obtain ⟨hi, hc⟩ := List.getElem?_eq_some_iff.1 g1
      have h4 : fourAt (pre ++ x) (pre.length + 1 + 1) = some (m : Int) := by
        have hl : 2 + 4 ≤ x.length := by rw [← hx]; simp
        have := four_app pre x 2 hl
        rw [show pre.length + 1 + 1 = pre.length + 2 by omega, this, ← hx]
        exact hexd_low m (by omega)
      rw [char_esc g0, esc_num hi hc, num_one h4 (by omega)]
      rfl
    · have e := escL_plain hE (by omega)
      rw [e]
      obtain ⟨m, rfl⟩ : ∃ m : Nat, n = m := ⟨n.toNat, by omega⟩
      have hd := decode_enc m rest h
      have hdec : dec (pre ++ (encR (m : Int) ++ rest)) pre.length = (m, wideR m) := by rw [dec_drop, List.drop_left]; exact hd
      have hw : 1 ≤ wideR (m : Int) := by rcases wideR_cases (m : Int) with h' | h' | h' | h' | ⟨h', _⟩ <;> first | omega | exact absurd h h'
      have hlen := encR_len (m : Int)
      have hbad : ¬ ((m, wideR (m : Int)) = (65533, 1)) := by
        intro g
        rw [Prod.mk.injEq] at g
        obtain ⟨g1, g2⟩ := g
        rcases wideR_cases (m : Int) with h' | h' | h' | h' | ⟨h', _⟩ <;> first | omega | exact absurd h h'
      have first_ne : ∀ c : UInt8, c.toNat < 128 → m ≠ c.toNat → ¬ (pre ++ (encR (m : Int) ++ rest))[pre.length]? = some c := by
        intro c hc hne g
        rw [at_app0] at g
        cases hx : encR (m : Int) ++ rest with
        | nil => rw [hx] at g; cases g
        | cons a r =>
          rw [hx] at g hd
          obtain rfl : a = c := Option.some.inj g
          have e2 : Lib.decodeL (a :: r) = (a.toNat, 1) := by
            have e : Lib.decodeL (a :: r) = dec (a :: r) 0 := rfl
            rw [e, dec_eq, byte_cons0, decN_one hc]
          rw [e2] at hd
          rw [Prod.mk.injEq] at hd
          exact hne hd.1.symm
      have n34 : m ≠ 34 := by
        intro e; subst e; cases hE
      have n92 : m ≠ 92 := by
        intro e; subst e; cases hE
      refine ⟨?_, first_ne 34 (by decide) n34⟩
      rw [char_plain (by rw [List.length_append, List.length_append]; omega) (first_ne 92 (by decide) n92) (by rw [hdec]; exact hbad) (by rw [hdec]; show 32 ≤ m; omega), hdec, hlen]
theorem read_escs : ∀ (rs : List Int) (pre rest : List UInt8), (∀ r ∈ rs, okR r) → readAt (pre ++ (escsL rs ++ 34 :: rest)) pre.length = some (rs, pre.length + (escsL rs).length + 1)
  | [], pre, rest, _ => by
    rw [read_quote (by rw [at_app0]; rfl)]
    rfl
  | n :: r, pre, rest, h => by
    have hc := char_at_esc pre (escsL r ++ 34 :: rest) n (h n (.head _))
    have ih := read_escs r (pre ++ escL n) rest (fun x hx => h x (.tail _ hx))
    rw [escsL_cons, List.append_assoc, read_char hc.2 hc.1]
    rw [List.append_assoc, List.length_append] at ih
    rw [ih]
    refine congrArg some (Prod.ext rfl ?_)
    show pre.length + (escL n).length + (escsL r).length + 1 = _
    rw [List.length_append]
    show _ = pre.length + ((escL n).length + (escsL r).length) + 1
    omega
theorem runes_okR : ∀ (n : Nat) (l : List UInt8) (rs : List Int), l.length ≤ n → runes l = some rs → ∀ r ∈ rs, okR r
  | 0, l, rs, h, k => by
    obtain rfl : l = [] := List.eq_nil_of_length_eq_zero (by omega)
    rw [runes_nil] at k
    obtain rfl : [] = rs := Option.some.inj k
    intro r hr; cases hr
  | n + 1, l, rs, h, k => by
    by_cases hl : l = []
    · subst hl
      rw [runes_nil] at k
      obtain rfl : [] = rs := Option.some.inj k
      intro r hr; cases hr
    · rw [runes_step l hl] at k
      split at k
      · cases k
      · rw [Option.map_eq_some_iff] at k
        obtain ⟨r, hr, rfl⟩ := k
        have hp := decL_pos l hl
        have ih := runes_okR n _ r (by simp; omega) hr
        intro x hx
        rcases List.mem_cons.1 hx with e | e
        · subst e; exact decL_ok l hl
        · exact ih x e
/-- a quoted text with anything behind it is read back -/
theorem quote_back (l rest : List UInt8) (rs : List Int) (h : runes l = some rs) : readQ (quoteL l ++ rest) 0 = some (rs, (quoteL l).length) := by
  have hq := quoteL_some h
  rw [hq]
  have e : (34 :: (escsL rs ++ [34])) ++ rest = [34] ++ (escsL rs ++ 34 :: rest) := by simp
  rw [e]
  have hr := read_escs rs [34] rest (runes_okR _ l rs (Nat.le_refl _) h)
  unfold readQ
  rw [if_pos ⟨by omega, rfl⟩]
  show readAt _ 1 = _
  refine hr.trans ?_
  simp
  omega
theorem ascii_enc : ∀ x : Fin 128, encR (x.val : Int) = [UInt8.ofNat x.val] := by decide +kernel
theorem ascii_flat : ∀ bs : List UInt8, (∀ b ∈ bs, b.toNat < 128) → flat (bs.map fun b => (b.toNat : Int)) = bs
  | [], _ => rfl
  | b :: r, h => by
    have ih := ascii_flat r (fun x hx => h x (.tail _ hx))
    have e := ascii_enc ⟨b.toNat, h b (.head _)⟩
    show encR (b.toNat : Int) ++ flat (r.map fun b => (b.toNat : Int)) = b :: r
    rw [ih]
    have e' : encR (b.toNat : Int) = [UInt8.ofNat b.toNat] := e
    rw [e']
    simp
theorem escL_flat (n : Int) : ∃ ys, escL n = flat ys := by
  cases hE : escB n with
  | some c =>
    refine ⟨_, (escL_letter hE).trans (ascii_flat [92, c] ?_).symm⟩
    intro b hb
    rcases escB_cases n with ⟨rfl, e⟩ | ⟨rfl, e⟩ | ⟨rfl, e⟩ | ⟨rfl, e⟩ | ⟨rfl, e⟩ | ⟨rfl, e⟩ | ⟨rfl, e⟩ | ⟨_, _, _, _, _, _, _, e⟩
    all_goals (rw [e] at hE; cases hE)
    all_goals (simp at hb; rcases hb with rfl | rfl <;> decide)
  | none =>
    by_cases hlow : 0 ≤ n ∧ n < 32
    · refine ⟨_, (escL_low hE hlow.1 hlow.2).trans (ascii_flat _ ?_).symm⟩
      intro b hb
      have hd : ∀ x : Nat, x < 16 → (hexd x).toNat < 128 := by
        intro x hx
        have h1 : x = 0 ∨ x = 1 ∨ x = 2 ∨ x = 3 ∨ x = 4 ∨ x = 5 ∨ x = 6 ∨ x = 7 ∨ x = 8 ∨ x = 9 ∨ x = 10 ∨ x = 11 ∨ x = 12 ∨ x = 13 ∨ x = 14 ∨ x = 15 := by omega
        rcases h1 with rfl | rfl | rfl | rfl | rfl | rfl | rfl | rfl | rfl | rfl | rfl | rfl | rfl | rfl | rfl | rfl <;> decide
      have hb256 : (UInt8.ofNat n.toNat).toNat < 256 := UInt8.toNat_lt _
      simp only [hexL, List.flatMap_cons, List.flatMap_nil, List.append_nil, List.cons_append, List.nil_append, List.mem_cons, List.not_mem_nil, or_false] at hb
      rcases hb with rfl | rfl | rfl | rfl | rfl | rfl
      · decide
      · decide
      · decide
      · decide
      · exact hd _ (by omega)
      · exact hd _ (by omega)
    · exact ⟨[n], (escL_plain hE hlow).trans (flat_one n).symm⟩
theorem escsL_flat : ∀ rs : List Int, ∃ ys, escsL rs = flat ys
  | [] => ⟨[], rfl⟩
  | n :: r => by
    obtain ⟨y1, h1⟩ := escL_flat n
    obtain ⟨y2, h2⟩ := escsL_flat r
    exact ⟨y1 ++ y2, by rw [escsL_cons, h1, h2, flat_append]⟩
theorem quote_text (l : List UInt8) (rs : List Int) (h : runes l = some rs) : (runes (quoteL l)).isSome = true := by
  obtain ⟨ys, hy⟩ := escsL_flat rs
  have e : quoteL l = flat ([34] ++ ys ++ [34]) := by
    rw [quoteL_some h, flat_append, flat_append, hy]
    rfl
  rw [e, runes_flat]; rfl
theorem flat_text (rs : List Int) : (runes (flat rs)).isSome = true := by rw [runes_flat]; rfl
theorem runes_one {n : Int} (h : okR n) : runes (encR n) = some [n] := by
  have := runes_flat [n]
  rw [flat_one] at this
  rw [this]
  simp [h]
theorem quote_one {n : Int} (h : okR n) : quoteL (encR n) = 34 :: (escL n ++ [34]) := by
  rw [quoteL_some (runes_one h)]; simp [escsL]
theorem one_back {n : Int} (h : okR n) : readQ (34 :: (escL n ++ [34])) 0 = some ([n], (escL n).length + 2) := by
  have := quote_back (encR n) [] [n] (runes_one h)
  rw [quote_one h, List.append_nil] at this
  rw [this]
  simp
end Go.Proofs.YtaelepaogkakmaaDoor
