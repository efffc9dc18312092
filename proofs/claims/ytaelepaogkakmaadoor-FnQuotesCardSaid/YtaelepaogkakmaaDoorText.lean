/- Strings as characters: plain facts over the model's own decoder. No run in this text. -/
import Derived.Test.YtaelepaogkakmaaDoorGetSpec
import Derived.Lib.MapLaws
import Derived.Lib.RuneCount
namespace Go.Proofs.YtaelepaogkakmaaDoor
theorem dec_drop (l : List UInt8) (i : Nat) : dec l i = Lib.decodeL (l.drop i) := by
  have e : Lib.decodeL (l.drop i) = dec (l.drop i) 0 := rfl
  have hb : ∀ j, byteN (l.drop i) j = byteN l (i + j) := by
    intro j
    by_cases h : i + j < l.length
    · rw [byteN_at _ _ h, byteN_at _ _ (by simp; omega), List.getElem_drop]
    · have g1 : ∀ (m : List UInt8) (k : Nat), ¬ k < m.length → byteN m k = 0 := by
        intro m k hk
        have : (ByteArray.mk m.toArray).get! k = 0 := getElem!_neg m.toArray k (by simpa using hk)
        unfold byteN; rw [this]; rfl
      rw [g1 _ _ h, g1 _ _ (by simp; omega)]
  rw [e, dec_eq, dec_eq, hb, hb, hb, hb]
  simp only [List.length_drop, Nat.zero_add, Nat.sub_zero, Nat.add_zero]
theorem decL_pos (l : List UInt8) (h : l ≠ []) : 1 ≤ (Lib.decodeL l).2 ∧ (Lib.decodeL l).2 ≤ l.length := by
  refine ⟨?_, Lib.decodeL_le l h⟩
  have : 0 < l.length := List.length_pos_iff.2 h
  exact Lib.decode_width_pos ⟨l.toArray⟩ 0 (by simpa [ByteArray.size] using this)
def runesF : Nat → List UInt8 → Option (List Int)
  | _, [] => some []
  | 0, _ :: _ => none
  | n + 1, x :: l => if Lib.decodeL (x :: l) = (65533, 1) then none else (runesF n ((x :: l).drop (Lib.decodeL (x :: l)).2)).map (fun r => ((Lib.decodeL (x :: l)).1 : Int) :: r)
def runes (l : List UInt8) : Option (List Int) := runesF l.length l
theorem runesF_fuel : ∀ (n m : Nat) (l : List UInt8), l.length ≤ n → l.length ≤ m → runesF n l = runesF m l
  | _, _, [], _, _ => by simp [runesF]
  | 0, _, _ :: _, h, _ => by simp at h
  | _, 0, _ :: _, _, h => by simp at h
  | n + 1, m + 1, x :: l, h, k => by
    have hp := decL_pos (x :: l) (by simp)
    simp only [runesF]
    rw [runesF_fuel n m]
    · simp at h ⊢; omega
    · simp at k ⊢; omega
theorem runes_nil : runes [] = some [] := rfl
theorem runes_step (l : List UInt8) (h : l ≠ []) : runes l = if Lib.decodeL l = (65533, 1) then none else (runes (l.drop (Lib.decodeL l).2)).map (fun r => ((Lib.decodeL l).1 : Int) :: r) := by
  cases l with
  | nil => exact absurd rfl h
  | cons x l =>
    have hp := decL_pos (x :: l) (by simp)
    show runesF (l.length + 1) (x :: l) = _
    simp only [runesF]
    rw [show runes (List.drop (Lib.decodeL (x :: l)).2 (x :: l)) = runesF l.length (List.drop (Lib.decodeL (x :: l)).2 (x :: l)) from runesF_fuel _ _ _ (Nat.le_refl _) (by simp; omega)]
def runesAt (l : List UInt8) (i : Nat) : Option (List Int) := runes (l.drop i)
theorem runesAt_end {l : List UInt8} {i : Nat} (h : ¬ i < l.length) : runesAt l i = some [] := by
  unfold runesAt; rw [List.drop_eq_nil_of_le (by omega)]; rfl
theorem dec_pos {l : List UInt8} {i : Nat} (h : i < l.length) : 1 ≤ (dec l i).2 ∧ i + (dec l i).2 ≤ l.length := by
  rw [dec_drop]
  have := decL_pos (l.drop i) (by intro e; have := congrArg List.length e; simp at this; omega)
  rw [List.length_drop] at this
  omega
theorem runesAt_bad {l : List UInt8} {i : Nat} (h : i < l.length) (hb : dec l i = (65533, 1)) : runesAt l i = none := by
  unfold runesAt
  rw [dec_drop] at hb
  rw [runes_step _ (by intro e; have := congrArg List.length e; simp at this; omega), if_pos hb]
theorem runesAt_good {l : List UInt8} {i : Nat} (h : i < l.length) (hb : dec l i ≠ (65533, 1)) : runesAt l i = (runesAt l (i + (dec l i).2)).map (fun r => ((dec l i).1 : Int) :: r) := by
  unfold runesAt
  rw [dec_drop] at hb
  rw [runes_step _ (by intro e; have := congrArg List.length e; simp at this; omega), if_neg hb, List.drop_drop, ← dec_drop]
theorem decL_ok (l : List UInt8) (h : l ≠ []) : okR ((Lib.decodeL l).1 : Int) := by
  have e : Lib.decodeL l = dec l 0 := rfl
  have b0 := byteN_lt l 0
  have b1 := byteN_lt l 1
  have b2 := byteN_lt l 2
  have b3 := byteN_lt l 3
  rw [e, dec_eq]
  apply okR_mk
  rcases Lib.decodeN_shape (l.length - 0) (byteN l 0) (byteN l (0 + 1)) (byteN l (0 + 2)) (byteN l (0 + 3)) with ⟨h1, h2⟩ | ⟨h1, h3, h4, h5, h2⟩ | ⟨h1, h3, h4, h5, h6, h7, h2⟩ | ⟨h1, h3, h4, h5, h6, h7, h8, h2⟩ | h2
  all_goals rw [h2]; simp only; omega
/-- the bytes of characters one behind the other -/
def flat (rs : List Int) : List UInt8 := rs.flatMap encR
theorem flat_runes : ∀ (n : Nat) (l : List UInt8) (rs : List Int), l.length ≤ n → runes l = some rs → flat rs = l
  | 0, l, rs, h, k => by
    obtain rfl : l = [] := List.eq_nil_of_length_eq_zero (by omega)
    rw [runes_nil] at k
    obtain rfl : [] = rs := Option.some.inj k
    rfl
  | n + 1, l, rs, h, k => by
    by_cases hl : l = []
    · subst hl
      rw [runes_nil] at k
      obtain rfl : [] = rs := Option.some.inj k
      rfl
    · rw [runes_step l hl] at k
      split at k
      · cases k
      · rename_i hb
        rw [Option.map_eq_some_iff] at k
        obtain ⟨r, hr, rfl⟩ := k
        have hp := decL_pos l hl
        have ih := flat_runes n _ r (by simp; omega) hr
        show encR _ ++ flat r = l
        rw [ih]
        unfold encR
        rw [if_pos (decL_ok l hl), Lib.encode_decode l hl (fun g => hb (Prod.ext g.1 g.2)), List.take_append_drop]
theorem runes_len : ∀ (n : Nat) (l : List UInt8) (rs : List Int), l.length ≤ n → runes l = some rs → rs.length ≤ l.length
  | 0, l, rs, h, k => by
    obtain rfl : l = [] := List.eq_nil_of_length_eq_zero (by omega)
    rw [runes_nil] at k
    obtain rfl : [] = rs := Option.some.inj k
    exact Nat.zero_le _
  | n + 1, l, rs, h, k => by
    by_cases hl : l = []
    · subst hl
      rw [runes_nil] at k
      obtain rfl : [] = rs := Option.some.inj k
      exact Nat.zero_le _
    · rw [runes_step l hl] at k
      split at k
      · cases k
      · rw [Option.map_eq_some_iff] at k
        obtain ⟨r, hr, rfl⟩ := k
        have hp := decL_pos l hl
        have ih := runes_len n _ r (by simp; omega) hr
        simp at ih ⊢
        omega
theorem runesD_len (l : List UInt8) : ((runes l).getD []).length ≤ l.length := by
  cases h : runes l with
  | none => exact Nat.zero_le _
  | some rs => exact runes_len _ l rs (Nat.le_refl _) h
theorem map8 (z : Int) (n : Nat) (h : z = n) (k : n < 256) : (z.toNat.toUInt8).toNat = n := by
  subst h
  rw [Int.toNat_natCast]
  exact (UInt8.toNat_ofNat' (n := n)).trans (Nat.mod_eq_of_lt k)
theorem byte_cons0 (x : UInt8) (l : List UInt8) : byteN (x :: l) 0 = x.toNat := byteN_at _ _ (by simp)
theorem byte_cons1 (x y : UInt8) (l : List UInt8) : byteN (x :: y :: l) 1 = y.toNat := byteN_at _ _ (by simp)
theorem byte_cons2 (x y z : UInt8) (l : List UInt8) : byteN (x :: y :: z :: l) 2 = z.toNat := byteN_at _ _ (by simp)
theorem byte_cons3 (x y z u : UInt8) (l : List UInt8) : byteN (x :: y :: z :: u :: l) 3 = u.toNat := byteN_at _ _ (by simp)
set_option maxRecDepth 100000 in
theorem decode_enc (n : Nat) (rest : List UInt8) (h : okR n) : Lib.decodeL (encR n ++ rest) = (n, wideR n) := by
  have e : ∀ l, Lib.decodeL l = dec l 0 := fun _ => rfl
  rw [e, dec_eq]
  simp only [Nat.zero_add, Nat.sub_zero]
  have en : encR n = (Lib.encodeRuneZ n).map fun x => x.toNat.toUInt8 := by unfold encR; rw [if_pos h]; rfl
  have hok := okR_un h
  rcases wideR_cases n with ⟨h0, h1, hw⟩ | ⟨h0, h1, hw⟩ | ⟨h0, h1, h2, hw⟩ | ⟨h0, h1, hw⟩ | ⟨h0, hw⟩
  · rw [hw, en, Lib.encodeRuneZ_one (by omega) (by omega)]
    simp only [List.map_cons, List.map_nil, List.cons_append, List.nil_append]
    rw [byte_cons0, map8 _ n rfl (by omega), decN_one (by omega)]
  · rw [hw, en, Lib.encodeRuneZ_two (by omega) (by omega)]
    simp only [List.map_cons, List.map_nil, List.cons_append, List.nil_append]
    rw [byte_cons0, byte_cons1, map8 (192 + (n : Int) / 64) (192 + n / 64) (by omega) (by omega), map8 (128 + (n : Int) % 64) (128 + n % 64) (by omega) (by omega)]
    rcases decN_two (n := (((192 + (n : Int) / 64).toNat.toUInt8) :: ((128 + (n : Int) % 64).toNat.toUInt8) :: rest).length) (b0 := 192 + n / 64) (b1 := 128 + n % 64) (b2 := byteN (((192 + (n : Int) / 64).toNat.toUInt8) :: ((128 + (n : Int) % 64).toNat.toUInt8) :: rest) 2) (b3 := byteN (((192 + (n : Int) / 64).toNat.toUInt8) :: ((128 + (n : Int) % 64).toNat.toUInt8) :: rest) 3) (by omega) (by omega) with ⟨_, _, _, _, g⟩ | ⟨g, _⟩
    · rw [g]; apply Prod.ext <;> simp only <;> omega
    · exact absurd ⟨by simp, by omega, by omega, by omega⟩ g
  · rw [hw, en, Lib.encodeRuneZ_three (by omega)]
    simp only [List.map_cons, List.map_nil, List.cons_append, List.nil_append]
    rw [byte_cons0, byte_cons1, byte_cons2, map8 (224 + (n : Int) / 4096) (224 + n / 4096) (by omega) (by omega), map8 (128 + (n : Int) / 64 % 64) (128 + n / 64 % 64) (by omega) (by omega), map8 (128 + (n : Int) % 64) (128 + n % 64) (by omega) (by omega)]
    generalize hL : (((224 + (n : Int) / 4096).toNat.toUInt8) :: ((128 + (n : Int) / 64 % 64).toNat.toUInt8) :: ((128 + (n : Int) % 64).toNat.toUInt8) :: rest) = L
    have hLL : 3 ≤ L.length := by rw [← hL]; simp
    rcases decN_three (n := L.length) (b0 := 224 + n / 4096) (b1 := 128 + n / 64 % 64) (b2 := 128 + n % 64) (b3 := byteN L 3) (by omega) (by omega) (by omega) with ⟨_, _, _, _, _, _, g⟩ | ⟨g, _⟩
    · rw [g]; apply Prod.ext <;> simp only <;> omega
    · exact absurd ⟨hLL, by omega, by omega, by omega, by omega, by omega⟩ g
  · rw [hw, en, Lib.encodeRuneZ_four (by omega) (by omega)]
    simp only [List.map_cons, List.map_nil, List.cons_append, List.nil_append]
    rw [byte_cons0, byte_cons1, byte_cons2, byte_cons3, map8 (240 + (n : Int) / 262144) (240 + n / 262144) (by omega) (by omega), map8 (128 + (n : Int) / 4096 % 64) (128 + n / 4096 % 64) (by omega) (by omega), map8 (128 + (n : Int) / 64 % 64) (128 + n / 64 % 64) (by omega) (by omega), map8 (128 + (n : Int) % 64) (128 + n % 64) (by omega) (by omega)]
    generalize hL : (((240 + (n : Int) / 262144).toNat.toUInt8) :: ((128 + (n : Int) / 4096 % 64).toNat.toUInt8) :: ((128 + (n : Int) / 64 % 64).toNat.toUInt8) :: ((128 + (n : Int) % 64).toNat.toUInt8) :: rest) = L
    have hLL : 4 ≤ L.length := by rw [← hL]; simp
    rcases decN_four (n := L.length) (b0 := 240 + n / 262144) (b1 := 128 + n / 4096 % 64) (b2 := 128 + n / 64 % 64) (b3 := 128 + n % 64) (by omega) (by omega) (by omega) (by omega) with ⟨_, _, _, _, _, _, _, _, g⟩ | ⟨g, _⟩
    · rw [g]; apply Prod.ext <;> simp only <;> omega
    · exact absurd ⟨hLL, by omega, by omega, by omega, by omega, by omega, by omega, by omega⟩ g
  · exact absurd h h0
theorem runes_flat : ∀ (rs : List Int), runes (flat rs) = some (rs.filter fun n => decide (okR n))
  | [] => rfl
  | n :: rs => by
    have ih := runes_flat rs
    show runes (encR n ++ flat rs) = _
    by_cases h : okR n
    · have hn := okR_un h
      obtain ⟨m, rfl⟩ : ∃ m : Nat, n = m := ⟨n.toNat, by omega⟩
      have hd := decode_enc m (flat rs) h
      have hlen := encR_len m
      have hw : wideR m ≠ 0 := by rcases wideR_cases m with h' | h' | h' | h' | ⟨h', _⟩ <;> first | omega | exact absurd h h'
      have hne : encR m ++ flat rs ≠ [] := by
        intro g; have := congrArg List.length g; rw [List.length_append, hlen] at this; simp only [List.length_nil] at this; omega
      have hbad : ¬ ((m, wideR m) = (65533, 1)) := by
        intro g
        rw [Prod.mk.injEq] at g
        obtain ⟨g1, g2⟩ := g
        rcases wideR_cases m with h' | h' | h' | h' | ⟨h', _⟩ <;> first | omega | exact absurd h h'
      rw [runes_step _ hne, hd, if_neg hbad]
      simp only
      rw [← hlen, List.drop_left, ih]
      simp [h]
    · rw [show encR n = [] from enc_bad' h, List.nil_append, ih]
      simp [h]
end Go.Proofs.YtaelepaogkakmaaDoor
