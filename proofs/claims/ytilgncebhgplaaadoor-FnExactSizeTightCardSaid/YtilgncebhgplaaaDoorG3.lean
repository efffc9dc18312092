import Derived.Test.YtilgncebhgplaaaDoorG2
import Derived.Lib.MapLaws
import Derived.Lib.RuneCount
import Derived.Test.YtilgncebhgplaaaDoorRows
import Derived.Test.YtilgncebhgplaaaDoorG0
import Derived.WalkKit
import Derived.Lib.Hide
import Derived.Outline
import Derived.ProofKit
/- Strings as characters: plain facts over the model's own decoder. No run in this text. -/
namespace Go.Proofs.YtilgncebhgplaaaDoor
theorem dec_drop (l : List UInt8) (i : Nat) : dec l i = Lib.decodeL (l.drop i) := by
  have e : Lib.decodeL (l.drop i) = dec (l.drop i) 0 := rfl
  have hb : ∀ j, byteN (l.drop i) j = byteN l (i + j) := by
    intro j
    by_cases h : i + j < l.length
    · rw [byteN_at _ _ h, byteN_at _ _ (by simp; omega), List.getElem_drop]
    · have g1 : ∀ (m : List UInt8) (k : Nat), ¬ k < m.length → byteN m k = 0 := by
        intro m k hk
        have : (ByteArray.mk m.toArray).get! k = 0 := getElem!_neg m.toArray k (by simpa using hk)
        unfold byteN; rw [this]; rfl
      rw [g1 _ _ h, g1 _ _ (by simp; omega)]
  rw [e, dec_eq, dec_eq, hb, hb, hb, hb]
  simp only [List.length_drop, Nat.zero_add, Nat.sub_zero, Nat.add_zero]
theorem decL_pos (l : List UInt8) (h : l ≠ []) : 1 ≤ (Lib.decodeL l).2 ∧ (Lib.decodeL l).2 ≤ l.length := by
  refine ⟨?_, Lib.decodeL_le l h⟩
  have : 0 < l.length := List.length_pos_iff.2 h
  exact Lib.decode_width_pos ⟨l.toArray⟩ 0 (by simpa [ByteArray.size] using this)
def runesF : Nat → List UInt8 → Option (List Int)
  | _, [] => some []
  | 0, _ :: _ => none
  | n + 1, x :: l => if Lib.decodeL (x :: l) = (65533, 1) then none else (runesF n ((x :: l).drop (Lib.decodeL (x :: l)).2)).map (fun r => ((Lib.decodeL (x :: l)).1 : Int) :: r)
def runes (l : List UInt8) : Option (List Int) := runesF l.length l
theorem runesF_fuel : ∀ (n m : Nat) (l : List UInt8), l.length ≤ n → l.length ≤ m → runesF n l = runesF m l
  | _, _, [], _, _ => by simp [runesF]
  | 0, _, _ :: _, h, _ => by simp at h
  | _, 0, _ :: _, _, h => by simp at h
  | n + 1, m + 1, x :: l, h, k => by
    have hp := decL_pos (x :: l) (by simp)
    simp only [runesF]
    rw [runesF_fuel n m]
    · simp at h ⊢; omega
    · simp at k ⊢; omega
theorem runes_nil : runes [] = some [] := rfl
theorem runes_step (l : List UInt8) (h : l ≠ []) : runes l = if Lib.decodeL l = (65533, 1) then none else (runes (l.drop (Lib.decodeL l).2)).map (fun r => ((Lib.decodeL l).1 : Int) :: r) := by
  cases l with
  | nil => exact absurd rfl h
  | cons x l =>
    have hp := decL_pos (x :: l) (by simp)
    show runesF (l.length + 1) (x :: l) = _
    simp only [runesF]
    rw [show runes (List.drop (Lib.decodeL (x :: l)).2 (x :: l)) = runesF l.length (List.drop (Lib.decodeL (x :: l)).2 (x :: l)) from runesF_fuel _ _ _ (Nat.le_refl _) (by simp; omega)]
def runesAt (l : List UInt8) (i : Nat) : Option (List Int) := runes (l.drop i)
theorem runesAt_end {l : List UInt8} {i : Nat} (h : ¬ i < l.length) : runesAt l i = some [] := by
  unfold runesAt; rw [List.drop_eq_nil_of_le (by omega)]; rfl
theorem dec_pos {l : List UInt8} {i : Nat} (h : i < l.length) : 1 ≤ (dec l i).2 ∧ i + (dec l i).2 ≤ l.length := by
  rw [dec_drop]
  have := decL_pos (l.drop i) (by intro e; have := congrArg List.length e; simp at this; omega)
  rw [List.length_drop] at this
  omega
theorem runesAt_bad {l : List UInt8} {i : Nat} (h : i < l.length) (hb : dec l i = (65533, 1)) : runesAt l i = none := by
  unfold runesAt
  rw [dec_drop] at hb
  rw [runes_step _ (by intro e; have := congrArg List.length e; simp at this; omega), if_pos hb]
theorem runesAt_good {l : List UInt8} {i : Nat} (h : i < l.length) (hb : dec l i ≠ (65533, 1)) : runesAt l i = (runesAt l (i + (dec l i).2)).map (fun r => ((dec l i).1 : Int) :: r) := by
  unfold runesAt
  rw [dec_drop] at hb
  rw [runes_step _ (by intro e; have := congrArg List.length e; simp at this; omega), if_neg hb, List.drop_drop, ← dec_drop]
theorem decL_ok (l : List UInt8) (h : l ≠ []) : okR ((Lib.decodeL l).1 : Int) := by
  have e : Lib.decodeL l = dec l 0 := rfl
  have b0 := byteN_lt l 0
  have b1 := byteN_lt l 1
  have b2 := byteN_lt l 2
  have b3 := byteN_lt l 3
  rw [e, dec_eq]
  apply okR_mk
  rcases Lib.decodeN_shape (l.length - 0) (byteN l 0) (byteN l (0 + 1)) (byteN l (0 + 2)) (byteN l (0 + 3)) with ⟨h1, h2⟩ | ⟨h1, h3, h4, h5, h2⟩ | ⟨h1, h3, h4, h5, h6, h7, h2⟩ | ⟨h1, h3, h4, h5, h6, h7, h8, h2⟩ | h2
  all_goals rw [h2]; simp only; omega
/-- the bytes of characters one behind the other -/
def flat (rs : List Int) : List UInt8 := rs.flatMap encR
theorem flat_runes : ∀ (n : Nat) (l : List UInt8) (rs : List Int), l.length ≤ n → runes l = some rs → flat rs = l
  | 0, l, rs, h, k => by
    obtain rfl : l = [] := List.eq_nil_of_length_eq_zero (by omega)
    rw [runes_nil] at k
    obtain rfl : [] = rs := Option.some.inj k
    rfl
  | n + 1, l, rs, h, k => by
    by_cases hl : l = []
    · subst hl
      rw [runes_nil] at k
      obtain rfl : [] = rs := Option.some.inj k
      rfl
    · rw [runes_step l hl] at k
      split at k
      · cases k
      · rename_i hb
        rw [Option.map_eq_some_iff] at k
        obtain ⟨r, hr, rfl⟩ := k
        have hp := decL_pos l hl
        have ih := flat_runes n _ r (by simp; omega) hr
        show encR _ ++ flat r = l
        rw [ih]
        unfold encR
        rw [if_pos (decL_ok l hl), Lib.encode_decode l hl (fun g => hb (Prod.ext g.1 g.2)), List.take_append_drop]
theorem runes_len : ∀ (n : Nat) (l : List UInt8) (rs : List Int), l.length ≤ n → runes l = some rs → rs.length ≤ l.length
  | 0, l, rs, h, k => by
    obtain rfl : l = [] := List.eq_nil_of_length_eq_zero (by omega)
    rw [runes_nil] at k
    obtain rfl : [] = rs := Option.some.inj k
    exact Nat.zero_le _
  | n + 1, l, rs, h, k => by
    by_cases hl : l = []
    · subst hl
      rw [runes_nil] at k
      obtain rfl : [] = rs := Option.some.inj k
      exact Nat.zero_le _
    · rw [runes_step l hl] at k
      split at k
      · cases k
      · rw [Option.map_eq_some_iff] at k
        obtain ⟨r, hr, rfl⟩ := k
        have hp := decL_pos l hl
        have ih := runes_len n _ r (by simp; omega) hr
        simp at ih ⊢
        omega
theorem runesD_len (l : List UInt8) : ((runes l).getD []).length ≤ l.length := by
  cases h : runes l with
  | none => exact Nat.zero_le _
  | some rs => exact runes_len _ l rs (Nat.le_refl _) h
theorem map8 (z : Int) (n : Nat) (h : z = n) (k : n < 256) : (z.toNat.toUInt8).toNat = n := by
  subst h
  rw [Int.toNat_natCast]
  exact (UInt8.toNat_ofNat' (n := n)).trans (Nat.mod_eq_of_lt k)
theorem byte_cons0 (x : UInt8) (l : List UInt8) : byteN (x :: l) 0 = x.toNat := byteN_at _ _ (by simp)
theorem byte_cons1 (x y : UInt8) (l : List UInt8) : byteN (x :: y :: l) 1 = y.toNat := byteN_at _ _ (by simp)
theorem byte_cons2 (x y z : UInt8) (l : List UInt8) : byteN (x :: y :: z :: l) 2 = z.toNat := byteN_at _ _ (by simp)
theorem byte_cons3 (x y z u : UInt8) (l : List UInt8) : byteN (x :: y :: z :: u :: l) 3 = u.toNat := byteN_at _ _ (by simp)
set_option maxRecDepth 100000 in
theorem decode_enc (n : Nat) (rest : List UInt8) (h : okR n) : Lib.decodeL (encR n ++ rest) = (n, wideR n) := by
  have e : ∀ l, Lib.decodeL l = dec l 0 := fun _ => rfl
  rw [e, dec_eq]
  simp only [Nat.zero_add, Nat.sub_zero]
  have en : encR n = (Lib.encodeRuneZ n).map fun x => x.toNat.toUInt8 := by unfold encR; rw [if_pos h]; rfl
  have hok := okR_un h
  rcases wideR_cases n with ⟨h0, h1, hw⟩ | ⟨h0, h1, hw⟩ | ⟨h0, h1, h2, hw⟩ | ⟨h0, h1, hw⟩ | ⟨h0, hw⟩
  · rw [hw, en, Lib.encodeRuneZ_one (by omega) (by omega)]
    simp only [List.map_cons, List.map_nil, List.cons_append, List.nil_append]
    rw [byte_cons0, map8 _ n rfl (by omega), decN_one (by omega)]
  · rw [hw, en, Lib.encodeRuneZ_two (by omega) (by omega)]
    simp only [List.map_cons, List.map_nil, List.cons_append, List.nil_append]
    rw [byte_cons0, byte_cons1, map8 (192 + (n : Int) / 64) (192 + n / 64) (by omega) (by omega), map8 (128 + (n : Int) % 64) (128 + n % 64) (by omega) (by omega)]
    rcases decN_two (n := (((192 + (n : Int) / 64).toNat.toUInt8) :: ((128 + (n : Int) % 64).toNat.toUInt8) :: rest).length) (b0 := 192 + n / 64) (b1 := 128 + n % 64) (b2 := byteN (((192 + (n : Int) / 64).toNat.toUInt8) :: ((128 + (n : Int) % 64).toNat.toUInt8) :: rest) 2) (b3 := byteN (((192 + (n : Int) / 64).toNat.toUInt8) :: ((128 + (n : Int) % 64).toNat.toUInt8) :: rest) 3) (by omega) (by omega) with ⟨_, _, _, _, g⟩ | ⟨g, _⟩
    · rw [g]; apply Prod.ext <;> simp only <;> omega
    · exact absurd ⟨by simp, by omega, by omega, by omega⟩ g
  · rw [hw, en, Lib.encodeRuneZ_three (by omega)]
    simp only [List.map_cons, List.map_nil, List.cons_append, List.nil_append]
    rw [byte_cons0, byte_cons1, byte_cons2, map8 (224 + (n : Int) / 4096) (224 + n / 4096) (by omega) (by omega), map8 (128 + (n : Int) / 64 % 64) (128 + n / 64 % 64) (by omega) (by omega), map8 (128 + (n : Int) % 64) (128 + n % 64) (by omega) (by omega)]
    generalize hL : (((224 + (n : Int) / 4096).toNat.toUInt8) :: ((128 + (n : Int) / 64 % 64).toNat.toUInt8) :: ((128 + (n : Int) % 64).toNat.toUInt8) :: rest) = L
    have hLL : 3 ≤ L.length := by rw [← hL]; simp
    rcases decN_three (n := L.length) (b0 := 224 + n / 4096) (b1 := 128 + n / 64 % 64) (b2 := 128 + n % 64) (b3 := byteN L 3) (by omega) (by omega) (by omega) with ⟨_, _, _, _, _, _, g⟩ | ⟨g, _⟩
    · rw [g]; apply Prod.ext <;> simp only <;> omega
    · exact absurd ⟨hLL, by omega, by omega, by omega, by omega, by omega⟩ g
  · rw [hw, en, Lib.encodeRuneZ_four (by omega) (by omega)]
    simp only [List.map_cons, List.map_nil, List.cons_append, List.nil_append]
    rw [byte_cons0, byte_cons1, byte_cons2, byte_cons3, map8 (240 + (n : Int) / 262144) (240 + n / 262144) (by omega) (by omega), map8 (128 + (n : Int) / 4096 % 64) (128 + n / 4096 % 64) (by omega) (by omega), map8 (128 + (n : Int) / 64 % 64) (128 + n / 64 % 64) (by omega) (by omega), map8 (128 + (n : Int) % 64) (128 + n % 64) (by omega) (by omega)]
    generalize hL : (((240 + (n : Int) / 262144).toNat.toUInt8) :: ((128 + (n : Int) / 4096 % 64).toNat.toUInt8) :: ((128 + (n : Int) / 64 % 64).toNat.toUInt8) :: ((128 + (n : Int) % 64).toNat.toUInt8) :: rest) = L
    have hLL : 4 ≤ L.length := by rw [← hL]; simp
    rcases decN_four (n := L.length) (b0 := 240 + n / 262144) (b1 := 128 + n / 4096 % 64) (b2 := 128 + n / 64 % 64) (b3 := 128 + n % 64) (by omega) (by omega) (by omega) (by omega) with ⟨_, _, _, _, _, _, _, _, g⟩ | ⟨g, _⟩
    · rw [g]; apply Prod.ext <;> simp only <;> omega
    · exact absurd ⟨hLL, by omega, by omega, by omega, by omega, by omega, by omega, by omega⟩ g
  · exact absurd h h0
theorem runes_flat : ∀ (rs : List Int), runes (flat rs) = some (rs.filter fun n => decide (okR n))
  | [] => rfl
  | n :: rs => by
    have ih := runes_flat rs
    show runes (encR n ++ flat rs) = _
    by_cases h : okR n
    · have hn := okR_un h
      obtain ⟨m, rfl⟩ : ∃ m : Nat, n = m := ⟨n.toNat, by omega⟩
      have hd := decode_enc m (flat rs) h
      have hlen := encR_len m
      have hw : wideR m ≠ 0 := by rcases wideR_cases m with h' | h' | h' | h' | ⟨h', _⟩ <;> first | omega | exact absurd h h'
      have hne : encR m ++ flat rs ≠ [] := by
        intro g; have := congrArg List.length g; rw [List.length_append, hlen] at this; simp only [List.length_nil] at this; omega
      have hbad : ¬ ((m, wideR m) = (65533, 1)) := by
        intro g
        rw [Prod.mk.injEq] at g
        obtain ⟨g1, g2⟩ := g
        rcases wideR_cases m with h' | h' | h' | h' | ⟨h', _⟩ <;> first | omega | exact absurd h h'
      rw [runes_step _ hne, hd, if_neg hbad]
      simp only
      rw [← hlen, List.drop_left, ih]
      simp [h]
    · rw [show encR n = [] from enc_bad' h, List.nil_append, ih]
      simp [h]
end Go.Proofs.YtilgncebhgplaaaDoor
/- Big-endian integers: plain facts. -/
namespace Go.Proofs.YtilgncebhgplaaaDoor
/-- the k low bytes of n, the highest first -/
def be (n : Nat) : Nat → List UInt8
  | 0 => []
  | k + 1 => UInt8.ofNat (n / 256 ^ k) :: be n k
@[simp] theorem be_length (n : Nat) : ∀ k, (be n k).length = k
  | 0 => rfl
  | k + 1 => by simp [be, be_length n k]
theorem be_getElem (n : Nat) : ∀ (k j : Nat) (h : j < (be n k).length), (be n k)[j] = UInt8.ofNat (n / 256 ^ (k - 1 - j))
  | k + 1, 0, h => rfl
  | k + 1, j + 1, h => by
    simp only [be, List.getElem_cons_succ]
    rw [be_getElem n k j]
    congr 3
    omega
theorem be_drop (n : Nat) : ∀ (k j : Nat), (be n (j + k)).drop k = be n j
  | 0, j => rfl
  | k + 1, j => by
    rw [← Nat.add_assoc]
    simp only [be, List.drop_succ_cons]
    exact be_drop n k j
theorem be_snoc (n : Nat) : ∀ k, be n (k + 1) = be (n / 256) k ++ [UInt8.ofNat n]
  | 0 => by simp [be]
  | k + 1 => by
    rw [be, be_snoc n k, be, Nat.div_div_eq_div_mul, Nat.pow_succ, Nat.mul_comm 256, List.cons_append]
def val (l : List UInt8) : Nat := l.foldl (fun a c => 256 * a + c.toNat) 0
theorem val_nil : val [] = 0 := rfl
theorem val_snoc (l : List UInt8) (c : UInt8) : val (l ++ [c]) = 256 * val l + c.toNat := by simp [val]
theorem bval_take (l : List UInt8) (k : Nat) (h : k < l.length) : val (l.take (k + 1)) = 256 * val (l.take k) + l[k].toNat := by
  rw [List.take_succ_eq_append_getElem h, val_snoc]
theorem snoc_ind {P : List UInt8 → Prop} (h0 : P []) (h1 : ∀ l c, P l → P (l ++ [c])) : ∀ (n : Nat) (l : List UInt8), l.length = n → P l
  | 0, l, h => by rw [List.eq_nil_of_length_eq_zero h]; exact h0
  | n + 1, l, h => by
    have hne : l ≠ [] := by intro e; rw [e] at h; simp at h
    rw [← List.dropLast_concat_getLast hne]
    exact h1 _ _ (snoc_ind h0 h1 n _ (by simp [h]))
theorem val_lt (l : List UInt8) : val l < 256 ^ l.length := by
  refine snoc_ind (P := fun l => val l < 256 ^ l.length) (by simp [val]) (fun l c h => ?_) l.length l rfl
  rw [val_snoc, List.length_append, List.length_singleton, Nat.pow_succ]
  have : c.toNat < 256 := UInt8.toNat_lt c
  omega
theorem be_val (l : List UInt8) : be (val l) l.length = l := by
  refine snoc_ind (P := fun l => be (val l) l.length = l) rfl (fun l c h => ?_) l.length l rfl
  have hc : c.toNat < 256 := UInt8.toNat_lt c
  have h1 : (256 * val l + c.toNat) / 256 = val l := by omega
  have h2 : UInt8.ofNat (256 * val l + c.toNat) = c := by
    apply UInt8.toNat_inj.1
    simp
  rw [val_snoc, List.length_append, List.length_singleton, be_snoc, h1, h2, h]
theorem val_be (n : Nat) : ∀ k, n < 256 ^ k → val (be n k) = n := by
  intro k
  induction k generalizing n with
  | zero => intro h; simp at h; subst h; rfl
  | succ k ih =>
    intro h
    rw [Nat.pow_succ] at h
    rw [be_snoc, val_snoc, ih (n / 256) (by omega)]
    have : (UInt8.ofNat n).toNat = n % 256 := by simp
    omega
theorem val_mono (l : List UInt8) (k : Nat) : val (l.take k) ≤ val l := by
  by_cases hk : k ≤ l.length
  · obtain ⟨d, hd⟩ : ∃ d, l.length = k + d := ⟨l.length - k, by omega⟩
    clear hk
    induction d generalizing k with
    | zero => rw [List.take_of_length_le (by omega)]; exact Nat.le_refl _
    | succ d ih =>
      have := ih (k + 1) (by omega)
      have h2 := bval_take l k (by omega)
      omega
  · rw [List.take_of_length_le (by omega)]; exact Nat.le_refl _
theorem byte_of (m : Nat) : ((UInt8.ofNat m).toNat : Int) = (m : Int) % 256 := by simp
/-- the widths that exist; whether n fits into width x -/
def widOk (x : Int) : Prop := x = 1 ∨ x = 2 ∨ x = 4 ∨ x = 8
def fitB (n x : Int) : Prop := 0 ≤ n ∧ ((x = 1 ∧ n < 256) ∨ (x = 2 ∧ n < 65536) ∨ (x = 4 ∧ n < 4294967296) ∨ x = 8)
instance : DecidablePred widOk := fun x => by unfold widOk; infer_instance
instance (n x : Int) : Decidable (fitB n x) := by unfold fitB; infer_instance
theorem fit_mk {n x : Int} (h : 0 ≤ n ∧ ((x = 1 ∧ n < 256) ∨ (x = 2 ∧ n < 65536) ∨ (x = 4 ∧ n < 4294967296) ∨ x = 8)) : fitB n x := h
theorem fit_un {n x : Int} (h : fitB n x) : 0 ≤ n ∧ ((x = 1 ∧ n < 256) ∨ (x = 2 ∧ n < 65536) ∨ (x = 4 ∧ n < 4294967296) ∨ x = 8) := h
theorem wid_un {x : Int} (h : widOk x) : x = 1 ∨ x = 2 ∨ x = 4 ∨ x = 8 := h
theorem fit_wid {n x : Int} (h : fitB n x) : widOk x := by have := fit_un h; unfold widOk; omega
theorem fit_zero {x : Int} : fitB 0 x ↔ widOk x := by unfold fitB widOk; omega
/-- what PutBig appends -/
def bigL (n x : Int) : List UInt8 := if fitB n x then be n.toNat x.toNat else []
theorem bigL_yes {n x : Int} (h : fitB n x) : bigL n x = be n.toNat x.toNat := by unfold bigL; rw [if_pos h]
theorem bigL_no {n x : Int} (h : ¬ fitB n x) : bigL n x = [] := by unfold bigL; rw [if_neg h]
theorem bigL_len (n x : Int) : (bigL n x).length ≤ 8 := by
  unfold bigL; split
  · rename_i h; have := fit_un h; rw [be_length]; omega
  · exact Nat.zero_le _
/-- the number that GetBig reads -/
def bigN (l : List UInt8) (a x : Int) : Nat := val ((l.drop a.toNat).take x.toNat)
def bigIn (l : List UInt8) (a x : Int) : Prop := widOk x ∧ 0 ≤ a ∧ a + x ≤ l.length
def bigOk (l : List UInt8) (a x : Int) : Prop := bigIn l a x ∧ bigN l a x ≤ 1000000000000000
instance (l : List UInt8) (a x : Int) : Decidable (bigIn l a x) := by unfold bigIn; infer_instance
instance (l : List UInt8) (a x : Int) : Decidable (bigOk l a x) := by unfold bigOk; infer_instance
def bigR (l : List UInt8) (a x : Int) : Int := if bigOk l a x then bigN l a x else 0
theorem bigR_yes {l : List UInt8} {a x : Int} (h : bigOk l a x) : bigR l a x = bigN l a x := by unfold bigR; rw [if_pos h]
theorem bigR_no {l : List UInt8} {a x : Int} (h : ¬ bigOk l a x) : bigR l a x = 0 := by unfold bigR; rw [if_neg h]
/-- the width that WidthFor answers -/
def widR (n : Int) : Int := if n < 0 then 0 else if n < 256 then 1 else if n < 65536 then 2 else if n < 4294967296 then 4 else 8
end Go.Proofs.YtilgncebhgplaaaDoor
/- Heads of the compact format: plain facts. No program. -/
namespace Go.Proofs.YtilgncebhgplaaaDoor
/-- a head: major type, argument, width -/
structure Hd where
  k : Int
  n : Int
  w : Int
def hdOk (h : Hd) : Prop := (0 ≤ h.k ∧ h.k ≤ 7) ∧ (0 ≤ h.n ∧ h.n ≤ 1000000000000000) ∧ ((h.w = 0 ∧ h.n ≤ 23) ∨ (widOk h.w ∧ fitB h.n h.w) ∨ (h.w = -1 ∧ h.n = 0 ∧ h.k ≠ 0 ∧ h.k ≠ 1 ∧ h.k ≠ 6))
instance : DecidablePred hdOk := fun h => by unfold hdOk; infer_instance
def hdInfo (h : Hd) : Int := if h.w = -1 then 31 else if h.w = 1 then 24 else if h.w = 2 then 25 else if h.w = 4 then 26 else if h.w = 8 then 27 else h.n
/-- what PutHead appends -/
def hdB (h : Hd) : List UInt8 := if hdOk h then UInt8.ofNat (32 * h.k + hdInfo h).toNat :: be h.n.toNat h.w.toNat else []
def hd0 : Hd := ⟨0, 0, 0⟩
/-- what is read: the head, the place behind it, the code -/
structure HdR where
  h : Hd
  next : Nat
  code : Nat
def badH (c : Nat) : HdR := ⟨hd0, 0, c⟩
def wideH (l : List UInt8) (i k w : Nat) : HdR :=
  if i + 1 + w ≤ l.length then (if val ((l.drop (i + 1)).take w) ≤ 1000000000000000 then ⟨⟨k, val ((l.drop (i + 1)).take w), w⟩, i + 1 + w, 0⟩ else badH 2) else badH 1
def infoH (l : List UInt8) (i k f : Nat) : HdR :=
  if f < 24 then ⟨⟨k, f, 0⟩, i + 1, 0⟩ else if f = 31 then (if k = 0 ∨ k = 1 ∨ k = 6 then badH 1 else ⟨⟨k, 0, -1⟩, i + 1, 0⟩) else if 27 < f then badH 1 else wideH l i k (2 ^ (f - 24))
def getH (l : List UInt8) (i : Nat) : HdR := match l[i]? with
  | none => badH 1
  | some c => infoH l i (c.toNat / 32) (c.toNat % 32)
def hdFor (k n : Int) : Hd := if hdOk ⟨k, n, if n > 23 then widR n else 0⟩ then ⟨k, n, if n > 23 then widR n else 0⟩ else hd0
theorem hdOk_cases {h : Hd} (o : hdOk h) : (0 ≤ h.k ∧ h.k ≤ 7) ∧ (0 ≤ h.n ∧ h.n ≤ 1000000000000000) ∧ ((h.w = 0 ∧ h.n ≤ 23) ∨ (h.w = 1 ∧ h.n < 256) ∨ (h.w = 2 ∧ h.n < 65536) ∨ (h.w = 4 ∧ h.n < 4294967296) ∨ h.w = 8 ∨ (h.w = -1 ∧ h.n = 0 ∧ h.k ≠ 0 ∧ h.k ≠ 1 ∧ h.k ≠ 6)) := by
  obtain ⟨h1, h2, h3⟩ := o
  refine ⟨h1, h2, ?_⟩
  rcases h3 with h3 | ⟨_, h3⟩ | h3
  · exact .inl h3
  · have := fit_un h3; omega
  · omega
theorem hd_of {k n w : Int} (h1 : 0 ≤ k ∧ k ≤ 7) (h2 : 0 ≤ n ∧ n ≤ 1000000000000000) (h3 : (w = 0 ∧ n ≤ 23) ∨ (w = 1 ∧ n < 256) ∨ (w = 2 ∧ n < 65536) ∨ (w = 4 ∧ n < 4294967296) ∨ w = 8 ∨ (w = -1 ∧ n = 0 ∧ k ≠ 0 ∧ k ≠ 1 ∧ k ≠ 6)) : hdOk ⟨k, n, w⟩ := by
  refine ⟨h1, h2, ?_⟩
  simp only
  rcases h3 with h3 | h3 | h3 | h3 | h3 | h3
  · exact .inl h3
  · have : fitB n w := fit_mk (by omega)
    exact .inr (.inl ⟨fit_wid this, this⟩)
  · have : fitB n w := fit_mk (by omega)
    exact .inr (.inl ⟨fit_wid this, this⟩)
  · have : fitB n w := fit_mk (by omega)
    exact .inr (.inl ⟨fit_wid this, this⟩)
  · have : fitB n w := fit_mk (by omega)
    exact .inr (.inl ⟨fit_wid this, this⟩)
  · exact .inr (.inr h3)
theorem hdB_yes {h : Hd} (o : hdOk h) : hdB h = UInt8.ofNat (32 * h.k + hdInfo h).toNat :: be h.n.toNat h.w.toNat := by unfold hdB; rw [if_pos o]
theorem hdB_no {h : Hd} (o : ¬ hdOk h) : hdB h = [] := by unfold hdB; rw [if_neg o]
theorem hdB_len {h : Hd} (o : hdOk h) : (hdB h).length = 1 + h.w.toNat := by rw [hdB_yes o, List.length_cons, be_length]; omega
theorem info_range {h : Hd} (o : hdOk h) : 0 ≤ hdInfo h ∧ hdInfo h ≤ 31 := by
  have := hdOk_cases o
  unfold hdInfo
  split <;> (try split) <;> (try split) <;> (try split) <;> (try split) <;> omega
/-- a head's bytes are read back, with anything around them -/
theorem head_get {h : Hd} (o : hdOk h) (a r : List UInt8) : getH (a ++ (hdB h ++ r)) a.length = ⟨h, a.length + (hdB h).length, 0⟩ := by
  have hr := info_range o
  have hc := hdOk_cases o
  obtain ⟨k, n, w⟩ := h
  simp only at hc
  rw [hdB_len o, hdB_yes o]
  simp only
  unfold getH
  rw [List.cons_append, show (a ++ UInt8.ofNat (32 * k + hdInfo ⟨k, n, w⟩).toNat :: (be n.toNat w.toNat ++ r))[a.length]? = some (UInt8.ofNat (32 * k + hdInfo ⟨k, n, w⟩).toNat) by simp]
  simp only
  have hlt : (32 * k + hdInfo ⟨k, n, w⟩).toNat < 256 := by omega
  have hv : (UInt8.ofNat (32 * k + hdInfo ⟨k, n, w⟩).toNat).toNat = (32 * k + hdInfo ⟨k, n, w⟩).toNat := by
    rw [UInt8.toNat_ofNat']; omega
  rw [hv]
  have hk : (32 * k + hdInfo ⟨k, n, w⟩).toNat / 32 = k.toNat := by omega
  have hf : (32 * k + hdInfo ⟨k, n, w⟩).toNat % 32 = (hdInfo ⟨k, n, w⟩).toNat := by omega
  rw [hk, hf]
  have hkk : ((k.toNat : Nat) : Int) = k := by omega
  have hnn : ((n.toNat : Nat) : Int) = n := by omega
  -- the widths of one, two, four and eight bytes
  have wide : ∀ m : Nat, w = m → n.toNat < 256 ^ m → wideH (a ++ UInt8.ofNat (32 * k + hdInfo ⟨k, n, w⟩).toNat :: (be n.toNat w.toNat ++ r)) a.length k.toNat m = ⟨⟨k, n, w⟩, a.length + (1 + w.toNat), 0⟩ := fun m hm hlt => by
    have hwm : w.toNat = m := by omega
    have hd : ((a ++ UInt8.ofNat (32 * k + hdInfo ⟨k, n, w⟩).toNat :: (be n.toNat w.toNat ++ r)).drop (a.length + 1)).take m = be n.toNat m := by
      rw [show a ++ UInt8.ofNat (32 * k + hdInfo ⟨k, n, w⟩).toNat :: (be n.toNat w.toNat ++ r) = (a ++ [UInt8.ofNat (32 * k + hdInfo ⟨k, n, w⟩).toNat]) ++ (be n.toNat w.toNat ++ r) by simp, show a.length + 1 = (a ++ [UInt8.ofNat (32 * k + hdInfo ⟨k, n, w⟩).toNat]).length by simp, List.drop_left, hwm]
      have := List.take_left (l₁ := be n.toNat m) (l₂ := r)
      rwa [be_length] at this
    unfold wideH
    rw [hd, val_be _ _ hlt, if_pos (by simp [hwm]; omega), if_pos (by omega), hkk, hnn, hwm, ← hm]
    congr 1
    omega
  rcases hc.2.2 with g | g | g | g | g | g
  · have hi : hdInfo ⟨k, n, w⟩ = n := by unfold hdInfo; simp only; rw [if_neg (by omega), if_neg (by omega), if_neg (by omega), if_neg (by omega), if_neg (by omega)]
    rw [hi]
    unfold infoH
    rw [if_pos (by omega), hkk, hnn, g.1]; rfl
  · have hi : hdInfo ⟨k, n, w⟩ = 24 := by unfold hdInfo; simp only; rw [if_neg (by omega), if_pos (by omega)]
    have := wide 1 g.1 (by omega)
    rw [hi] at this ⊢
    exact this
  · have hi : hdInfo ⟨k, n, w⟩ = 25 := by unfold hdInfo; simp only; rw [if_neg (by omega), if_neg (by omega), if_pos (by omega)]
    have := wide 2 g.1 (by omega)
    rw [hi] at this ⊢
    exact this
  · have hi : hdInfo ⟨k, n, w⟩ = 26 := by unfold hdInfo; simp only; rw [if_neg (by omega), if_neg (by omega), if_neg (by omega), if_pos (by omega)]
    have := wide 4 g.1 (by omega)
    rw [hi] at this ⊢
    exact this
  · have hi : hdInfo ⟨k, n, w⟩ = 27 := by unfold hdInfo; simp only; rw [if_neg (by omega), if_neg (by omega), if_neg (by omega), if_neg (by omega), if_pos (by omega)]
    have := wide 8 g (by omega)
    rw [hi] at this ⊢
    exact this
  · have hi : hdInfo ⟨k, n, w⟩ = 31 := by unfold hdInfo; simp only; rw [if_pos (by omega)]
    rw [hi]
    unfold infoH
    rw [if_neg (by decide), if_pos (by decide), if_neg (by omega), hkk, g.1, g.2.1]; rfl
theorem wide_ok {l : List UInt8} {i k w : Nat} (hk : k ≤ 7) (hw : w = 1 ∨ w = 2 ∨ w = 4 ∨ w = 8) (h : (wideH l i k w).code = 0) :
    hdOk (wideH l i k w).h ∧ (wideH l i k w).next = i + 1 + w ∧ (wideH l i k w).next ≤ l.length ∧ (wideH l i k w).h.k = k ∧ (wideH l i k w).h.w = w ∧ be (wideH l i k w).h.n.toNat w = (l.drop (i + 1)).take w := by
  unfold wideH at h ⊢
  by_cases h1 : i + 1 + w ≤ l.length
  · rw [if_pos h1] at h ⊢
    by_cases h2 : val ((l.drop (i + 1)).take w) ≤ 1000000000000000
    · rw [if_pos h2] at h ⊢
      have hlen : ((l.drop (i + 1)).take w).length = w := by simp; omega
      have hlt := val_lt ((l.drop (i + 1)).take w)
      rw [hlen] at hlt
      have hb := be_val ((l.drop (i + 1)).take w)
      rw [hlen] at hb
      refine ⟨hd_of (by omega) (by omega) ?_, rfl, h1, rfl, rfl, by simpa using hb⟩
      rcases hw with rfl | rfl | rfl | rfl <;> simp at hlt ⊢ <;> omega
    · rw [if_neg h2] at h; cases h
  · rw [if_neg h1] at h; cases h
/-- what is read is a right head, and its bytes are those that were read -/
theorem get_ok {l : List UInt8} {i : Nat} (h : (getH l i).code = 0) : hdOk (getH l i).h ∧ i < (getH l i).next ∧ (getH l i).next ≤ l.length ∧ hdB (getH l i).h = (l.drop i).take ((getH l i).next - i) := by
  unfold getH at h ⊢
  cases hc : l[i]? with
  | none => rw [hc] at h; cases h
  | some c =>
    rw [hc] at h
    simp only at h ⊢
    have hi : i < l.length := (List.getElem?_eq_some_iff.1 hc).1
    have hci : l[i] = c := (List.getElem?_eq_some_iff.1 hc).2
    have h256 := UInt8.toNat_lt c
    have one : ∀ (hd : Hd), hdOk hd → hd.w ≤ 0 → 32 * hd.k + hdInfo hd = c.toNat → hdOk hd ∧ i < i + 1 ∧ i + 1 ≤ l.length ∧ hdB hd = (l.drop i).take (i + 1 - i) := fun hd o hw hs => by
      refine ⟨o, by omega, hi, ?_⟩
      rw [hdB_yes o, hs, show hd.w.toNat = 0 by omega, show i + 1 - i = 1 by omega, List.drop_eq_getElem_cons hi, hci]
      simp [be]
    unfold infoH at h ⊢
    by_cases h24 : c.toNat % 32 < 24
    · rw [if_pos h24] at h ⊢
      exact one _ (hd_of (by omega) (by omega) (.inl ⟨rfl, by omega⟩)) (by simp) (by
        unfold hdInfo; simp only
        rw [if_neg (by omega), if_neg (by omega), if_neg (by omega), if_neg (by omega), if_neg (by omega)]; omega)
    rw [if_neg h24] at h ⊢
    by_cases h31 : c.toNat % 32 = 31
    · rw [if_pos h31] at h ⊢
      by_cases hk : c.toNat / 32 = 0 ∨ c.toNat / 32 = 1 ∨ c.toNat / 32 = 6
      · rw [if_pos hk] at h; cases h
      · rw [if_neg hk] at h ⊢
        exact one _ (hd_of (by omega) (by omega) (.inr (.inr (.inr (.inr (.inr ⟨rfl, rfl, by omega, by omega, by omega⟩)))))) (by simp) (by
          unfold hdInfo; simp only
          rw [if_pos trivial]; omega)
    rw [if_neg h31] at h ⊢
    by_cases h27 : 27 < c.toNat % 32
    · rw [if_pos h27] at h; cases h
    rw [if_neg h27] at h ⊢
    have hw : 2 ^ (c.toNat % 32 - 24) = 1 ∨ 2 ^ (c.toNat % 32 - 24) = 2 ∨ 2 ^ (c.toNat % 32 - 24) = 4 ∨ 2 ^ (c.toNat % 32 - 24) = 8 := by
      have : c.toNat % 32 = 24 ∨ c.toNat % 32 = 25 ∨ c.toNat % 32 = 26 ∨ c.toNat % 32 = 27 := by omega
      rcases this with e | e | e | e <;> rw [e] <;> decide
    obtain ⟨q1, q2, q3, q4, q5, q6⟩ := wide_ok (by omega) hw h
    have hinf : 32 * (wideH l i (c.toNat / 32) (2 ^ (c.toNat % 32 - 24))).h.k + hdInfo (wideH l i (c.toNat / 32) (2 ^ (c.toNat % 32 - 24))).h = c.toNat := by
      unfold hdInfo
      rw [q4, q5]
      have : c.toNat % 32 = 24 ∨ c.toNat % 32 = 25 ∨ c.toNat % 32 = 26 ∨ c.toNat % 32 = 27 := by omega
      rcases this with e | e | e | e <;> rw [e] <;> simp <;> omega
    refine ⟨q1, by omega, q3, ?_⟩
    rw [hdB_yes q1, hinf, q5, show ((2 ^ (c.toNat % 32 - 24) : Nat) : Int).toNat = 2 ^ (c.toNat % 32 - 24) by omega, q6, q2, List.drop_eq_getElem_cons hi, hci, show i + 1 + 2 ^ (c.toNat % 32 - 24) - i = 2 ^ (c.toNat % 32 - 24) + 1 by omega, List.take_succ_cons]
    simp
/-- the shortest head of an argument -/
theorem for_ok {h : Hd} (o : hdOk h) (hw : 0 ≤ h.w) : hdOk (hdFor h.k h.n) ∧ (hdB (hdFor h.k h.n)).length ≤ (hdB h).length := by
  have hc := hdOk_cases o
  obtain ⟨k, n, w⟩ := h
  simp only at hc hw ⊢
  have ok : hdOk ⟨k, n, if n > 23 then widR n else 0⟩ := by
    refine hd_of hc.1 hc.2.1 ?_
    by_cases hn : n > 23
    · rw [if_pos hn]
      unfold widR
      rw [if_neg (by omega)]
      split
      · exact .inr (.inl ⟨rfl, by omega⟩)
      · split
        · exact .inr (.inr (.inl ⟨rfl, by omega⟩))
        · split
          · exact .inr (.inr (.inr (.inl ⟨rfl, by omega⟩)))
          · exact .inr (.inr (.inr (.inr (.inl rfl))))
    · rw [if_neg hn]; exact .inl ⟨rfl, by omega⟩
  unfold hdFor
  rw [if_pos ok]
  refine ⟨ok, ?_⟩
  rw [hdB_len ok, hdB_len o]
  simp only
  have : (if n > 23 then widR n else 0) ≤ w := by
    by_cases hn : n > 23
    · rw [if_pos hn]
      unfold widR
      rw [if_neg (by omega)]
      split
      · omega
      · split
        · omega
        · split <;> omega
    · rw [if_neg hn]; exact hw
  omega
end Go.Proofs.YtilgncebhgplaaaDoor
/- What Digits of the program and Digits of the model return: the number of decimal digits, for every integer. -/
namespace Go.Proofs.YtilgncebhgplaaaDoor
open Go.RowKit
def digN (n : Nat) : Nat := if n = 0 then 0 else digN (n / 10) + 1
termination_by n
decreasing_by omega
theorem digN_zero : digN 0 = 0 := by rw [digN]; rfl
theorem digN_step (n : Nat) (h : n ≠ 0) : digN n = digN (n / 10) + 1 := by rw [digN, if_neg h]
theorem digN_le (n : Nat) : digN n ≤ n := by
  induction n using Nat.strongRecOn with
  | _ n ih =>
    by_cases h : n = 0
    · subst h; rw [digN_zero]; exact Nat.le_refl _
    · rw [digN_step n h]; have := ih (n / 10) (by omega); omega
def digV (n : Int) : Nat := 1 + digN (n.natAbs / 10)
theorem tdiv10 (x : Int) : (x.tdiv 10).natAbs = x.natAbs / 10 := by rw [Int.natAbs_tdiv]; rfl

theorem digits_spec (n : Int) (w : World) (h0 : -9223372036854775808 ≤ n) (h1 : n ≤ 9223372036854775807) : Calls Tryd.prog 70 #[.int .i64 n] w fun e w' => e = .returned (.int .i64 (digV n)) ∧ w = w' := by
  have t0 := tdiv10 n
  have t1 : -1000000000000000000 ≤ n.tdiv 10 := by omega
  have t2 : n.tdiv 10 ≤ 1000000000000000000 := by omega
  have hd := digN_le (n.natAbs / 10)
  have HD : Hid (digN (n.natAbs / 10) ≤ 1000000000000000000) := by show digN _ ≤ _; omega
  have T0 := Lib.hid t0
  unfold digV
  clear t0 hd
  clear h0 h1
  go_enter Tryd.func70, Tryd.ntmps70
  go_wp2
  go_loop [3, 4] (fun k x => ∃ (x' : Int) (k' : Nat), x = .int .i64 x' ∧ k = .int .i64 k' ∧ k' + digN x'.natAbs = 1 + digN (n.natAbs / 10) ∧ -1000000000000000000 ≤ x' ∧ x' ≤ 1000000000000000000) (fun _ x => (intOf x).natAbs)
  case atStart => exact ⟨_, 1, rfl, rfl, by rw [T0.out], t1, t2⟩
  case round =>
    obtain ⟨x', k', rfl, rfl, hk, b1, b2⟩ := hrel
    by_cases hz : x' = 0
    · subst hz
      go_wp2
      go_ret
      rw [show (0 : Int).natAbs = 0 from rfl, digN_zero] at hk
      exact ⟨ret_int (by omega), rfl⟩
    · have hs := digN_step x'.natAbs (by omega)
      have hb : (k' : Int) ≤ 2000000000000000000 := by have := HD.out; omega
      have hn : (x' != 0) = true := by simpa using hz
      have u0 := tdiv10 x'
      have u1 : -1000000000000000000 ≤ x'.tdiv 10 := by omega
      have u2 : x'.tdiv 10 ≤ 1000000000000000000 := by omega
      have u3 : (x'.tdiv 10).natAbs < x'.natAbs := by omega
      have HK := Lib.hid hk
      have HS := Lib.hid hs
      have U0 := Lib.hid u0
      clear hk hs u0
      go_wp2
      go_round
      case rel => exact ⟨_, k' + 1, rfl, by go_num, by rw [U0.out]; have := HK.out; have := HS.out; omega, u1, u2⟩
      case measure => exact u3
theorem digits_impl (n : Int) (w : World) (h0 : -9223372036854775808 ≤ n) (h1 : n ≤ 9223372036854775807) : Calls Tryd.prog 80 #[.int .i64 n] w fun e w' => e = .returned (.int .i64 (digV n)) ∧ w = w' := by
  have t0 := tdiv10 n
  have t1 : -1000000000000000000 ≤ n.tdiv 10 := by omega
  have t2 : n.tdiv 10 ≤ 1000000000000000000 := by omega
  have hd := digN_le (n.natAbs / 10)
  have HD : Hid (digN (n.natAbs / 10) ≤ 1000000000000000000) := by show digN _ ≤ _; omega
  have T0 := Lib.hid t0
  unfold digV
  clear t0 hd
  clear h0 h1
  go_enter Tryd.func80, Tryd.ntmps80
  go_wp2
  go_loop [0, 3] (fun x k => ∃ (x' : Int) (k' : Nat), x = .int .i64 x' ∧ k = .int .i64 k' ∧ k' + digN x'.natAbs = 1 + digN (n.natAbs / 10) ∧ -1000000000000000000 ≤ x' ∧ x' ≤ 1000000000000000000) (fun x _ => (intOf x).natAbs)
  case atStart => exact ⟨_, 1, rfl, rfl, by rw [T0.out], t1, t2⟩
  case round =>
    obtain ⟨x', k', rfl, rfl, hk, b1, b2⟩ := hrel
    by_cases hz : x' = 0
    · subst hz
      go_wp2
      go_ret
      rw [show (0 : Int).natAbs = 0 from rfl, digN_zero] at hk
      exact ⟨ret_int (by omega), rfl⟩
    · have hs := digN_step x'.natAbs (by omega)
      have hb : (k' : Int) ≤ 2000000000000000000 := by have := HD.out; omega
      have hn : (x' != 0) = true := by simpa using hz
      have u0 := tdiv10 x'
      have u1 : -1000000000000000000 ≤ x'.tdiv 10 := by omega
      have u2 : x'.tdiv 10 ≤ 1000000000000000000 := by omega
      have u3 : (x'.tdiv 10).natAbs < x'.natAbs := by omega
      have HK := Lib.hid hk
      have HS := Lib.hid hs
      have U0 := Lib.hid u0
      clear hk hs u0
      go_wp2
      go_round
      case rel => exact ⟨_, k' + 1, rfl, by go_num, by rw [U0.out]; have := HK.out; have := HS.out; omega, u1, u2⟩
      case measure => exact u3
end Go.Proofs.YtilgncebhgplaaaDoor
