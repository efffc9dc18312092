import Derived.Test.YtnikcgmbkmbloaaG16
import Derived.Lib.MapLaws
import Derived.Lib.RuneCount
import Derived.Test.YtnikcgmbkmbloaaG0
import Derived.Test.YtnikcgmbkmbloaaRows
import Derived.WalkKit
import Derived.Laws.IdiomStrings
import Derived.Laws.BytesArg
import Derived.Laws.RangeString
import Derived.Laws.RangeAny
import Derived.Lib.OthersKept
import Derived.Lib.Hide
/- Strings as characters: plain facts over the model's own decoder. No run in this text. -/
namespace Go.Proofs.Ytnikcgmbkmbloaa
theorem dec_drop (l : List UInt8) (i : Nat) : dec l i = Lib.decodeL (l.drop i) := by
  have e : Lib.decodeL (l.drop i) = dec (l.drop i) 0 := rfl
  have hb : ∀ j, byteN (l.drop i) j = byteN l (i + j) := by
    intro j
    by_cases h : i + j < l.length
    · rw [byteN_at _ _ h, byteN_at _ _ (by simp; omega), List.getElem_drop]
    · have g1 : ∀ (m : List UInt8) (k : Nat), ¬ k < m.length → byteN m k = 0 := by
        intro m k hk
        have : (ByteArray.mk m.toArray).get! k = 0 := getElem!_neg m.toArray k (by simpa using hk)
        unfold byteN; rw [this]; rfl
      rw [g1 _ _ h, g1 _ _ (by simp; omega)]
  rw [e, dec_eq, dec_eq, hb, hb, hb, hb]
  simp only [List.length_drop, Nat.zero_add, Nat.sub_zero, Nat.add_zero]
theorem decL_pos (l : List UInt8) (h : l ≠ []) : 1 ≤ (Lib.decodeL l).2 ∧ (Lib.decodeL l).2 ≤ l.length := by
  refine ⟨?_, Lib.decodeL_le l h⟩
  have : 0 < l.length := List.length_pos_iff.2 h
  exact Lib.decode_width_pos ⟨l.toArray⟩ 0 (by simpa [ByteArray.size] using this)
def runesF : Nat → List UInt8 → Option (List Int)
  | _, [] => some []
  | 0, _ :: _ => none
  | n + 1, x :: l => if Lib.decodeL (x :: l) = (65533, 1) then none else (runesF n ((x :: l).drop (Lib.decodeL (x :: l)).2)).map (fun r => ((Lib.decodeL (x :: l)).1 : Int) :: r)
def runes (l : List UInt8) : Option (List Int) := runesF l.length l
theorem runesF_fuel : ∀ (n m : Nat) (l : List UInt8), l.length ≤ n → l.length ≤ m → runesF n l = runesF m l
  | _, _, [], _, _ => by simp [runesF]
  | 0, _, _ :: _, h, _ => by simp at h
  | _, 0, _ :: _, _, h => by simp at h
  | n + 1, m + 1, x :: l, h, k => by
    have hp := decL_pos (x :: l) (by simp)
    simp only [runesF]
    rw [runesF_fuel n m]
    · simp at h ⊢; omega
    · simp at k ⊢; omega
theorem runes_nil : runes [] = some [] := rfl
theorem runes_step (l : List UInt8) (h : l ≠ []) : runes l = if Lib.decodeL l = (65533, 1) then none else (runes (l.drop (Lib.decodeL l).2)).map (fun r => ((Lib.decodeL l).1 : Int) :: r) := by
  cases l with
  | nil => exact absurd rfl h
  | cons x l =>
    have hp := decL_pos (x :: l) (by simp)
    show runesF (l.length + 1) (x :: l) = _
    simp only [runesF]
    rw [show runes (List.drop (Lib.decodeL (x :: l)).2 (x :: l)) = runesF l.length (List.drop (Lib.decodeL (x :: l)).2 (x :: l)) from runesF_fuel _ _ _ (Nat.le_refl _) (by simp; omega)]
def runesAt (l : List UInt8) (i : Nat) : Option (List Int) := runes (l.drop i)
theorem runesAt_end {l : List UInt8} {i : Nat} (h : ¬ i < l.length) : runesAt l i = some [] := by
  unfold runesAt; rw [List.drop_eq_nil_of_le (by omega)]; rfl
theorem dec_pos {l : List UInt8} {i : Nat} (h : i < l.length) : 1 ≤ (dec l i).2 ∧ i + (dec l i).2 ≤ l.length := by
  rw [dec_drop]
  have := decL_pos (l.drop i) (by intro e; have := congrArg List.length e; simp at this; omega)
  rw [List.length_drop] at this
  omega
theorem runesAt_bad {l : List UInt8} {i : Nat} (h : i < l.length) (hb : dec l i = (65533, 1)) : runesAt l i = none := by
  unfold runesAt
  rw [dec_drop] at hb
  rw [runes_step _ (by intro e; have := congrArg List.length e; simp at this; omega), if_pos hb]
theorem runesAt_good {l : List UInt8} {i : Nat} (h : i < l.length) (hb : dec l i ≠ (65533, 1)) : runesAt l i = (runesAt l (i + (dec l i).2)).map (fun r => ((dec l i).1 : Int) :: r) := by
  unfold runesAt
  rw [dec_drop] at hb
  rw [runes_step _ (by intro e; have := congrArg List.length e; simp at this; omega), if_neg hb, List.drop_drop, ← dec_drop]
theorem decL_ok (l : List UInt8) (h : l ≠ []) : okR ((Lib.decodeL l).1 : Int) := by
  have e : Lib.decodeL l = dec l 0 := rfl
  have b0 := byteN_lt l 0
  have b1 := byteN_lt l 1
  have b2 := byteN_lt l 2
  have b3 := byteN_lt l 3
  rw [e, dec_eq]
  apply okR_mk
  rcases Lib.decodeN_shape (l.length - 0) (byteN l 0) (byteN l (0 + 1)) (byteN l (0 + 2)) (byteN l (0 + 3)) with ⟨h1, h2⟩ | ⟨h1, h3, h4, h5, h2⟩ | ⟨h1, h3, h4, h5, h6, h7, h2⟩ | ⟨h1, h3, h4, h5, h6, h7, h8, h2⟩ | h2
  all_goals rw [h2]; simp only; omega
/-- the bytes of characters one behind the other -/
def flat (rs : List Int) : List UInt8 := rs.flatMap encR
theorem flat_runes : ∀ (n : Nat) (l : List UInt8) (rs : List Int), l.length ≤ n → runes l = some rs → flat rs = l
  | 0, l, rs, h, k => by
    obtain rfl : l = [] := List.eq_nil_of_length_eq_zero (by omega)
    rw [runes_nil] at k
    obtain rfl : [] = rs := Option.some.inj k
    rfl
  | n + 1, l, rs, h, k => by
    by_cases hl : l = []
    · subst hl
      rw [runes_nil] at k
      obtain rfl : [] = rs := Option.some.inj k
      rfl
    · rw [runes_step l hl] at k
      split at k
      · cases k
      · rename_i hb
        rw [Option.map_eq_some_iff] at k
        obtain ⟨r, hr, rfl⟩ := k
        have hp := decL_pos l hl
        have ih := flat_runes n _ r (by simp; omega) hr
        show encR _ ++ flat r = l
        rw [ih]
        unfold encR
        rw [if_pos (decL_ok l hl), Lib.encode_decode l hl (fun g => hb (Prod.ext g.1 g.2)), List.take_append_drop]
theorem runes_len : ∀ (n : Nat) (l : List UInt8) (rs : List Int), l.length ≤ n → runes l = some rs → rs.length ≤ l.length
  | 0, l, rs, h, k => by
    obtain rfl : l = [] := List.eq_nil_of_length_eq_zero (by omega)
    rw [runes_nil] at k
    obtain rfl : [] = rs := Option.some.inj k
    exact Nat.zero_le _
  | n + 1, l, rs, h, k => by
    by_cases hl : l = []
    · subst hl
      rw [runes_nil] at k
      obtain rfl : [] = rs := Option.some.inj k
      exact Nat.zero_le _
    · rw [runes_step l hl] at k
      split at k
      · cases k
      · rw [Option.map_eq_some_iff] at k
        obtain ⟨r, hr, rfl⟩ := k
        have hp := decL_pos l hl
        have ih := runes_len n _ r (by simp; omega) hr
        simp at ih ⊢
        omega
theorem runesD_len (l : List UInt8) : ((runes l).getD []).length ≤ l.length := by
  cases h : runes l with
  | none => exact Nat.zero_le _
  | some rs => exact runes_len _ l rs (Nat.le_refl _) h
theorem map8 (z : Int) (n : Nat) (h : z = n) (k : n < 256) : (z.toNat.toUInt8).toNat = n := by
  subst h
  rw [Int.toNat_natCast]
  exact (UInt8.toNat_ofNat' (n := n)).trans (Nat.mod_eq_of_lt k)
theorem byte_cons0 (x : UInt8) (l : List UInt8) : byteN (x :: l) 0 = x.toNat := byteN_at _ _ (by simp)
theorem byte_cons1 (x y : UInt8) (l : List UInt8) : byteN (x :: y :: l) 1 = y.toNat := byteN_at _ _ (by simp)
theorem byte_cons2 (x y z : UInt8) (l : List UInt8) : byteN (x :: y :: z :: l) 2 = z.toNat := byteN_at _ _ (by simp)
theorem byte_cons3 (x y z u : UInt8) (l : List UInt8) : byteN (x :: y :: z :: u :: l) 3 = u.toNat := byteN_at _ _ (by simp)
set_option maxRecDepth 100000 in
theorem decode_enc (n : Nat) (rest : List UInt8) (h : okR n) : Lib.decodeL (encR n ++ rest) = (n, wideR n) := by
  have e : ∀ l, Lib.decodeL l = dec l 0 := fun _ => rfl
  rw [e, dec_eq]
  simp only [Nat.zero_add, Nat.sub_zero]
  have en : encR n = (Lib.encodeRuneZ n).map fun x => x.toNat.toUInt8 := by unfold encR; rw [if_pos h]; rfl
  have hok := okR_un h
  rcases wideR_cases n with ⟨h0, h1, hw⟩ | ⟨h0, h1, hw⟩ | ⟨h0, h1, h2, hw⟩ | ⟨h0, h1, hw⟩ | ⟨h0, hw⟩
  · rw [hw, en, Lib.encodeRuneZ_one (by omega) (by omega)]
    simp only [List.map_cons, List.map_nil, List.cons_append, List.nil_append]
    rw [byte_cons0, map8 _ n rfl (by omega), decN_one (by omega)]
  · rw [hw, en, Lib.encodeRuneZ_two (by omega) (by omega)]
    simp only [List.map_cons, List.map_nil, List.cons_append, List.nil_append]
    rw [byte_cons0, byte_cons1, map8 (192 + (n : Int) / 64) (192 + n / 64) (by omega) (by omega), map8 (128 + (n : Int) % 64) (128 + n % 64) (by omega) (by omega)]
    rcases decN_two (n := (((192 + (n : Int) / 64).toNat.toUInt8) :: ((128 + (n : Int) % 64).toNat.toUInt8) :: rest).length) (b0 := 192 + n / 64) (b1 := 128 + n % 64) (b2 := byteN (((192 + (n : Int) / 64).toNat.toUInt8) :: ((128 + (n : Int) % 64).toNat.toUInt8) :: rest) 2) (b3 := byteN (((192 + (n : Int) / 64).toNat.toUInt8) :: ((128 + (n : Int) % 64).toNat.toUInt8) :: rest) 3) (by omega) (by omega) with ⟨_, _, _, _, g⟩ | ⟨g, _⟩
    · rw [g]; apply Prod.ext <;> simp only <;> omega
    · exact absurd ⟨by simp, by omega, by omega, by omega⟩ g
  · rw [hw, en, Lib.encodeRuneZ_three (by omega)]
    simp only [List.map_cons, List.map_nil, List.cons_append, List.nil_append]
    rw [byte_cons0, byte_cons1, byte_cons2, map8 (224 + (n : Int) / 4096) (224 + n / 4096) (by omega) (by omega), map8 (128 + (n : Int) / 64 % 64) (128 + n / 64 % 64) (by omega) (by omega), map8 (128 + (n : Int) % 64) (128 + n % 64) (by omega) (by omega)]
    generalize hL : (((224 + (n : Int) / 4096).toNat.toUInt8) :: ((128 + (n : Int) / 64 % 64).toNat.toUInt8) :: ((128 + (n : Int) % 64).toNat.toUInt8) :: rest) = L
    have hLL : 3 ≤ L.length := by rw [← hL]; simp
    rcases decN_three (n := L.length) (b0 := 224 + n / 4096) (b1 := 128 + n / 64 % 64) (b2 := 128 + n % 64) (b3 := byteN L 3) (by omega) (by omega) (by omega) with ⟨_, _, _, _, _, _, g⟩ | ⟨g, _⟩
    · rw [g]; apply Prod.ext <;> simp only <;> omega
    · exact absurd ⟨hLL, by omega, by omega, by omega, by omega, by omega⟩ g
  · rw [hw, en, Lib.encodeRuneZ_four (by omega) (by omega)]
    simp only [List.map_cons, List.map_nil, List.cons_append, List.nil_append]
    rw [byte_cons0, byte_cons1, byte_cons2, byte_cons3, map8 (240 + (n : Int) / 262144) (240 + n / 262144) (by omega) (by omega), map8 (128 + (n : Int) / 4096 % 64) (128 + n / 4096 % 64) (by omega) (by omega), map8 (128 + (n : Int) / 64 % 64) (128 + n / 64 % 64) (by omega) (by omega), map8 (128 + (n : Int) % 64) (128 + n % 64) (by omega) (by omega)]
    generalize hL : (((240 + (n : Int) / 262144).toNat.toUInt8) :: ((128 + (n : Int) / 4096 % 64).toNat.toUInt8) :: ((128 + (n : Int) / 64 % 64).toNat.toUInt8) :: ((128 + (n : Int) % 64).toNat.toUInt8) :: rest) = L
    have hLL : 4 ≤ L.length := by rw [← hL]; simp
    rcases decN_four (n := L.length) (b0 := 240 + n / 262144) (b1 := 128 + n / 4096 % 64) (b2 := 128 + n / 64 % 64) (b3 := 128 + n % 64) (by omega) (by omega) (by omega) (by omega) with ⟨_, _, _, _, _, _, _, _, g⟩ | ⟨g, _⟩
    · rw [g]; apply Prod.ext <;> simp only <;> omega
    · exact absurd ⟨hLL, by omega, by omega, by omega, by omega, by omega, by omega, by omega⟩ g
  · exact absurd h h0
theorem runes_flat : ∀ (rs : List Int), runes (flat rs) = some (rs.filter fun n => decide (okR n))
  | [] => rfl
  | n :: rs => by
    have ih := runes_flat rs
    show runes (encR n ++ flat rs) = _
    by_cases h : okR n
    · have hn := okR_un h
      obtain ⟨m, rfl⟩ : ∃ m : Nat, n = m := ⟨n.toNat, by omega⟩
      have hd := decode_enc m (flat rs) h
      have hlen := encR_len m
      have hw : wideR m ≠ 0 := by rcases wideR_cases m with h' | h' | h' | h' | ⟨h', _⟩ <;> first | omega | exact absurd h h'
      have hne : encR m ++ flat rs ≠ [] := by
        intro g; have := congrArg List.length g; rw [List.length_append, hlen] at this; simp only [List.length_nil] at this; omega
      have hbad : ¬ ((m, wideR m) = (65533, 1)) := by
        intro g
        rw [Prod.mk.injEq] at g
        obtain ⟨g1, g2⟩ := g
        rcases wideR_cases m with h' | h' | h' | h' | ⟨h', _⟩ <;> first | omega | exact absurd h h'
      rw [runes_step _ hne, hd, if_neg hbad]
      simp only
      rw [← hlen, List.drop_left, ih]
      simp [h]
    · rw [show encR n = [] from enc_bad' h, List.nil_append, ih]
      simp [h]
end Go.Proofs.Ytnikcgmbkmbloaa
/- The character at a place of given bytes: the model's GetRune, for every place and all bytes. -/
namespace Go.Proofs.Ytnikcgmbkmbloaa
open Go.RowKit
theorem reads_at {w : World} {v : Value} {l : List UInt8} {i : Nat} (h : Reads w v (bv l)) (hi : i < l.length) : ∃ b o cap, v = .slice (some ⟨b, o, none⟩) l.length cap ∧ ∀ j, j < l.length → w.cell? ⟨b, o + j, none⟩ = some (.int .u8 (byteN l j)) := by
  obtain ⟨a, cap, rfl, hc⟩ := reads_byte h
  obtain ⟨b, o, rfl, _⟩ := hc i hi
  refine ⟨b, o, cap, rfl, fun j hj => ?_⟩
  obtain ⟨b', o', he, hcl⟩ := hc j hj
  simp only [Option.some.injEq, Addr.mk.injEq, and_true] at he
  obtain ⟨rfl, rfl⟩ := he
  rw [byteN_at l j hj]; exact hcl
theorem tup_eq {a b c d : Int} (h : a = b) (k : c = d) : Value.tuple #[.int .i64 a, .int .i64 c, .bool true] = .tuple #[.int .i64 b, .int .i64 d, .bool true] := by rw [h, k]
theorem get_spec_low (w : World) (v : Value) (l : List UInt8) (a : Int) (h : Reads w v (bv l)) (ha : a < 0) :
    Calls Try.prog 144 #[v, .int .i64 a] w fun e w' => e = .returned (getV l a) ∧ w = w' := by
  obtain ⟨_, cap, rfl, hc⟩ := reads_byte h
  clear hc h
  have hb := Lib.hid (getV_out (l := l) (a := a) (by omega))
  go_enter Try.func144, Try.ntmps144
  go_wp2
  go_ret3
  exact ⟨ret_bad hb.out, rfl⟩
theorem get_spec_high (w : World) (v : Value) (l : List UInt8) (a : Int) (h : Reads w v (bv l)) (ha : 0 ≤ a) (hl : (l.length : Int) ≤ a) :
    Calls Try.prog 144 #[v, .int .i64 a] w fun e w' => e = .returned (getV l a) ∧ w = w' := by
  obtain ⟨_, cap, rfl, hc⟩ := reads_byte h
  clear hc h
  have hb := Lib.hid (getV_out (l := l) (a := a) (by omega))
  have ha' : ¬ a < 0 := by omega
  go_enter Try.func144, Try.ntmps144
  go_wp2
  go_ret3
  exact ⟨ret_bad hb.out, rfl⟩
theorem get_spec_one (w : World) (b o len cap at_ : Nat) (x : Int) (hat : at_ < len) (hlen : len ≤ 1099511627776) (hx : w.cell? ⟨b, o + at_, none⟩ = some (.int .u8 x)) (hx0 : 0 ≤ x) (hx1 : x < 128) :
    Calls Try.prog 144 #[.slice (some ⟨b, o, none⟩) len cap, .int .i64 at_] w fun e w' => e = .returned (.tuple #[.int .i64 x, .int .i64 (at_ + 1), .bool true]) ∧ w = w' := by
  have cw := wide_spec x w
  rw [wideR_one hx0 hx1] at cw
  have ca : ¬ ((at_ : Int) < 0) := by omega
  have cl : ¬ ((len : Int) ≤ (at_ : Int)) := by omega
  have ca2 : (at_ : Int) ≤ 1099511627776 := by omega
  have cb : (len : Int) ≤ 1099511627776 := by omega
  have hs : ¬ ((len : Int) - at_ < 1) := by omega
  go_enter Try.func144, Try.ntmps144
  go_wp2
  go_loop [9, 10] (fun n i => i = .int .i64 1 ∧ n = .int .i64 x) (fun _ i => 0)
  case atStart => exact ⟨rfl, rfl⟩
  case round =>
    obtain ⟨rfl, rfl⟩ := hrel
    go_wp2_with (go_at_call 168; refine cw.mono ?_; rintro e w' ⟨rfl, rfl⟩)
    go_ret3
    exact ⟨rfl, rfl⟩
theorem get_spec_none (w : World) (b o len cap at_ : Nat) (x : Int) (hat : at_ < len) (hlen : len ≤ 1099511627776) (hx : w.cell? ⟨b, o + at_, none⟩ = some (.int .u8 x)) (hx0 : (128 ≤ x ∧ x < 192) ∨ 248 ≤ x) (hx1 : x ≤ 255) :
    Calls Try.prog 144 #[.slice (some ⟨b, o, none⟩) len cap, .int .i64 at_] w fun e w' => e = .returned badG ∧ w = w' := by
  have i1 := in_no x 192 223 w (by omega)
  have i2 := in_no x 224 239 w (by omega)
  have i3 := in_no x 240 247 w (by omega)
  have ca : ¬ ((at_ : Int) < 0) := by omega
  have cl : ¬ ((len : Int) ≤ (at_ : Int)) := by omega
  have c128 : ¬ x < 128 := by omega
  clear hx0
  go_enter Try.func144, Try.ntmps144
  go_wp2_with (go_at_call 108; (first | (with_reducible refine i1.mono ?_) | (with_reducible refine i2.mono ?_) | (with_reducible refine i3.mono ?_)); rintro e w' ⟨rfl, rfl⟩)
  go_ret3
  exact ⟨ret_bad rfl, rfl⟩
theorem get_spec_any (w : World) (v : Value) (l : List UInt8) (a : Int) (h : Reads w v (bv l)) (hl : l.length ≤ 1099511627776) :
    Calls Try.prog 144 #[v, .int .i64 a] w fun e w' => e = .returned (getV l a) ∧ w = w' := by
  by_cases h0 : a < 0
  · exact get_spec_low w v l a h h0
  by_cases h1 : (l.length : Int) ≤ a
  · exact get_spec_high w v l a h (by omega) h1
  obtain ⟨i, rfl⟩ : ∃ i : Nat, a = i := ⟨a.toNat, by omega⟩
  have hi : i < l.length := by omega
  obtain ⟨b, o, cap, rfl, hc⟩ := reads_at h hi
  have hd := dec_eq l i
  have b0 := byteN_lt l i
  have b1 := byteN_lt l (i + 1)
  have b2 := byteN_lt l (i + 2)
  have b3 := byteN_lt l (i + 3)
  have hy : ∀ j : Nat, i + j < l.length → w.cell? ⟨b, o + (i + j), none⟩ = some (.int .u8 (((fun j => (byteN l (i + j) : Int)) : Nat → Int) j)) ∧ 0 ≤ (((fun j => (byteN l (i + j) : Int)) : Nat → Int) j) ∧ (((fun j => (byteN l (i + j) : Int)) : Nat → Int) j) ≤ 255 := by
    intro j hj
    have := byteN_lt l (i + j)
    exact ⟨hc (i + j) hj, by show (0 : Int) ≤ (byteN l (i + j) : Int); omega, by show (byteN l (i + j) : Int) ≤ 255; omega⟩
  have hx := hc i hi
  by_cases c1 : byteN l i < 128
  · rw [decN_one c1] at hd
    rw [getV_good hi hd (by omega)]
    exact get_spec_one w b o _ cap i _ hi hl hx (by omega) (by omega)
  by_cases c2 : byteN l i < 192 ∨ 248 ≤ byteN l i
  · rw [decN_bad (by omega) b0] at hd
    rw [getV_bad hd]
    exact get_spec_none w b o _ cap i _ hi hl hx (by omega) (by omega)
  by_cases c3 : byteN l i ≤ 223
  · refine get_spec_2 w b o _ cap i _ _ (getV l i) hi hl hx (by omega) (by omega) (fun j _ _ => hy j) ?_ ?_ ?_
    all_goals rcases decN_two (n := l.length - i) (b2 := byteN l (i + 2)) (b3 := byteN l (i + 3)) (show 192 ≤ byteN l i ∧ byteN l i ≤ 223 by omega) b1 with ⟨g1, g2, g3, g4, g5⟩ | ⟨g1, g5⟩
    · intro hs; omega
    · intro hs; exact getV_bad (hd.trans g5)
    · intro hs j j1 j2 hb
      obtain rfl : j = 1 := by omega
      exact absurd (show 128 ≤ (byteN l (i + 1) : Int) ∧ (byteN l (i + 1) : Int) ≤ 191 by omega) hb
    · intro hs j j1 j2 hb
      exact getV_bad (hd.trans g5)
    · intro hs ho
      simp only [accB]
      refine ⟨fun hw => ?_, fun hw => ?_⟩
      · rw [getV_good hi (hd.trans g5) (by omega)]
        exact tup_eq (by first | omega | (simp only [Nat.zero_add, Nat.reduceAdd]; omega)) (by omega)
      · exact absurd (wide2.2 (by simp only [Nat.zero_add]; omega)) hw
    · intro hs ho
      have h1 : 128 ≤ (byteN l (i + 1) : Int) ∧ (byteN l (i + 1) : Int) ≤ 191 := ho 1 (by omega) (by omega)
      refine ⟨fun hw => ?_, fun hw => getV_bad (hd.trans g5)⟩
      have hw := wide2.1 hw
      simp only [accB, Nat.zero_add] at hw
      omega
  by_cases c4 : byteN l i ≤ 239
  · refine get_spec_3 w b o _ cap i _ _ (getV l i) hi hl hx (by omega) (by omega) (fun j _ _ => hy j) ?_ ?_ ?_
    all_goals rcases decN_three (n := l.length - i) (b3 := byteN l (i + 3)) (show 224 ≤ byteN l i ∧ byteN l i ≤ 239 by omega) b1 b2 with ⟨g1, g2, g3, g4, g6, g7, g5⟩ | ⟨g1, g5⟩
    · intro hs; omega
    · intro hs; exact getV_bad (hd.trans g5)
    · intro hs j j1 j2 hb
      have : j = 1 ∨ j = 2 := by omega
      rcases this with rfl | rfl
      · exact absurd (show 128 ≤ (byteN l (i + 1) : Int) ∧ (byteN l (i + 1) : Int) ≤ 191 by omega) hb
      · exact absurd (show 128 ≤ (byteN l (i + 2) : Int) ∧ (byteN l (i + 2) : Int) ≤ 191 by omega) hb
    · intro hs j j1 j2 hb
      exact getV_bad (hd.trans g5)
    · intro hs ho
      simp only [accB]
      refine ⟨fun hw => ?_, fun hw => ?_⟩
      · rw [getV_good hi (hd.trans g5) (by omega)]
        exact tup_eq (by first | omega | (simp only [Nat.zero_add, Nat.reduceAdd]; omega)) (by omega)
      · exact absurd (wide3.2 (by simp only [Nat.zero_add, Nat.reduceAdd]; omega)) hw
    · intro hs ho
      have h1 : 128 ≤ (byteN l (i + 1) : Int) ∧ (byteN l (i + 1) : Int) ≤ 191 := ho 1 (by omega) (by omega)
      have h2 : 128 ≤ (byteN l (i + 2) : Int) ∧ (byteN l (i + 2) : Int) ≤ 191 := ho 2 (by omega) (by omega)
      refine ⟨fun hw => ?_, fun hw => getV_bad (hd.trans g5)⟩
      have hw := wide3.1 hw
      simp only [accB, Nat.zero_add, Nat.reduceAdd] at hw
      omega
  · refine get_spec_4 w b o _ cap i _ _ (getV l i) hi hl hx (by omega) (by omega) (fun j _ _ => hy j) ?_ ?_ ?_
    all_goals rcases decN_four (n := l.length - i) (show 240 ≤ byteN l i ∧ byteN l i ≤ 247 by omega) b1 b2 b3 with ⟨g1, g2, g3, g4, g6, g7, g8, g9, g5⟩ | ⟨g1, g5⟩
    · intro hs; omega
    · intro hs; exact getV_bad (hd.trans g5)
    · intro hs j j1 j2 hb
      have : j = 1 ∨ j = 2 ∨ j = 3 := by omega
      rcases this with rfl | rfl | rfl
      · exact absurd (show 128 ≤ (byteN l (i + 1) : Int) ∧ (byteN l (i + 1) : Int) ≤ 191 by omega) hb
      · exact absurd (show 128 ≤ (byteN l (i + 2) : Int) ∧ (byteN l (i + 2) : Int) ≤ 191 by omega) hb
      · exact absurd (show 128 ≤ (byteN l (i + 3) : Int) ∧ (byteN l (i + 3) : Int) ≤ 191 by omega) hb
    · intro hs j j1 j2 hb
      exact getV_bad (hd.trans g5)
    · intro hs ho
      simp only [accB]
      refine ⟨fun hw => ?_, fun hw => ?_⟩
      · rw [getV_good hi (hd.trans g5) (by omega)]
        exact tup_eq (by first | omega | (simp only [Nat.zero_add, Nat.reduceAdd]; omega)) (by omega)
      · exact absurd (wide4.2 (by simp only [Nat.zero_add, Nat.reduceAdd]; omega)) hw
    · intro hs ho
      have h1 : 128 ≤ (byteN l (i + 1) : Int) ∧ (byteN l (i + 1) : Int) ≤ 191 := ho 1 (by omega) (by omega)
      have h2 : 128 ≤ (byteN l (i + 2) : Int) ∧ (byteN l (i + 2) : Int) ≤ 191 := ho 2 (by omega) (by omega)
      have h3 : 128 ≤ (byteN l (i + 3) : Int) ∧ (byteN l (i + 3) : Int) ≤ 191 := ho 3 (by omega) (by omega)
      refine ⟨fun hw => ?_, fun hw => getV_bad (hd.trans g5)⟩
      have hw := wide4.1 hw
      simp only [accB, Nat.zero_add, Nat.reduceAdd] at hw
      omega
end Go.Proofs.Ytnikcgmbkmbloaa
/- A string's bytes as a slice, and back. -/
namespace Go.Proofs.Ytnikcgmbkmbloaa
open Go.RowKit
theorem size_l (l : List UInt8) : (ByteArray.mk l.toArray).size = l.length := by simp [ByteArray.size]
theorem conv_bytes (w : World) (l : List UInt8) : ∃ cap w1, (convert 9 22 (.string ⟨l.toArray⟩)).run Try.prog w = .ok (.slice (some ⟨w.heap.size, 0, none⟩) l.length cap) w1 ∧ Reads w1 (.slice (some ⟨w.heap.size, 0, none⟩) l.length cap) (bv l) ∧ Below w.heap.size w w1 ∧ ∃ C fz, w1.heap[w.heap.size]? = some (.cells C 5 fz) := by
  have h := run_bytes_of_string (P := Try.prog) w 9 22 5 ⟨l.toArray⟩ Try.underlying9 Try.underlying22 Try.underlying5
  rw [size_l] at h
  refine ⟨_, _, h, ⟨_, _, by rw [bv_length], fun j hj => ⟨_, _, rfl, ?_⟩⟩, ?_⟩
  · have hj' : j < l.length := by simpa using hj
    rw [show (w.heap.size) = w.drew.heap.size from rfl, Nat.zero_add, World.cell?_alloc_mark, bytesRow_at _ _ _ (by simpa using hj'), bv_getElem]
    simp
  · exact ⟨((Below.refl w.heap.size w).drew).alloc (Nat.le_refl _) _, _, _, heap_alloc_new w.drew _⟩
theorem conv_bytes_cap (w : World) (l : List UInt8) (hl : l.length ≤ maxLen) : ∃ cap w1, l.length ≤ cap ∧ cap ≤ maxLen ∧ (convert 9 22 (.string ⟨l.toArray⟩)).run Try.prog w = .ok (.slice (some ⟨w.heap.size, 0, none⟩) l.length cap) w1 ∧ Reads w1 (.slice (some ⟨w.heap.size, 0, none⟩) l.length cap) (bv l) ∧ Below w.heap.size w w1 ∧ ∃ C fz, w1.heap[w.heap.size]? = some (.cells C 5 fz) := by
  have h := run_bytes_of_string (P := Try.prog) w 9 22 5 ⟨l.toArray⟩ Try.underlying9 Try.underlying22 Try.underlying5
  rw [size_l] at h
  refine ⟨_, _, grownCap_ge _ _ _ _, grownCap_le_maxLen _ _ _ _ hl, h, ⟨_, _, by rw [bv_length], fun j hj => ⟨_, _, rfl, ?_⟩⟩, ?_⟩
  · have hj' : j < l.length := by simpa using hj
    rw [show (w.heap.size) = w.drew.heap.size from rfl, Nat.zero_add, World.cell?_alloc_mark, bytesRow_at _ _ _ (by simpa using hj'), bv_getElem]
    simp
  · exact ⟨((Below.refl w.heap.size w).drew).alloc (Nat.le_refl _) _, _, _, heap_alloc_new w.drew _⟩
theorem nums_of (l : List UInt8) : strOfNums (l.map fun x => (x.toNat : Int)) = ⟨l.toArray⟩ := by
  unfold strOfNums
  congr 1
  rw [List.map_map]
  congr 1
  rw [show ((fun n : Int => UInt8.ofNat n.toNat) ∘ fun x : UInt8 => (x.toNat : Int)) = id from by funext x; simp]
  simp
theorem conv_str (w : World) (v : Value) (l : List UInt8) (h : Slc w v (bv l)) : (convert 22 9 v).run Try.prog w = .ok (.string ⟨l.toArray⟩) w := by
  rcases h with ⟨rfl, h⟩ | ⟨b, o, cap, rfl, hc⟩
  · obtain rfl : l = [] := by cases l with | nil => rfl | cons x l => simp [bv] at h
    exact run_convert_bytes_nil w _ _ Try.underlying22 Try.underlying5 0 0 _ Try.underlying9
  · rw [← nums_of, bv_length]
    refine run_convert_bytes_arg w _ _ Try.underlying22 Try.underlying5 b o l.length cap _ (by simp) (fun j hj => ?_) _ Try.underlying9
    rw [hc j _ (by rw [List.getElem?_eq_getElem (by simpa using hj), bv_getElem])]
    simp [List.getD_eq_getElem?_getD, hj]
theorem slice_cells {w : World} {b len cap : Nat} {l : List UInt8} (h : Reads w (.slice (some ⟨b, 0, none⟩) len cap) (bv l)) : len = l.length ∧ ∀ j u, (bv l)[j]? = some u → w.cell? ⟨b, 0 + j, none⟩ = some u := by
  obtain ⟨a, c, e, hc⟩ := h
  injection e with e1 e2 e3
  refine ⟨by rw [e2, bv_length], fun j u hu => ?_⟩
  obtain ⟨hj, hju⟩ := List.getElem?_eq_some_iff.1 hu
  obtain ⟨b', o, ha, hcl⟩ := hc j hj
  rw [ha] at e1
  injection e1 with e1
  injection e1 with e1 e4
  subst e1
  subst e4
  rw [hcl, hju]
end Go.Proofs.Ytnikcgmbkmbloaa
/- Whether a string is characters throughout: the program's and the model's answers, for every string. -/
namespace Go.Proofs.Ytnikcgmbkmbloaa
open Go.RowKit
theorem data_l (l : List UInt8) (i j : Nat) (h : l.length ≤ j) : ((ByteArray.mk l.toArray).extract i j).data.toList = l.drop i := by
  simp
  rw [List.take_of_length_le (by simp; omega)]
theorem pre_bad {l : List UInt8} {i : Nat} (h : i < l.length) (hb : dec l i = (65533, 1)) : Lib.hasPrefix (l.drop i) [239, 191, 189] = false := by
  cases hp : Lib.hasPrefix (l.drop i) [239, 191, 189] with
  | false => rfl
  | true =>
    obtain ⟨t, ht⟩ := List.isPrefixOf_iff_prefix.1 hp
    rw [dec_drop, ← ht, show ([239, 191, 189] : List UInt8) = encR ((65533 : Nat) : Int) from rfl, decode_enc 65533 t (okR_mk (by omega)), Prod.mk.injEq] at hb
    have := wideR_three (n := ((65533 : Nat) : Int)) (by omega) (by omega) (by omega)
    omega
theorem pre_good {l : List UInt8} {i : Nat} (h : i < l.length) (h1 : (dec l i).1 = 65533) (hb : dec l i ≠ (65533, 1)) : Lib.hasPrefix (l.drop i) [239, 191, 189] = true := by
  rw [dec_drop] at h1 hb
  have hne : l.drop i ≠ [] := by intro e; have := congrArg List.length e; simp at this; omega
  have he := Lib.encode_decode (l.drop i) hne (fun g => hb (Prod.ext g.1 g.2))
  rw [h1] at he
  refine List.isPrefixOf_iff_prefix.2 ?_
  have : ([239, 191, 189] : List UInt8) = List.take (Lib.decodeL (l.drop i)).2 (l.drop i) := by rw [← he]; rfl
  rw [this]
  exact List.take_prefix _ _
theorem textok_impl (l : List UInt8) (w : World) (hl : l.length ≤ 1099511627776) :
    Calls Try.prog 145 #[.string ⟨l.toArray⟩] w fun e w' => e = .returned (.bool (runes l).isSome) ∧ Below w.heap.size w w' := by
  have hp : ∀ (i : Nat) (v : Bool), Lib.hasPrefix (l.drop i) [239, 191, 189] = v → ∀ w, Calls Try.prog 169 #[.string ((ByteArray.mk l.toArray).extract i l.length), .string ⟨#[239, 191, 189]⟩] w fun e w' => e = .returned (.bool v) ∧ w' = w := by
    intro i v hv w
    have := Try.strings_HasPrefix ((ByteArray.mk l.toArray).extract i l.length) ⟨#[239, 191, 189]⟩ w
    rw [data_l _ _ _ (by omega), show (ByteArray.mk #[239, 191, 189]).data.toList = [239, 191, 189] from rfl, hv] at this
    exact this
  have HP := Lib.hid hp
  have hsz := size_l l
  have hszz : ((ByteArray.mk l.toArray).size : Int) = l.length := by rw [hsz]
  clear hp
  generalize hs : (ByteArray.mk l.toArray) = s at *
  have HS := Lib.hid hs
  clear hs
  go_enter Try.func145, Try.ntmps145
  go_wp2
  go_loopw [] (fun wr => ∃ pos : Nat, wr = w.iter s pos ∧ pos ≤ l.length ∧ (runesAt l pos).isSome = (runes l).isSome) (fun wr => l.length - wr.iterPos w.heap.size)
  case atStart => exact ⟨0, rfl, Nat.zero_le _, rfl⟩
  case round =>
    obtain ⟨pos, rfl, hpos, hr⟩ := hrel
    have hd : Utf8.decode s pos = dec l pos := by rw [← HS.out]; rfl
    by_cases hp : pos < l.length
    · have hpz : pos < s.size := by omega
      have hnx : ∀ ty, (Instr.next (.pointer (some ⟨w.heap.size, 0, none⟩)) true ty).run Try.prog (w.iter s pos) = _ := fun ty => run_next_any w s pos ty hpz
      rw [hd] at hnx
      have hwd := dec_pos hp
      have hle : (dec l pos).1 ≤ 2147483647 := by rw [← hd]; exact decode_le s pos
      by_cases h1 : (dec l pos).1 = 65533
      · by_cases hb : dec l pos = (65533, 1)
        · have hq := HP.out pos false (pre_bad hp hb)
          have hR := Lib.hid (runesAt_bad hp hb)
          rw [hb] at hnx
          have h1' : ((65533 : Int) == 65533) = true := by decide
          clear hb h1 hwd hle hd
          rw [hR.out] at hr
          have HR := Lib.hid hr
          clear hr
          go_wp2_with (go_at_call 169; refine (hq _).mono ?_; rintro e w' ⟨rfl, rfl⟩)
          go_ret
          exact ⟨by rw [← HR.out]; rfl, (Below.refl w.heap.size w).alloc (Nat.le_refl _) _⟩
        · have hq := HP.out pos true (pre_good hp h1 hb)
          have hR := Lib.hid (runesAt_good hp hb)
          have HD := Lib.hid h1
          generalize hk : (dec l pos).2 = k at *
          have HW := Lib.hid hwd
          have HR := Lib.hid hr
          rw [h1] at hnx
          clear hb h1 hle hd hwd hk hr
          go_wp2_with (go_at_call 169; refine (hq _).mono ?_; rintro e w' ⟨rfl, rfl⟩)
          go_roundw
          case rel =>
            refine ⟨pos + k, rfl, by have := HW.out; omega, ?_⟩
            rw [← HR.out, hR.out, Option.isSome_map]
          case measure =>
            have := HW.out
            simp
            omega
      · have hb : dec l pos ≠ (65533, 1) := fun g => h1 (by rw [g])
        have hR := Lib.hid (runesAt_good hp hb)
        have h1' : (((dec l pos).1 : Int) == 65533) = false := by simp; omega
        generalize hk : (dec l pos).2 = k at *
        generalize hr0 : (dec l pos).1 = r at *
        have HW := Lib.hid hwd
        have HR := Lib.hid hr
        clear hb h1 hle hd hwd hk hr hr0
        go_wp2
        go_roundw
        case rel =>
          refine ⟨pos + k, rfl, by have := HW.out; omega, ?_⟩
          rw [← HR.out, hR.out, Option.isSome_map]
        case measure =>
          have := HW.out
          simp
          omega
    · have hpz : ¬ pos < s.size := by omega
      have hnx : ∀ ty, (Instr.next (.pointer (some ⟨w.heap.size, 0, none⟩)) true ty).run Try.prog (w.iter s pos) = _ := fun ty => run_next_end w s pos ty hpz
      rw [runesAt_end hp] at hr
      have HR := Lib.hid hr
      clear hr hd
      go_wp2
      go_ret
      exact ⟨by rw [← HR.out]; rfl, (Below.refl w.heap.size w).alloc (Nat.le_refl _) _⟩
theorem getV_cases (l : List UInt8) (i : Nat) (h : i < l.length) : (dec l i = (65533, 1) ∧ getV l i = .tuple #[.int .i64 0, .int .i64 0, .bool false]) ∨ (dec l i ≠ (65533, 1) ∧ getV l i = .tuple #[.int .i64 (dec l i).1, .int .i64 (i + (dec l i).2), .bool true]) := by
  by_cases hb : dec l i = (65533, 1)
  · exact .inl ⟨hb, getV_bad hb⟩
  · exact .inr ⟨hb, getV_good h rfl (fun g => hb (Prod.ext g.1 g.2))⟩
theorem textok_spec (l : List UInt8) (w : World) (hl : l.length ≤ 1099511627776) :
    Calls Try.prog 111 #[.string ⟨l.toArray⟩] w fun e w' => e = .returned (.bool (runes l).isSome) ∧ Below w.heap.size w w' := by
  obtain ⟨cap, w1, hcv, hR, hb1, _⟩ := conv_bytes w l
  have cg := fun a => get_spec_any w1 _ l a hR hl
  have HG := Lib.hid cg
  clear cg hR
  generalize (ByteArray.mk l.toArray) = s at *
  go_enter Try.func111, Try.ntmps111
  go_wp2
  go_loopw [4] (fun i wr => ∃ pos : Nat, i = .int .i64 pos ∧ wr = w1 ∧ pos ≤ l.length ∧ (runesAt l pos).isSome = (runes l).isSome) (fun i _ => l.length - (intOf i).toNat)
  case atStart => exact ⟨0, rfl, rfl, Nat.zero_le _, rfl⟩
  case round =>
    obtain ⟨pos, rfl, rfl, hpos, hr⟩ := hrel
    have HR := Lib.hid hr
    clear hr
    by_cases hp : pos < l.length
    · have cg := HG.out pos
      have hwd := dec_pos hp
      have HP := Lib.hid hp
      rcases getV_cases l pos hp with ⟨hb, e⟩ | ⟨hb, e⟩
      · rw [e] at cg
        have HB := Lib.hid hb
        clear hb e hwd
        go_wp2_with (go_at_call 144; refine cg.mono ?_; rintro e w' ⟨rfl, rfl⟩)
        go_ret
        exact ⟨by rw [← HR.out, runesAt_bad HP.out HB.out]; rfl, hb1⟩
      · rw [e] at cg
        have HB := Lib.hid hb
        have hg := Lib.hid (runesAt_good hp hb)
        generalize hk : (dec l pos).2 = k at *
        generalize hq : (dec l pos).1 = q at *
        have HW := Lib.hid hwd
        clear hb e hwd hk hq
        go_wp2_with (go_at_call 144; refine cg.mono ?_; rintro e w' ⟨rfl, rfl⟩)
        go_roundw
        case rel =>
          exact ⟨pos + k, by go_num, by first | rfl | trivial, HW.out.2, by rw [← HR.out, hg.out, Option.isSome_map]⟩
        case measure =>
          have := HW.out
          have := HP.out
          simp [intOf]
          omega
    · have HP := Lib.hid hp
      go_wp2
      go_ret
      exact ⟨by rw [← HR.out, runesAt_end HP.out]; rfl, hb1⟩
end Go.Proofs.Ytnikcgmbkmbloaa
