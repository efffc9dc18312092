/- What ParseNum of the program and ParseNum of the model return: the integer in the range whose numeral the string is. -/
import Derived.Test.YtplmgmjjjfgokaaDoorNumText
import Derived.Test.YtplmgmjjjfgokaaDoorNumMath
import Derived.WalkKit
import Derived.Lib.Hide
import Derived.Outline
import Derived.Lib.AtoiAllCases
import Derived.Lib.SmallJoins
import Derived.Test.YtplmgmjjjfgokaaDoorShelf
import Derived.ProofKit
namespace Go.Proofs.YtplmgmjjjfgokaaDoor
open Go.RowKit
def PnPost (l : List UInt8) (w : World) (e : Ending) (w' : World) : Prop := e = .returned (.tuple #[.int .i64 (pnVal l), .bool (pnOk l)]) ∧ Below w.heap.size w w'
theorem pn_post_no {l : List UInt8} {w w' : World} (h : ¬ ∃ n, Lib.itoa n = l ∧ -1000000000000000 ≤ n ∧ n ≤ 1000000000000000) (hb : Below w.heap.size w w') : PnPost l w (.returned (.tuple #[.int .i64 0, .bool false])) w' := by
  unfold PnPost; rw [(pn_no l h).1, (pn_no l h).2]; exact ⟨rfl, hb⟩
theorem pn_post_yes {l : List UInt8} {w w' : World} {n : Int} (h : Lib.itoa n = l) (h0 : -1000000000000000 ≤ n) (h1 : n ≤ 1000000000000000) (hb : Below w.heap.size w w') : PnPost l w (.returned (.tuple #[.int .i64 n, .bool true])) w' := by
  subst h; unfold PnPost; rw [(pn_of n h0 h1).1, (pn_of n h0 h1).2]; exact ⟨rfl, hb⟩
theorem no_len_neg {r : List UInt8} (h : (r.length : Int) < 1 ∨ 16 < (r.length : Int)) : ¬ ∃ n, Lib.itoa n = 45 :: r ∧ -1000000000000000 ≤ n ∧ n ≤ 1000000000000000 := by
  rintro ⟨n, e, h0, h1⟩
  rcases itoa_shape n h0 h1 with ⟨_, r', e', _, a, b, _⟩ | ⟨_, hd, _⟩
  · rw [e'] at e; injection e with _ e; subst e; omega
  · have := hd 45 (by rw [e]; exact List.mem_cons_self)
    unfold isDig at this
    have e45 : (45 : UInt8).toNat = 45 := rfl
    omega
theorem no_dig_neg {r : List UInt8} {j : Nat} (hj : j < r.length) (h : ¬ isDig r[j]) : ¬ ∃ n, Lib.itoa n = 45 :: r ∧ -1000000000000000 ≤ n ∧ n ≤ 1000000000000000 := by
  rintro ⟨n, e, h0, h1⟩
  rcases itoa_shape n h0 h1 with ⟨_, r', e', hd, _⟩ | ⟨_, hd, _⟩
  · rw [e'] at e; injection e with _ e; subst e; exact h (hd _ (List.getElem_mem hj))
  · have := hd 45 (by rw [e]; exact List.mem_cons_self)
    unfold isDig at this
    have e45 : (45 : UInt8).toNat = 45 := rfl
    omega
theorem dec_bound (l : List UInt8) (hl : ∀ c ∈ l, isDig c) (h : l.length ≤ 16) : (decVal 0 l : Int) ≤ 9999999999999999 := by
  have h1 := decVal_lt l hl 0
  have h2 : 10 ^ l.length ≤ 10 ^ 16 := Nat.pow_le_pow_right (by omega) h
  omega
theorem dec_take (r : List UInt8) (j : Nat) (hj : j < r.length) : decVal 0 (r.take (j + 1)) = decVal 0 (r.take j) * 10 + (r[j].toNat - 48) := by
  rw [List.take_succ_eq_append_getElem hj, decVal_snoc]
theorem no_val_neg {r : List UInt8} {D : Nat} (hD : D = decVal 0 r) (h : 1000000000000000 < (D : Int) ∨ Lib.itoa (-(D : Int)) ≠ 45 :: r) : ¬ ∃ n, Lib.itoa n = 45 :: r ∧ -1000000000000000 ≤ n ∧ n ≤ 1000000000000000 := by
  rintro ⟨n, e, h0, h1⟩
  rcases itoa_shape n h0 h1 with ⟨_, r', e', _, _, _, hv⟩ | ⟨_, hd, _⟩
  · rw [e'] at e; injection e with _ e; subst e
    have hn : n = -(D : Int) := by omega
    rcases h with h | h
    · omega
    · rw [← hn, e'] at h; exact h rfl
  · have := hd 45 (by rw [e]; exact List.mem_cons_self)
    unfold isDig at this
    have e45 : (45 : UInt8).toNat = 45 := rfl
    omega
theorem bytes_ne {a b : List UInt8} (h : a ≠ b) : (a == b) = false := by simpa using h
theorem bytes_eq {a b : List UInt8} (h : a = b) : (a == b) = true := by simpa using h
theorem no_len_pos {r : List UInt8} (hh : ∀ t, r ≠ 45 :: t) (h : (r.length : Int) < 1 ∨ 16 < (r.length : Int)) : ¬ ∃ n, Lib.itoa n = r ∧ -1000000000000000 ≤ n ∧ n ≤ 1000000000000000 := by
  rintro ⟨n, e, h0, h1⟩
  rcases itoa_shape n h0 h1 with ⟨_, r', e', _, a, b, _⟩ | ⟨_, hd, a, b, _⟩
  · exact hh r' (by rw [← e, e'])
  · rw [e] at a b; omega
theorem no_dig_pos {r : List UInt8} (hh : ∀ t, r ≠ 45 :: t) {j : Nat} (hj : j < r.length) (h : ¬ isDig r[j]) : ¬ ∃ n, Lib.itoa n = r ∧ -1000000000000000 ≤ n ∧ n ≤ 1000000000000000 := by
  rintro ⟨n, e, h0, h1⟩
  rcases itoa_shape n h0 h1 with ⟨_, r', e', hd, _⟩ | ⟨_, hd, _⟩
  · exact hh r' (by rw [← e, e'])
  · rw [e] at hd; exact h (hd _ (List.getElem_mem hj))
theorem no_val_pos {r : List UInt8} (hh : ∀ t, r ≠ 45 :: t) {D : Nat} (hD : D = decVal 0 r) (h : 1000000000000000 < (D : Int) ∨ Lib.itoa (D : Int) ≠ r) : ¬ ∃ n, Lib.itoa n = r ∧ -1000000000000000 ≤ n ∧ n ≤ 1000000000000000 := by
  rintro ⟨n, e, h0, h1⟩
  rcases itoa_shape n h0 h1 with ⟨_, r', e', _⟩ | ⟨_, _, _, _, hv⟩
  · exact hh r' (by rw [← e, e'])
  · rw [e] at hv
    have hn : n = (D : Int) := by omega
    rcases h with h | h
    · omega
    · rw [← hn, e] at h; exact h rfl
/-- the model's loop: r is what stands behind the sign; j of its bytes are read -/
theorem parsenum_spec_neg (r : List UInt8) (w : World) (hs : r.length ≤ 1048576) :
    Calls Tryd.prog 11 #[.string ⟨(45 :: r).toArray⟩] w (PnPost (45 :: r) w) := by
  by_cases hlen : (r.length : Int) < 1 ∨ 16 < (r.length : Int)
  · have hno := no_len_neg hlen
    go_enter Tryd.func11, Tryd.ntmps11
    go_wp2_with (first | (go_at_call 23; refine (in_no _ _ _ _ (by omega)).mono ?_; rintro e w' ⟨rfl, rfl⟩))
    go_ret2
    exact pn_post_no hno (Below.refl _ _)
  · have hl1 : 1 ≤ r.length := by omega
    have hl2 : r.length ≤ 16 := by omega
    clear hlen
    go_enter Tryd.func11, Tryd.ntmps11
    go_wp2_with (first | (go_at_call 23; refine (in_yes _ _ _ _ (by omega) (by omega)).mono ?_; rintro e w' ⟨rfl, rfl⟩))
    go_loop [5, 6] (fun n k => ∃ j : Nat, j ≤ r.length ∧ k = .int .i64 ((j : Int) + 1) ∧ n = .int .i64 (decVal 0 (r.take j)) ∧ ∀ c ∈ r.take j, isDig c) (fun _ k => r.length + 2 - (intOf k).toNat)
    case atStart => exact ⟨0, Nat.zero_le _, rfl, rfl, fun c hc => by cases hc⟩
    case round =>
      obtain ⟨j, hj, rfl, rfl, hd⟩ := hrel
      have HD := Lib.hid hd
      have hb := dec_bound (r.take j) hd (by rw [List.length_take]; omega)
      clear hd
      by_cases hlt : j < r.length
      · have HT := Lib.hid (dec_take r j hlt)
        obtain ⟨c, hcj⟩ : ∃ c, c = r[j] := ⟨_, rfl⟩
        have hbyte : ∀ h, (ByteArray.mk (45 :: r).toArray)[j + 1]'h = c := fun h => by rw [hcj]; rfl
        have hn := no_dig_neg hlt
        rw [← hcj] at HT hn
        have HC := Lib.hid hcj
        have h255 : (c.toNat : Int) ≤ 255 := by have := c.toNat_lt; omega
        by_cases hc : isDig c
        · have hc1 : (48 : Int) ≤ c.toNat := by unfold isDig at hc; omega
          have hc2 : (c.toNat : Int) ≤ 57 := by unfold isDig at hc; omega
          clear hcj hn
          go_wp2_with (first | (go_at_call 23; refine (in_yes _ _ _ _ (by omega) (by omega)).mono ?_; rintro e w' ⟨rfl, rfl⟩))
          go_round
          case rel =>
            refine ⟨j + 1, by omega, by go_num, ?_, ?_⟩
            · rw [HT.out]
              have : (((decVal 0 (r.take j) * 10 + (c.toNat - 48) : Nat)) : Int) = 10 * (decVal 0 (r.take j) : Int) + ((c.toNat : Int) - 48) := by omega
              rw [this]
            · intro x hx
              rw [List.take_succ_eq_append_getElem hlt, List.mem_append, List.mem_singleton] at hx
              rcases hx with hx | hx
              · exact HD.out x hx
              · rw [hx, ← HC.out]; exact hc
          case measure => simp [intOf]; omega
        · have hc1 : (c.toNat : Int) < 48 ∨ 57 < (c.toNat : Int) := by unfold isDig at hc; omega
          have hno := hn hc
          clear hcj hn
          go_wp2_with (first | (go_at_call 23; refine (in_no _ _ _ _ (by omega)).mono ?_; rintro e w' ⟨rfl, rfl⟩))
          go_ret2
          exact pn_post_no hno (Below.refl _ _)
      · obtain rfl : j = r.length := by omega
        rw [List.take_length] at hb ⊢
        obtain ⟨D, hD⟩ : ∃ D, D = decVal 0 r := ⟨_, rfl⟩
        have hn := @no_val_neg r D hD
        rw [← hD] at hb ⊢
        have h0D : (0 : Int) ≤ D := by omega
        clear hD
        by_cases hbig : 1000000000000000 < (D : Int)
        · have hno := hn (.inl hbig)
          clear hn
          go_wp2_with (first | (go_at_call 23; refine (in_no _ _ _ _ (by omega)).mono ?_; rintro e w' ⟨rfl, rfl⟩))
          go_ret2
          exact pn_post_no hno (Below.refl _ _)
        · have hns := numtext_spec (-(D : Int)) w (by omega) (by omega)
          by_cases hE : Lib.itoa (-(D : Int)) = 45 :: r
          · have hq := bytes_eq hE
            have HE := Lib.hid hE
            clear hE hn
            go_wp2_with (first | (go_at_call 23; refine (in_yes _ _ _ _ (by omega) (by omega)).mono ?_; rintro e w' ⟨rfl, rfl⟩) | (go_at_call 13; refine hns.mono ?_; rintro e w1 ⟨rfl, hb1⟩))
            go_ret2
            exact pn_post_yes HE.out (by omega) (by omega) hb1
          · have hq := bytes_ne hE
            have hno := hn (.inr hE)
            clear hE hn
            go_wp2_with (first | (go_at_call 23; refine (in_yes _ _ _ _ (by omega) (by omega)).mono ?_; rintro e w' ⟨rfl, rfl⟩) | (go_at_call 13; refine hns.mono ?_; rintro e w1 ⟨rfl, hb1⟩))
            go_ret2
            exact pn_post_no hno hb1
/-- the model's loop without a sign -/
theorem parsenum_spec_pos (c0 : UInt8) (t : List UInt8) (h45 : ¬ (c0.toNat : Int) = 45) (r : List UInt8) (hr : r = c0 :: t) (w : World) (hs : r.length ≤ 1048576) :
    Calls Tryd.prog 11 #[.string ⟨r.toArray⟩] w (PnPost r w) := by
  have hh : ∀ t, r ≠ 45 :: t := by
    intro t' e; rw [hr] at e; injection e with e _; subst e; exact h45 rfl
  have h0 : ∀ h, (ByteArray.mk r.toArray)[0]'h = c0 := by subst hr; intro h; rfl
  have h0' : ((c0.toNat : Int) == 45) = false := by simpa using h45
  have hpos : 0 < r.length := by rw [hr]; exact Nat.succ_pos _
  clear hr h45
  by_cases hlen : (r.length : Int) < 1 ∨ 16 < (r.length : Int)
  · have hno := no_len_pos hh hlen
    clear hh
    go_enter Tryd.func11, Tryd.ntmps11
    go_wp2_with (first | (go_at_call 23; refine (in_no _ _ _ _ (by omega)).mono ?_; rintro e w' ⟨rfl, rfl⟩))
    go_ret2
    exact pn_post_no hno (Below.refl _ _)
  · have hl1 : 1 ≤ r.length := by omega
    have hl2 : r.length ≤ 16 := by omega
    clear hlen
    have HH := Lib.hid hh
    clear hh
    go_enter Tryd.func11, Tryd.ntmps11
    go_wp2_with (first | (go_at_call 23; refine (in_yes _ _ _ _ (by omega) (by omega)).mono ?_; rintro e w' ⟨rfl, rfl⟩))
    go_loop [5, 6] (fun n k => ∃ j : Nat, j ≤ r.length ∧ k = .int .i64 (j : Int) ∧ n = .int .i64 (decVal 0 (r.take j)) ∧ ∀ c ∈ r.take j, isDig c) (fun _ k => r.length + 2 - (intOf k).toNat)
    case atStart => exact ⟨0, Nat.zero_le _, rfl, rfl, fun c hc => by cases hc⟩
    case round =>
      obtain ⟨j, hj, rfl, rfl, hd⟩ := hrel
      have HD := Lib.hid hd
      have hb := dec_bound (r.take j) hd (by rw [List.length_take]; omega)
      clear hd
      by_cases hlt : j < r.length
      · have HT := Lib.hid (dec_take r j hlt)
        obtain ⟨c, hcj⟩ : ∃ c, c = r[j] := ⟨_, rfl⟩
        have hbyte : ∀ h, (ByteArray.mk r.toArray)[j]'h = c := fun h => by rw [hcj]; rfl
        have hn := no_dig_pos HH.out hlt
        rw [← hcj] at HT hn
        have HC := Lib.hid hcj
        have h255 : (c.toNat : Int) ≤ 255 := by have := c.toNat_lt; omega
        by_cases hc : isDig c
        · have hc1 : (48 : Int) ≤ c.toNat := by unfold isDig at hc; omega
          have hc2 : (c.toNat : Int) ≤ 57 := by unfold isDig at hc; omega
          clear hcj hn
          go_wp2_with (first | (go_at_call 23; refine (in_yes _ _ _ _ (by omega) (by omega)).mono ?_; rintro e w' ⟨rfl, rfl⟩))
          go_round
          case rel =>
            refine ⟨j + 1, by omega, by go_num, ?_, ?_⟩
            · rw [HT.out]
              have : (((decVal 0 (r.take j) * 10 + (c.toNat - 48) : Nat)) : Int) = 10 * (decVal 0 (r.take j) : Int) + ((c.toNat : Int) - 48) := by omega
              rw [this]
            · intro x hx
              rw [List.take_succ_eq_append_getElem hlt, List.mem_append, List.mem_singleton] at hx
              rcases hx with hx | hx
              · exact HD.out x hx
              · rw [hx, ← HC.out]; exact hc
          case measure => simp [intOf]; omega
        · have hc1 : (c.toNat : Int) < 48 ∨ 57 < (c.toNat : Int) := by unfold isDig at hc; omega
          have hno := hn hc
          clear hcj hn
          go_wp2_with (first | (go_at_call 23; refine (in_no _ _ _ _ (by omega)).mono ?_; rintro e w' ⟨rfl, rfl⟩))
          go_ret2
          exact pn_post_no hno (Below.refl _ _)
      · obtain rfl : j = r.length := by omega
        rw [List.take_length] at hb ⊢
        obtain ⟨D, hD⟩ : ∃ D, D = decVal 0 r := ⟨_, rfl⟩
        have hn := no_val_pos HH.out hD
        rw [← hD] at hb ⊢
        have h0D : (0 : Int) ≤ D := by omega
        clear hD
        by_cases hbig : 1000000000000000 < (D : Int)
        · have hno := hn (.inl hbig)
          clear hn
          go_wp2_with (first | (go_at_call 23; refine (in_no _ _ _ _ (by omega)).mono ?_; rintro e w' ⟨rfl, rfl⟩))
          go_ret2
          exact pn_post_no hno (Below.refl _ _)
        · have hns := numtext_spec ((D : Int)) w (by omega) (by omega)
          by_cases hE : Lib.itoa ((D : Int)) = r
          · have hq := bytes_eq hE
            have HE := Lib.hid hE
            clear hE hn
            go_wp2_with (first | (go_at_call 23; refine (in_yes _ _ _ _ (by omega) (by omega)).mono ?_; rintro e w' ⟨rfl, rfl⟩) | (go_at_call 13; refine hns.mono ?_; rintro e w1 ⟨rfl, hb1⟩))
            go_ret2
            exact pn_post_yes HE.out (by omega) (by omega) hb1
          · have hq := bytes_ne hE
            have hno := hn (.inr hE)
            clear hE hn
            go_wp2_with (first | (go_at_call 23; refine (in_yes _ _ _ _ (by omega) (by omega)).mono ?_; rintro e w' ⟨rfl, rfl⟩) | (go_at_call 13; refine hns.mono ?_; rintro e w1 ⟨rfl, hb1⟩))
            go_ret2
            exact pn_post_no hno hb1
theorem parsenum_spec (l : List UInt8) (w : World) (hs : l.length ≤ 1048576) : Calls Tryd.prog 11 #[.string ⟨l.toArray⟩] w (PnPost l w) := by
  cases l with
  | nil =>
    have hno : ¬ ∃ n, Lib.itoa n = [] ∧ -1000000000000000 ≤ n ∧ n ≤ 1000000000000000 := no_len_pos (fun t h => by cases h) (.inl (by decide))
    go_enter Tryd.func11, Tryd.ntmps11
    go_wp2_with (first | (go_at_call 23; refine (in_no _ _ _ _ (by omega)).mono ?_; rintro e w' ⟨rfl, rfl⟩))
    go_ret2
    exact pn_post_no hno (Below.refl _ _)
  | cons c t =>
    by_cases h : (c.toNat : Int) = 45
    · obtain rfl : c = 45 := by apply UInt8.toNat.inj; exact Int.ofNat.inj h
      exact parsenum_spec_neg t w (by rw [List.length_cons] at hs; omega)
    · exact parsenum_spec_pos c t h _ rfl w hs
theorem parsenum_err (l : List UInt8) (w : World) (hno : ¬ ∃ n, Lib.itoa n = l ∧ -1000000000000000 ≤ n ∧ n ≤ 1000000000000000)
    (hat : Calls Tryd.prog 21 #[.string ⟨l.toArray⟩] w fun e w' => ∃ (n : Int) (N : Nat), e = .returned (.tuple #[.int .i64 n, .iface 52 (.pointer (some ⟨N, 0, none⟩))]) ∧ Below w.heap.size w w') :
    Calls Tryd.prog 9 #[.string ⟨l.toArray⟩] w (PnPost l w) := by
  go_enter Tryd.func9, Tryd.ntmps9
  go_wp2_with (first | (go_at_call 21; refine hat.mono ?_; rintro e w1 ⟨n, N, rfl, hb1⟩))
  go_ret2
  exact pn_post_no hno hb1
theorem parsenum_ok (l : List UInt8) (w : World) (v : Int) (h : Lib.atoiAll l = .ok v) (htab : Lib.TabIs Tryd.prog w "internal/strconv.uint64pow10" .u64 Lib.pow10Tab)
    (hat : Calls Tryd.prog 21 #[.string ⟨l.toArray⟩] w fun e w' => e = .returned (.tuple #[.int .i64 v, .nilIface]) ∧ Below w.heap.size w w') :
    Calls Tryd.prog 9 #[.string ⟨l.toArray⟩] w (PnPost l w) := by
  have hbd := Lib.atoiAll_bounds h
  have hv : ∀ n, Lib.itoa n = l → -1000000000000000 ≤ n → n ≤ 1000000000000000 → n = v := by
    intro n e h0 h1
    have := atoi_itoa n h0 h1
    rw [e, h] at this; injection this with this; exact this.symm
  obtain ⟨hb0, hb1⟩ := hbd
  by_cases hlow : v < -1000000000000000
  · have hno : ¬ ∃ n, Lib.itoa n = l ∧ -1000000000000000 ≤ n ∧ n ≤ 1000000000000000 := by
      rintro ⟨n, e, h0, h1⟩; have := hv n e h0 h1; omega
    clear h hv
    go_enter Tryd.func9, Tryd.ntmps9
    go_wp2_with (first | (go_at_call 21; refine hat.mono ?_; rintro e w1 ⟨rfl, hb1⟩))
    go_ret2
    exact pn_post_no hno hb1
  · by_cases hhigh : 1000000000000000 < v
    · have hno : ¬ ∃ n, Lib.itoa n = l ∧ -1000000000000000 ≤ n ∧ n ≤ 1000000000000000 := by
        rintro ⟨n, e, h0, h1⟩; have := hv n e h0 h1; omega
      clear h hv
      go_enter Tryd.func9, Tryd.ntmps9
      go_wp2_with (first | (go_at_call 21; refine hat.mono ?_; rintro e w1 ⟨rfl, hb1⟩))
      go_ret2
      exact pn_post_no hno hb1
    · by_cases hE : Lib.itoa v = l
      · have hq := bytes_eq hE
        have HE := Lib.hid hE
        clear h hv hE
        go_enter Tryd.func9, Tryd.ntmps9
        go_wp2_with (first | (go_at_call 21; refine hat.mono ?_; rintro e w1 ⟨rfl, hb1⟩) | (go_at_call 10; refine (numtext_impl v _ (by omega) (by omega) (var_below hb1 htab)).mono ?_; rintro e w2 ⟨rfl, hb2⟩))
        go_ret2
        exact pn_post_yes HE.out (by omega) (by omega) (hb1.trans (hb2.mono hb1.size))
      · have hq := bytes_ne hE
        have hno : ¬ ∃ n, Lib.itoa n = l ∧ -1000000000000000 ≤ n ∧ n ≤ 1000000000000000 := by
          rintro ⟨n, e, h0, h1⟩; have := hv n e h0 h1; subst this; exact hE e
        clear h hv hE
        go_enter Tryd.func9, Tryd.ntmps9
        go_wp2_with (first | (go_at_call 21; refine hat.mono ?_; rintro e w1 ⟨rfl, hb1⟩) | (go_at_call 10; refine (numtext_impl v _ (by omega) (by omega) (var_below hb1 htab)).mono ?_; rintro e w2 ⟨rfl, hb2⟩))
        go_ret2
        exact pn_post_no hno (hb1.trans (hb2.mono hb1.size))
theorem parsenum_impl (l : List UInt8) (w : World) (hs : l.length ≤ 1048576) (htab : Lib.TabIs Tryd.prog w "internal/strconv.uint64pow10" .u64 Lib.pow10Tab)
    (ts : TypeId) (ps : Value) (hS : w.var? Tryd.prog "strconv.ErrSyntax" = some #[.iface ts ps]) (tr : TypeId) (pr : Value) (hR : w.var? Tryd.prog "strconv.ErrRange" = some #[.iface tr pr]) :
    Calls Tryd.prog 9 #[.string ⟨l.toArray⟩] w (PnPost l w) := by
  have hsz : (⟨l.toArray⟩ : ByteArray).size = l.length := by simp [ByteArray.size]
  cases h : Lib.atoiAll l with
  | ok v =>
    refine parsenum_ok l w v h htab ((Tryd.strconv_Atoi_ok ⟨l.toArray⟩ (by omega) v h w).mono ?_)
    rintro e w' ⟨rfl, hw⟩
    refine ⟨rfl, ?_⟩
    rcases hw with rfl | ⟨t, rfl⟩
    · exact Below.refl _ _
    · exact Joins.below_bytesWorld _ _ _ _ (Nat.le_refl _)
  | _ =>
    have hno : ¬ ∃ n, Lib.itoa n = l ∧ -1000000000000000 ≤ n ∧ n ≤ 1000000000000000 := by
      rintro ⟨n, e, h0, h1⟩
      have := atoi_itoa n h0 h1
      rw [e, h] at this; cases this
    refine parsenum_err l w hno ?_
    first
    | exact (Any.strconv_Atoi_syntax_var Tryd.laysC172 ⟨l.toArray⟩ (by omega) h ts ps w hS).mono fun e w' ⟨N, he, _, _, hb⟩ => ⟨_, N, he, hb⟩
    | exact (Tryd.strconv_Atoi_range_var ⟨l.toArray⟩ (by omega) h tr pr w hR).mono fun e w' ⟨N, he, _, _, hb⟩ => ⟨_, N, he, hb⟩
end Go.Proofs.YtplmgmjjjfgokaaDoor
