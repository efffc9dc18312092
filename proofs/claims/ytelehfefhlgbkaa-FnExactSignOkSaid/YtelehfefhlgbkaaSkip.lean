/- Skip and SignOk: the program's and the model's answers. -/
import Derived.Test.YtelehfefhlgbkaaIn
import Derived.Test.YtelehfefhlgbkaaSpMath
import Derived.Test.YtelehfefhlgbkaaByteIn
namespace Go.Proofs.Ytelehfefhlgbkaa
open Go.RowKit
set_option maxRecDepth 100000
theorem size_k (l : List UInt8) : (ByteArray.mk l.toArray).size = l.length := by simp [ByteArray.size]
theorem inS_sp (l : List UInt8) (i : Nat) : inS l [9, 10, 13, 32] i = atSp l i := rfl
theorem skT_low {l : List UInt8} {a : Int} (h : a < 0) : skT l a = a := by unfold skT; rw [if_neg (by omega)]
theorem skT_nat (l : List UInt8) (i : Nat) : skT l (i : Int) = (skE l i : Nat) := by unfold skT; rw [if_pos (by omega)]; rfl
theorem skE_over {l : List UInt8} {i : Nat} (h : l.length ≤ i) : skE l i = i := skE_stop (atSp_out h)
theorem skip_impl (l : List UInt8) (a : Int) (w : World) (hl : l.length ≤ 1073741824) (h1 : a ≤ 9223372036854775807) :
    Calls Try.prog 6 #[.string ⟨l.toArray⟩, .int .i64 a] w fun e w' => e = .returned (.int .i64 (skT l a)) ∧ w = w' := by
  by_cases ha : a < 0
  · rw [skT_low ha]
    go_enter Try.func6, Try.ntmps6
    go_wp2
    go_ret
    exact ⟨rfl, rfl⟩
  obtain ⟨i, rfl⟩ : ∃ i : Nat, a = i := ⟨a.toNat, by omega⟩
  rw [skT_nat]
  have cb := fun k => bytein_any l [9, 10, 13, 32] k w (by omega)
  have HL := Lib.hid hl
  have H1 := Lib.hid h1
  clear hl h1
  go_enter Try.func6, Try.ntmps6
  go_wp2
  go_loop [1] (fun t => ∃ k : Nat, t = .int .i64 k ∧ Hid (skE l k = skE l i) ∧ Hid (k = i ∨ k ≤ l.length)) (fun t => l.length - (intOf t).toNat)
  case atStart => exact ⟨i, rfl, Lib.hid rfl, Lib.hid (.inl rfl)⟩
  case round =>
    obtain ⟨k, rfl, he, hk⟩ := hrel
    have ck := cb k
    rw [inS_sp] at ck
    cases hd : atSp l k
    · rw [hd] at ck
      have e1 := he.out
      rw [skE_stop hd] at e1
      have hE : Hid (k = skE l i) := Lib.hid e1
      clear e1 he hd
      go_wp2_with (go_at_call 9; refine ck.mono ?_; rintro e w' ⟨rfl, rfl⟩)
      go_ret
      exact ⟨ret_int (by rw [← hE.out]), rfl⟩
    · rw [hd] at ck
      have hlt : k < l.length := atSp_lt hd
      have hlt2 : (k : Int) ≤ 1073741824 := by have := HL.out; omega
      have he2 : Hid (skE l (k + 1) = skE l i) := Lib.hid (by rw [← he.out, skE_step hd])
      have hk2 : Hid (k + 1 = i ∨ k + 1 ≤ l.length) := Lib.hid (.inr hlt)
      have HT := Lib.hid hlt
      clear hd he hk hlt
      go_wp2_with (go_at_call 9; refine ck.mono ?_; rintro e w' ⟨rfl, rfl⟩)
      go_round
      case rel => exact ⟨k + 1, by go_num, he2, hk2⟩
      case measure => have := HT.out; simp [intOf]; omega
theorem or4 {a b c d : Bool} (h : (a || b || c || d) = false) : a = false ∧ b = false ∧ c = false ∧ d = false := by
  revert h; cases a <;> cases b <;> cases c <;> cases d <;> simp
theorem sp_list (c : UInt8) : isSp c = (((c.toNat : Int) == 9) || ((c.toNat : Int) == 10) || ((c.toNat : Int) == 13) || ((c.toNat : Int) == 32)) := by
  have hall : ∀ n : Fin 256, isSp (UInt8.ofNat n.val) = ((((UInt8.ofNat n.val).toNat : Int) == 9) || (((UInt8.ofNat n.val).toNat : Int) == 10) || (((UInt8.ofNat n.val).toNat : Int) == 13) || (((UInt8.ofNat n.val).toNat : Int) == 32)) := by decide +kernel
  have h := hall ⟨c.toNat, c.toNat_lt⟩
  simpa using h
theorem sk_index (l : List UInt8) (i : Nat) (h : i < l.length) (w : World) : (Instr.index 9 (.string ⟨l.toArray⟩) (.int .i64 i)).run Try.prog w = .ok (.int .u8 (l[i]).toNat) w := by
  have := run_index_string (P := Try.prog) w 9 ⟨l.toArray⟩ .i64 i Try.underlying9
  rw [dif_pos (by rw [size_k]; omega)] at this
  rw [this]
  congr 3
theorem str_at (l : List UInt8) (i : Nat) (c : UInt8) (k : Int) (h : l[i]? = some c) (hk : (c.toNat : Int) = k) (w : World) : (Instr.index 9 (.string ⟨l.toArray⟩) (.int .i64 i)).run Try.prog w = .ok (.int .u8 k) w := by
  obtain ⟨hi, e⟩ := List.getElem?_eq_some_iff.1 h
  rw [sk_index l i hi w, e, hk]
set_option maxHeartbeats 1000000 in
theorem skip_spec (l : List UInt8) (a : Int) (w : World) (hl : l.length ≤ 1073741824) (h1 : a ≤ 9223372036854775807) :
    Calls Try.prog 5 #[.string ⟨l.toArray⟩, .int .i64 a] w fun e w' => e = .returned (.int .i64 (skT l a)) ∧ w = w' := by
  by_cases ha : a < 0
  · rw [skT_low ha]
    go_enter Try.func5, Try.ntmps5
    go_wp2
    go_ret
    exact ⟨rfl, rfl⟩
  obtain ⟨i, rfl⟩ : ∃ i : Nat, a = i := ⟨a.toNat, by omega⟩
  rw [skT_nat]
  have hsz := size_k l
  have IX := Lib.hid (fun k c hg => str_at l k c _ hg rfl w)
  have HL := Lib.hid hl
  have ha0 : ¬ ((i : Int) < 0) := by omega
  clear hl h1 ha
  generalize (ByteArray.mk l.toArray) = s at *
  go_enter Try.func5, Try.ntmps5
  go_wp2
  go_loop [1] (fun t => ∃ k : Nat, t = .int .i64 k ∧ Hid (skE l k = skE l i)) (fun t => l.length - (intOf t).toNat)
  case atStart => exact ⟨i, rfl, Lib.hid rfl⟩
  case round =>
    obtain ⟨k, rfl, he⟩ := hrel
    by_cases hlt : (k : Int) < l.length
    · have hlt' : k < l.length := by omega
      obtain ⟨c, g0⟩ : ∃ c, l[k]? = some c := ⟨_, List.getElem?_eq_getElem hlt'⟩
      have ix := IX.out k _ g0
      have hd0 : atSp l k = isSp c := by unfold atSp; rw [g0]
      have hp := sp_list c
      rw [← hd0] at hp
      have hb : c.toNat < 256 := UInt8.toNat_lt _
      have hlt2 : (k : Int) ≤ 1073741824 := by have := HL.out; omega
      clear g0 hd0 hlt'
      generalize c.toNat = x at *
      cases hd : atSp l k
      · rw [hd] at hp
        have e1 := he.out
        rw [skE_stop hd] at e1
        have hE : Hid (k = skE l i) := Lib.hid e1
        obtain ⟨h9, h10, h13, h32⟩ := or4 hp.symm
        clear e1 he hd hp
        go_wp2
        go_ret
        exact ⟨ret_int (by rw [← hE.out]), rfl⟩
      · rw [hd] at hp
        have he2 : Hid (skE l (k + 1) = skE l i) := Lib.hid (by rw [← he.out, skE_step hd])
        have HP := Lib.hid hp
        have HT := Lib.hid hlt
        clear hd he hp
        by_cases h9 : ((x : Int) == 9) = true
        · go_wp2
          go_round
          case rel => exact ⟨k + 1, by go_num, he2⟩
          case measure => have := HT.out; simp [intOf]; omega
        replace h9 : ((x : Int) == 9) = false := by simpa using h9
        by_cases h10 : ((x : Int) == 10) = true
        · go_wp2
          go_round
          case rel => exact ⟨k + 1, by go_num, he2⟩
          case measure => have := HT.out; simp [intOf]; omega
        replace h10 : ((x : Int) == 10) = false := by simpa using h10
        by_cases h13 : ((x : Int) == 13) = true
        · go_wp2
          go_round
          case rel => exact ⟨k + 1, by go_num, he2⟩
          case measure => have := HT.out; simp [intOf]; omega
        replace h13 : ((x : Int) == 13) = false := by simpa using h13
        have h32 : ((x : Int) == 32) = true := by have := HP.out; rw [h9, h10, h13] at this; simpa using this
        go_wp2
        go_round
        case rel => exact ⟨k + 1, by go_num, he2⟩
        case measure => have := HT.out; simp [intOf]; omega
    · have e1 := he.out
      rw [skE_over (by omega)] at e1
      have hE : Hid (k = skE l i) := Lib.hid e1
      clear e1 he
      go_wp2
      go_ret
      exact ⟨ret_int (by rw [← hE.out]), rfl⟩
/-- SignOk -/
def sgB (l : List UInt8) : Bool := l == [123] || l == [125] || l == [91] || l == [93] || l == [58] || l == [44]
theorem sgB_one (c : UInt8) : sgB [c] = isSg c := by
  have hall : ∀ n : Fin 256, sgB [UInt8.ofNat n.val] = isSg (UInt8.ofNat n.val) := by decide +kernel
  have h := hall ⟨c.toNat, c.toNat_lt⟩
  simpa using h
theorem sgB_len {l : List UInt8} (h : l.length ≠ 1) : sgB l = false := by
  match l, h with
  | [], _ => rfl
  | [c], h => exact absurd rfl h
  | c :: d :: r, _ => unfold sgB; simp
theorem inS_sg (c : UInt8) : inS [c] [123, 125, 91, 93, 58, 44] 0 = isSg c := rfl
theorem signok_impl (l : List UInt8) (w : World) (hl : l.length ≤ 9223372036854775807) :
    Calls Try.prog 8 #[.string ⟨l.toArray⟩] w fun e w' => e = .returned (.bool (sgB l)) ∧ w = w' := by
  by_cases h : l.length = 1
  · match l, h with
    | [c], _ =>
      have cb := bytein_any [c] [123, 125, 91, 93, 58, 44] 0 w (by simp)
      rw [inS_sg] at cb
      rw [sgB_one]
      generalize isSg c = b at *
      have hsz := size_k [c]
      generalize (ByteArray.mk [c].toArray) = s at *
      go_enter Try.func8, Try.ntmps8
      go_wp2_with (go_at_call 9; refine cb.mono ?_; rintro e w' ⟨rfl, rfl⟩)
      go_ret
      exact ⟨rfl, rfl⟩
  · rw [sgB_len h]
    have hsz := size_k l
    have h' : ((l.length : Int) == 1) = false := by simp; omega
    generalize (ByteArray.mk l.toArray) = s at *
    go_enter Try.func8, Try.ntmps8
    go_wp2
    go_ret
    exact ⟨rfl, rfl⟩
theorem signok_spec (l : List UInt8) (w : World) : Calls Try.prog 7 #[.string ⟨l.toArray⟩] w fun e w' => e = .returned (.bool (sgB l)) ∧ w = w' := by
  unfold sgB
  by_cases h1 : (l == [123]) = true
  · rw [h1]
    go_enter Try.func7, Try.ntmps7
    go_wp2
    go_ret
    exact ⟨by simp, rfl⟩
  replace h1 : (l == [123]) = false := by simpa using h1
  by_cases h2 : (l == [125]) = true
  · rw [h1, h2]
    go_enter Try.func7, Try.ntmps7
    go_wp2
    go_ret
    exact ⟨by simp, rfl⟩
  replace h2 : (l == [125]) = false := by simpa using h2
  by_cases h3 : (l == [91]) = true
  · rw [h1, h2, h3]
    go_enter Try.func7, Try.ntmps7
    go_wp2
    go_ret
    exact ⟨by simp, rfl⟩
  replace h3 : (l == [91]) = false := by simpa using h3
  by_cases h4 : (l == [93]) = true
  · rw [h1, h2, h3, h4]
    go_enter Try.func7, Try.ntmps7
    go_wp2
    go_ret
    exact ⟨by simp, rfl⟩
  replace h4 : (l == [93]) = false := by simpa using h4
  by_cases h5 : (l == [58]) = true
  · rw [h1, h2, h3, h4, h5]
    go_enter Try.func7, Try.ntmps7
    go_wp2
    go_ret
    exact ⟨by simp, rfl⟩
  replace h5 : (l == [58]) = false := by simpa using h5
  rw [h1, h2, h3, h4, h5]
  cases h6 : (l == [44])
  · go_enter Try.func7, Try.ntmps7
    go_wp2
    go_ret
    exact ⟨by simp, rfl⟩
  · go_enter Try.func7, Try.ntmps7
    go_wp2
    go_ret
    exact ⟨by simp, rfl⟩
end Go.Proofs.Ytelehfefhlgbkaa
