/- Which numbers are characters, and how many bytes they have: the program's and the model's answers. -/
import Derived.Test.YtaelepaogkakmaaDoorRows
import Derived.Test.YtaelepaogkakmaaDoorIn
import Derived.Test.YtaelepaogkakmaaDoorMem
import Derived.Test.YtaelepaogkakmaaDoorShelf
import Derived.WalkKit
import Derived.Lib.RuneBytes
import Derived.Lib.Small
import Derived.Outline
import Derived.ProofKit
namespace Go.Proofs.YtaelepaogkakmaaDoor
open Go.RowKit
def okR (n : Int) : Prop := (0 ≤ n ∧ n < 55296) ∨ (57343 < n ∧ n ≤ 1114111)
instance (n : Int) : Decidable (okR n) := by unfold okR; exact inferInstance
theorem okR_mk {n : Int} (h : (0 ≤ n ∧ n < 55296) ∨ (57343 < n ∧ n ≤ 1114111)) : okR n := h
theorem okR_un {n : Int} (h : okR n) : (0 ≤ n ∧ n < 55296) ∨ (57343 < n ∧ n ≤ 1114111) := h
def wideR (n : Int) : Nat := if okR n then (if n < 128 then 1 else if n < 2048 then 2 else if n < 65536 then 3 else 4) else 0
def encR (n : Int) : List UInt8 := if okR n then Lib.encodeRune n else []
theorem wideR_one {n : Int} (h : 0 ≤ n) (k : n < 128) : wideR n = 1 := by unfold wideR; rw [if_pos (okR_mk (by omega)), if_pos k]
theorem wideR_two {n : Int} (h : 128 ≤ n) (k : n < 2048) : wideR n = 2 := by unfold wideR; rw [if_pos (okR_mk (by omega)), if_neg (by omega), if_pos k]
theorem wideR_three {n : Int} (h : 2048 ≤ n) (k : n < 65536) (g : n < 55296 ∨ 57343 < n) : wideR n = 3 := by unfold wideR; rw [if_pos (okR_mk (by omega)), if_neg (by omega), if_neg (by omega), if_pos k]
theorem wideR_four {n : Int} (h : 65536 ≤ n) (k : n ≤ 1114111) : wideR n = 4 := by unfold wideR; rw [if_pos (okR_mk (by omega)), if_neg (by omega), if_neg (by omega), if_neg (by omega)]
theorem wideR_bad {n : Int} (h : ¬ okR n) : wideR n = 0 := by unfold wideR; rw [if_neg h]
theorem enc_bad' {n : Int} (h : ¬ okR n) : encR n = [] := by unfold encR; rw [if_neg h]
theorem encR_len (n : Int) : (encR n).length = wideR n := by
  unfold encR wideR
  split
  · rename_i h
    have h := okR_un h
    simp only [Lib.encodeRune, List.length_map]
    split
    · rw [Lib.encodeRuneZ_one (by omega) (by omega)]; rfl
    · split
      · rw [Lib.encodeRuneZ_two (by omega) (by omega)]; rfl
      · split
        · rw [Lib.encodeRuneZ_three (by omega)]; rfl
        · rw [Lib.encodeRuneZ_four (by omega) (by omega)]; rfl
  · rfl
theorem wideR_cases (n : Int) : (0 ≤ n ∧ n < 128 ∧ wideR n = 1) ∨ (128 ≤ n ∧ n < 2048 ∧ wideR n = 2) ∨ (2048 ≤ n ∧ n < 65536 ∧ (n < 55296 ∨ 57343 < n) ∧ wideR n = 3) ∨ (65536 ≤ n ∧ n ≤ 1114111 ∧ wideR n = 4) ∨ (¬ okR n ∧ wideR n = 0) := by
  by_cases h : okR n
  · have h2 := h
    unfold okR at h2
    by_cases h128 : n < 128
    · exact .inl ⟨by omega, h128, wideR_one (by omega) h128⟩
    · by_cases h20 : n < 2048
      · exact .inr (.inl ⟨by omega, h20, wideR_two (by omega) h20⟩)
      · by_cases h65 : n < 65536
        · exact .inr (.inr (.inl ⟨by omega, h65, by omega, wideR_three (by omega) h65 (by omega)⟩))
        · exact .inr (.inr (.inr (.inl ⟨by omega, by omega, wideR_four (by omega) (by omega)⟩)))
  · exact .inr (.inr (.inr (.inr ⟨h, wideR_bad h⟩)))
theorem runeLen_ok {n : Int} (h : okR n) : Lib.runeLen n = wideR n := by
  rcases wideR_cases n with ⟨h0, h1, e⟩ | ⟨h0, h1, e⟩ | ⟨h0, h1, h2, e⟩ | ⟨h0, h1, e⟩ | ⟨h0, e⟩
  · rw [e]; unfold Lib.runeLen; rw [if_neg (by omega), if_pos (by omega)]; rfl
  · rw [e]; unfold Lib.runeLen; rw [if_neg (by omega), if_neg (by omega), if_pos (by omega)]; rfl
  · rw [e]; unfold Lib.runeLen; rw [if_neg (by omega), if_neg (by omega), if_neg (by omega), if_neg (by omega), if_pos (by omega)]; rfl
  · rw [e]; unfold Lib.runeLen; rw [if_neg (by omega), if_neg (by omega), if_neg (by omega), if_neg (by omega), if_neg (by omega), if_pos (by omega)]; rfl
  · exact absurd h h0
theorem bool_eq {p q : Prop} [Decidable p] [Decidable q] (h : p ↔ q) : Ending.returned (.bool (decide p)) = .returned (.bool (decide q)) := by rw [decide_eq_decide.2 h]
theorem okR_true {n : Int} (h : (0 ≤ n ∧ n < 55296) ∨ (57343 < n ∧ n ≤ 1114111)) : decide (okR n) = true := decide_eq_true h
theorem okR_false {n : Int} (h : ¬ ((0 ≤ n ∧ n < 55296) ∨ (57343 < n ∧ n ≤ 1114111))) : decide (okR n) = false := decide_eq_false h
theorem runeok_impl (n : Int) (w : World) : Calls Tryd.prog 27 #[.int .i64 n] w fun e w' => e = .returned (.bool (decide (okR n))) ∧ w = w' := by
  by_cases h1 : 0 ≤ n
  · by_cases h2 : n ≤ 1114111
    · by_cases h3 : 55296 ≤ n
      · by_cases h4 : n ≤ 57343
        · rw [okR_false (by omega)]
          go_enter Tryd.func27, Tryd.ntmps27
          go_wp2
          go_ret
          exact ⟨rfl, rfl⟩
        · rw [okR_true (by omega)]
          go_enter Tryd.func27, Tryd.ntmps27
          go_wp2
          go_ret
          exact ⟨rfl, rfl⟩
      · rw [okR_true (by omega)]
        go_enter Tryd.func27, Tryd.ntmps27
        go_wp2
        go_ret
        exact ⟨rfl, rfl⟩
    · have h3 : 55296 ≤ n := by omega
      have h4 : ¬ n ≤ 57343 := by omega
      rw [okR_false (by omega)]
      go_enter Tryd.func27, Tryd.ntmps27
      go_wp2
      go_ret
      exact ⟨rfl, rfl⟩
  · have h3 : ¬ 55296 ≤ n := by omega
    rw [okR_false (by omega)]
    go_enter Tryd.func27, Tryd.ntmps27
    go_wp2
    go_ret
    exact ⟨rfl, rfl⟩
theorem runeok_spec (n : Int) (w : World) : Calls Tryd.prog 51 #[.int .i64 n] w fun e w' => e = .returned (.bool (decide (okR n))) ∧ w = w' := by
  by_cases h : 0 ≤ n ∧ n ≤ 1114111
  · have c1 := in_yes n 0 1114111 w h.1 h.2
    by_cases k : 55296 ≤ n ∧ n ≤ 57343
    · have c2 := in_yes n 55296 57343 w k.1 k.2
      rw [okR_false (by omega)]
      clear h k
      go_enter Tryd.func51, Tryd.ntmps51
      go_wp2_with fail
      refine c1.mono ?_
      rintro e w' ⟨rfl, rfl⟩
      go_wp2_with fail
      refine c2.mono ?_
      rintro e w' ⟨rfl, rfl⟩
      go_wp2
      go_ret
      exact ⟨rfl, rfl⟩
    · have c2 := in_no n 55296 57343 w (by omega)
      rw [okR_true (by omega)]
      clear h k
      go_enter Tryd.func51, Tryd.ntmps51
      go_wp2_with fail
      refine c1.mono ?_
      rintro e w' ⟨rfl, rfl⟩
      go_wp2_with fail
      refine c2.mono ?_
      rintro e w' ⟨rfl, rfl⟩
      go_wp2
      go_ret
      exact ⟨rfl, rfl⟩
  · have c1 := in_no n 0 1114111 w (by omega)
    rw [okR_false (by omega)]
    clear h
    go_enter Tryd.func51, Tryd.ntmps51
    go_wp2_with fail
    refine c1.mono ?_
    rintro e w' ⟨rfl, rfl⟩
    go_wp2
    go_ret
    exact ⟨rfl, rfl⟩
theorem runeok_impl_yes {n : Int} (h : okR n) (w : World) : Calls Tryd.prog 27 #[.int .i64 n] w fun e w' => e = .returned (.bool true) ∧ w = w' := by
  have := runeok_impl n w; rw [decide_eq_true h] at this; exact this
theorem runeok_impl_no {n : Int} (h : ¬ okR n) (w : World) : Calls Tryd.prog 27 #[.int .i64 n] w fun e w' => e = .returned (.bool false) ∧ w = w' := by
  have := runeok_impl n w; rw [decide_eq_false h] at this; exact this
theorem runeok_spec_yes {n : Int} (h : okR n) (w : World) : Calls Tryd.prog 51 #[.int .i64 n] w fun e w' => e = .returned (.bool true) ∧ w = w' := by
  have := runeok_spec n w; rw [decide_eq_true h] at this; exact this
theorem runeok_spec_no {n : Int} (h : ¬ okR n) (w : World) : Calls Tryd.prog 51 #[.int .i64 n] w fun e w' => e = .returned (.bool false) ∧ w = w' := by
  have := runeok_spec n w; rw [decide_eq_false h] at this; exact this
theorem wide_spec (n : Int) (w : World) : Calls Tryd.prog 61 #[.int .i64 n] w fun e w' => e = .returned (.int .i64 (wideR n)) ∧ w = w' := by
  by_cases h : okR n
  · have c := runeok_spec_yes h w
    have hw := wideR_cases n
    rcases hw with ⟨h0, h1, e⟩ | ⟨h0, h1, e⟩ | ⟨h0, h1, h2, e⟩ | ⟨h0, h1, e⟩ | ⟨h0, e⟩
    · rw [e]
      go_enter Tryd.func61, Tryd.ntmps61
      go_wp2_with fail
      refine c.mono ?_
      rintro e w' ⟨rfl, rfl⟩
      go_wp2
      go_ret
      exact ⟨rfl, rfl⟩
    · rw [e]
      have k1 : ¬ n < 128 := by omega
      go_enter Tryd.func61, Tryd.ntmps61
      go_wp2_with fail
      refine c.mono ?_
      rintro e w' ⟨rfl, rfl⟩
      go_wp2
      go_ret
      exact ⟨rfl, rfl⟩
    · rw [e]
      have k1 : ¬ n < 128 := by omega
      have k2 : ¬ n < 2048 := by omega
      go_enter Tryd.func61, Tryd.ntmps61
      go_wp2_with fail
      refine c.mono ?_
      rintro e w' ⟨rfl, rfl⟩
      go_wp2
      go_ret
      exact ⟨rfl, rfl⟩
    · rw [e]
      have k1 : ¬ n < 128 := by omega
      have k2 : ¬ n < 2048 := by omega
      have k3 : ¬ n < 65536 := by omega
      go_enter Tryd.func61, Tryd.ntmps61
      go_wp2_with fail
      refine c.mono ?_
      rintro e w' ⟨rfl, rfl⟩
      go_wp2
      go_ret
      exact ⟨rfl, rfl⟩
    · exact absurd h h0
  · have c := runeok_spec_no h w
    rw [wideR_bad h]
    go_enter Tryd.func61, Tryd.ntmps61
    go_wp2_with fail
    refine c.mono ?_
    rintro e w' ⟨rfl, rfl⟩
    go_wp2
    go_ret
    exact ⟨rfl, rfl⟩
end Go.Proofs.YtaelepaogkakmaaDoor
