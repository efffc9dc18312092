/- The library's cmp: Compare at int and string, Or at int. -/
import Derived.Test.YtgfebmnlcihpnaaCmpMath
import Derived.Test.YtgfebmnlcihpnaaMem
import Derived.Lib.Hide
import Derived.ProofKit
import Derived.Laws.Cover1
namespace Go.Proofs.Ytgfebmnlcihpnaa
open Go.RowKit
set_option maxRecDepth 100000
theorem nan_int (x : Int) (w : World) : Calls Try.prog 182 #[.int .i64 x] w fun e w' => e = .returned (.bool false) ∧ w = w' := by
  go_enter Try.func182, Try.ntmps182
  go_wp2
  go_ret
  exact ⟨rfl, rfl⟩
theorem compare_int (x y : Int) (w : World) : Calls Try.prog 157 #[.int .i64 x, .int .i64 y] w fun e w' => e = .returned (.int .i64 (cmpI x y)) ∧ w = w' := by
  have hn := fun z => nan_int z w
  rcases Int.lt_trichotomy x y with h | h | h
  · have hv : cmpI x y = -1 := if_pos h
    rw [hv]
    clear hv
    go_enter Try.func157, Try.ntmps157
    go_wp2_with (go_at_call 182; refine (hn _).mono ?_; rintro e w' ⟨rfl, rfl⟩)
    go_ret
    exact ⟨rfl, rfl⟩
  · subst h
    have hv : cmpI x x = 0 := cmpI_zero.2 rfl
    rw [hv]
    clear hv
    go_enter Try.func157, Try.ntmps157
    go_wp2_with (go_at_call 182; refine (hn _).mono ?_; rintro e w' ⟨rfl, rfl⟩)
    go_ret
    exact ⟨rfl, rfl⟩
  · have hv : cmpI x y = 1 := by unfold cmpI; rw [if_neg (by omega), if_pos h]
    rw [hv]
    have h2 : ¬ x < y := by omega
    clear hv
    go_enter Try.func157, Try.ntmps157
    go_wp2_with (go_at_call 182; refine (hn _).mono ?_; rintro e w' ⟨rfl, rfl⟩)
    go_ret
    exact ⟨rfl, rfl⟩
theorem nan_str (s : ByteArray) (w : World) : Calls Try.prog 202 #[.string s] w fun e w' => e = .returned (.bool false) ∧ w = w' := by
  have h : (s.toList == s.toList) = true := by simp
  have h2 : (s.toList != s.toList) = false := by simp
  go_enter Try.func202, Try.ntmps202
  go_wp2
  go_ret
  exact ⟨by simp, rfl⟩
theorem compare_str (s t : List UInt8) (w : World) : Calls Try.prog 181 #[.string ⟨s.toArray⟩, .string ⟨t.toArray⟩] w fun e w' => e = .returned (.int .i64 (cmpS s t)) ∧ w = w' := by
  have hn := fun z => nan_str z w
  cases h : Op.bytesLess s t
  · by_cases he : s = t
    · subst he
      have hv : cmpS s s = 0 := cmpS_zero.2 rfl
      rw [hv]
      have heq : (s == s) = true := by simp
      clear hv
      go_enter Try.func181, Try.ntmps181
      go_wp2_with (go_at_call 202; refine (hn _).mono ?_; rintro e w' ⟨rfl, rfl⟩)
      go_ret
      exact ⟨rfl, rfl⟩
    · have hv : cmpS s t = 1 := by unfold cmpS; rw [h]; simp [he]
      rw [hv]
      have heq : (s == t) = false := by simpa using he
      clear hv he
      go_enter Try.func181, Try.ntmps181
      go_wp2_with (go_at_call 202; refine (hn _).mono ?_; rintro e w' ⟨rfl, rfl⟩)
      go_ret
      exact ⟨rfl, rfl⟩
  · have hv : cmpS s t = -1 := by unfold cmpS; rw [h]; rfl
    rw [hv]
    clear hv
    go_enter Try.func181, Try.ntmps181
    go_wp2_with (go_at_call 202; refine (hn _).mono ?_; rintro e w' ⟨rfl, rfl⟩)
    go_ret
    exact ⟨rfl, rfl⟩
theorem or_int (a b : Int) (w : World) (g cap : Nat) (c0 : w.cell? ⟨g, 0, none⟩ = some (.int .i64 a)) (c1 : w.cell? ⟨g, 1, none⟩ = some (.int .i64 b)) : Calls Try.prog 164 #[.slice (some ⟨g, 0, none⟩) 2 cap] w fun e w' => e = .returned (.int .i64 (orI a b)) ∧ w = w' := by
  by_cases ha : a = 0
  · subst ha
    rw [orI_zero]
    by_cases hb : b = 0
    · subst hb
      go_enter Try.func164, Try.ntmps164
      go_wp2
      go_loopw [8] (fun i wr => wr = w ∧ (i = .int .i64 0 ∨ i = .int .i64 1 ∨ i = .int .i64 2)) (fun i _ => 2 - (intOf i).toNat)
      case atStart => exact ⟨rfl, .inl rfl⟩
      case round =>
        obtain ⟨rfl, rfl | rfl | rfl⟩ := hrel
        · go_wp2
          go_roundw
          case rel => exact ⟨trivial, .inr (.inl rfl)⟩
          case measure => simp [intOf]
        · go_wp2
          go_roundw
          case rel => exact ⟨trivial, .inr (.inr rfl)⟩
          case measure => simp [intOf]
        · go_wp2
          go_ret
          exact ⟨rfl, rfl⟩
    · go_enter Try.func164, Try.ntmps164
      go_wp2
      go_loopw [8] (fun i wr => wr = w ∧ (i = .int .i64 0 ∨ i = .int .i64 1)) (fun i _ => 2 - (intOf i).toNat)
      case atStart => exact ⟨rfl, .inl rfl⟩
      case round =>
        obtain ⟨rfl, rfl | rfl⟩ := hrel
        · go_wp2
          go_roundw
          case rel => exact ⟨trivial, .inr rfl⟩
          case measure => simp [intOf]
        · go_wp2
          go_ret
          exact ⟨rfl, rfl⟩
  · rw [orI_ne ha]
    go_enter Try.func164, Try.ntmps164
    go_wp2
    go_loopw [8] (fun i wr => wr = w ∧ i = .int .i64 0) (fun i _ => 2 - (intOf i).toNat)
    case atStart => exact ⟨rfl, rfl⟩
    case round =>
      obtain ⟨rfl, rfl⟩ := hrel
      go_wp2
      go_ret
      exact ⟨rfl, rfl⟩
end Go.Proofs.Ytgfebmnlcihpnaa
