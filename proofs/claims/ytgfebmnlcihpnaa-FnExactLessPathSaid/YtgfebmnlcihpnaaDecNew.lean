/- What DecNew of the program and of the model returns: the number's one valid form, or none where there is none. -/
import Derived.Test.YtgfebmnlcihpnaaDecOk
import Derived.Test.YtgfebmnlcihpnaaPow
namespace Go.Proofs.Ytgfebmnlcihpnaa
open Go.RowKit
theorem bcell {W w1 : World} (hb : Below W.heap.size W w1) : (∀ b o, b < W.heap.size → w1.cell? ⟨b, o, none⟩ = W.cell? ⟨b, o, none⟩) ∧ (∀ b o, b < W.heap.size → w1.frozen? ⟨b, o, none⟩ = W.frozen? ⟨b, o, none⟩) :=
  ⟨fun b o h => hb.cell (p := ⟨b, o, none⟩) h, fun b o h => hb.frozen (p := ⟨b, o, none⟩) h⟩
theorem below_two {w w1 w2 : World} {o o' : Obj} (hb1 : Below (w.alloc o).heap.size (w.alloc o) w1) (hb2 : Below (w1.alloc o').heap.size (w1.alloc o') w2) : Below (w.alloc o).heap.size (w.alloc o) w2 :=
  hb1.trans (((Below.refl _ _).alloc hb1.size _).trans (hb2.mono (by have := hb1.size; simp at this ⊢; omega)))
def NewPost (n x : Int) (w : World) (e : Ending) (w' : World) : Prop := ∃ (N X : Int) (ok : Bool), e = .returned (.tuple #[.agg #[.int .i64 N, .int .i64 X], .bool ok]) ∧ IsNew n x N X ok ∧ Below w.heap.size w w'
theorem pow10_ge {y : Int} (h0 : 0 < y) (h : y ≤ 16) : powV 10 y = 10 ^ y.toNat := by unfold powV; rw [if_pos ⟨by decide, by omega, by omega⟩]
set_option maxRecDepth 100000 in
set_option maxHeartbeats 4000000 in
theorem decnew_spec (n x : Int) (w : World) (h0 : -9223372036854775808 ≤ n) (h1 : n ≤ 9223372036854775807) : Calls Try.prog 178 #[.int .i64 n, .int .i64 x] w (NewPost n x w) := by
  have c0 := fun w1 => digits_spec n w1 h0 h1
  by_cases hd : ((digV n : Nat) : Int) ≤ 17
  · have hn := (digV_17 n).1 (by omega)
    have hn0 : -100000000000000000 < n := by omega
    have hn1 : n < 100000000000000000 := by omega
    clear hn h0 h1
    by_cases hx : -40 ≤ x ∧ x ≤ 40
    · have hin : Hid (decIn n x) := Lib.hid ⟨by omega, hx.1, hx.2⟩
      obtain ⟨hx0, hx1⟩ := hx
      have ci := fun w1 => in_yes x (-40) 40 w1 hx0 hx1
      by_cases hz : n = 0
      · subst hz
        go_enter Try.func178, Try.ntmps178
        go_wp2_with (first | (go_at_call 154; refine (c0 _).mono ?_; rintro e w' ⟨rfl, rfl⟩) | (go_at_call 98; refine (ci _).mono ?_; rintro e w' ⟨rfl, rfl⟩))
        refine bodyPost_ret (v := .tuple #[.agg #[.int .i64 0, .int .i64 0], .bool true]) (by simp [results, Try.results178, go_sem]) rfl ⟨_, _, _, rfl, isNew_zero hin.out, ?_⟩
        exact below_box _ _
      · go_enter Try.func178, Try.ntmps178
        go_wp2_with (first | (go_at_call 154; refine (c0 _).mono ?_; rintro e w' ⟨rfl, rfl⟩) | (go_at_call 98; refine (ci _).mono ?_; rintro e w' ⟨rfl, rfl⟩))
        go_loop [0, 1] (fun a b => ∃ m y : Int, a = .int .i64 m ∧ b = .int .i64 y ∧ same n x m y ∧ m ≠ 0 ∧ -100000000000000000 < m ∧ m < 100000000000000000 ∧ -40 ≤ y ∧ y ≤ 40) (fun _ b => (40 - intOf b).toNat)
        case atStart => exact ⟨_, _, rfl, rfl, same_refl _ _, hz, hn0, hn1, hx0, hx1⟩
        case round =>
          obtain ⟨m, y, rfl, rfl, hs, hm, hm0, hm1, hy0, hy1⟩ := hrel
          clear hz hn0 hn1 hx0 hx1 ci c0 hd
          by_cases hc : m.tmod 10 = 0 ∧ y < 0
          · obtain ⟨ht, hy⟩ := hc
            have hs2 := same_strip hs (by omega) ht
            have u0 := tdiv10 m
            have e0 := Int.tmod_add_mul_tdiv m 10
            have u1 : -100000000000000000 < m.tdiv 10 := by omega
            have u2 : m.tdiv 10 < 100000000000000000 := by omega
            have u3 : m.tdiv 10 ≠ 0 := by omega
            clear u0 e0
            go_wp2
            go_round
            case rel => exact ⟨_, _, rfl, rfl, hs2, u3, u1, u2, by omega, by omega⟩
            case measure => simp [intOf]; omega
          · have hy : 0 ≤ y ∨ m.tmod 10 ≠ 0 := by omega
            have hy' := Lib.hid hy
            clear hc
            by_cases ht : m.tmod 10 = 0
            all_goals
              first
              | (have hyy : ¬ y < 0 := by omega)
              | skip
              clear hy
              go_wp2
              go_loop [0, 1] (fun a b => ∃ m y : Int, a = .int .i64 m ∧ b = .int .i64 y ∧ same n x m y ∧ Hid (0 ≤ y ∨ m.tmod 10 ≠ 0) ∧ -100000000000000000 < m ∧ m < 100000000000000000 ∧ -40 ≤ y ∧ y ≤ 40) (fun _ b => (intOf b).toNat)
              case atStart => exact ⟨_, _, rfl, rfl, hs, hy', hm0, hm1, hy0, hy1⟩
              case round =>
                clear ht hs hy' hm0 hm1 hy0 hy1 hm
                obtain ⟨m, y, rfl, rfl, hs, hy', hm0, hm1, hy0, hy1⟩ := hrel
                by_cases hp : 0 < y
                · have cd := fun w1 => digits_spec m w1 (by omega) (by omega)
                  by_cases h16 : ((digV m : Nat) : Int) ≤ 16
                  · have hs2 := same_grow hs (by omega)
                    have hb := (digV_16 m).1 (by omega)
                    have b0 : -10000000000000000 < m := by omega
                    have b1 : m < 10000000000000000 := by omega
                    clear hb
                    go_wp2_with (go_at_call 154; refine (cd _).mono ?_; rintro e w' ⟨rfl, rfl⟩)
                    go_round
                    case rel => exact ⟨_, _, rfl, rfl, hs2, Lib.hid (.inl (by omega)), by omega, by omega, by omega, by omega⟩
                    case measure => simp [intOf]; omega
                  · have hb := Lib.hid (isNew_big hs hp (big_spec hp (by omega)))
                    go_wp2_with (go_at_call 154; refine (cd _).mono ?_; rintro e w' ⟨rfl, rfl⟩)
                    refine bodyPost_ret (v := .tuple #[.agg #[.int .i64 0, .int .i64 0], .bool false]) (by simp [results, Try.results178, go_sem]) rfl ⟨_, _, _, rfl, hb.out, ?_⟩
                    exact below_box _ _
                · have cd := fun w1 => decok_spec m y w1 (by omega) (by omega)
                  have hfin : Hid (y = 0 ∨ m.tmod 10 ≠ 0) := Lib.hid (by have := hy'.out; omega)
                  clear hy'
                  cases hok : decOk m y
                  · rw [hok] at cd
                    go_wp2_with (go_at_call 100; refine (cd _).mono ?_; rintro e w1 ⟨rfl, hb⟩; obtain ⟨hcl, hfz⟩ := bcell hb; have k0 : w1.cell? ⟨w.heap.size, 0, none⟩ = some (.int .i64 0) := (hcl _ _ (by simp; omega)).trans (by simp [go_sem]); have k1 : w1.cell? ⟨w.heap.size, 1, none⟩ = some (.int .i64 0) := (hcl _ _ (by simp; omega)).trans (by simp [go_sem]))
                    refine bodyPost_ret (v := .tuple #[.agg #[.int .i64 0, .int .i64 0], .bool false]) (by simp [results, Try.results178, go_sem, k0, k1]) rfl ⟨_, _, _, rfl, isNew_no hs (by omega) (by omega) hfin.out hok, ?_⟩
                    exact (((((Below.refl _ _).alloc (Nat.le_refl _) _).alloc (by simp) _).trans (hb.mono (by simp; omega))).setCell (Nat.le_refl _) _).setCell (Nat.le_refl _) _
                  · rw [hok] at cd
                    go_wp2_with (go_at_call 100; refine (cd _).mono ?_; rintro e w1 ⟨rfl, hb⟩; obtain ⟨hcl, hfz⟩ := bcell hb; have k0 : w1.cell? ⟨w.heap.size, 0, none⟩ = some (.int .i64 0) := (hcl _ _ (by simp; omega)).trans (by simp [go_sem]); have k1 : w1.cell? ⟨w.heap.size, 1, none⟩ = some (.int .i64 0) := (hcl _ _ (by simp; omega)).trans (by simp [go_sem]))
                    refine bodyPost_ret (v := .tuple #[.agg #[.int .i64 m, .int .i64 y], .bool true]) (by simp [results, Try.results178, go_sem, k0, k1]) rfl ⟨_, _, _, rfl, isNew_yes hin.out hs hok, ?_⟩
                    exact (((((Below.refl _ _).alloc (Nat.le_refl _) _).alloc (by simp) _).trans (hb.mono (by simp; omega))).setCell (Nat.le_refl _) _).setCell (Nat.le_refl _) _
    · have ci := fun w1 => in_no x (-40) 40 w1 (by omega)
      have hb : IsNew n x 0 0 false := isNew_out (fun h => hx h.2)
      clear hx
      go_enter Try.func178, Try.ntmps178
      go_wp2_with (first | (go_at_call 154; refine (c0 _).mono ?_; rintro e w' ⟨rfl, rfl⟩) | (go_at_call 98; refine (ci _).mono ?_; rintro e w' ⟨rfl, rfl⟩))
      refine bodyPost_ret (v := .tuple #[.agg #[.int .i64 0, .int .i64 0], .bool false]) (by simp [results, Try.results178, go_sem]) rfl ⟨_, _, _, rfl, hb, ?_⟩
      exact below_box _ _
  · have hb : IsNew n x 0 0 false := isNew_out (fun h => hd (by have := h.1; omega))
    go_enter Try.func178, Try.ntmps178
    go_wp2_with (go_at_call 154; refine (c0 _).mono ?_; rintro e w' ⟨rfl, rfl⟩)
    refine bodyPost_ret (v := .tuple #[.agg #[.int .i64 0, .int .i64 0], .bool false]) (by simp [results, Try.results178, go_sem]) rfl ⟨_, _, _, rfl, hb, ?_⟩
    exact below_box _ _
end Go.Proofs.Ytgfebmnlcihpnaa
