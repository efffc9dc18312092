import Derived.Test.YtnikcgmbkmbloaaG2
import Derived.Test.YtnikcgmbkmbloaaG0
import Derived.IntWalk
import Derived.Deep.RegionHeld3
/- What DecNew of the program and of the model returns: the number's one valid form, or none where there is none. -/
namespace Go.Proofs.Ytnikcgmbkmbloaa
open Go.RowKit
theorem bcell {W w1 : World} (hb : Below W.heap.size W w1) : (∀ b o, b < W.heap.size → w1.cell? ⟨b, o, none⟩ = W.cell? ⟨b, o, none⟩) ∧ (∀ b o, b < W.heap.size → w1.frozen? ⟨b, o, none⟩ = W.frozen? ⟨b, o, none⟩) :=
  ⟨fun b o h => hb.cell (p := ⟨b, o, none⟩) h, fun b o h => hb.frozen (p := ⟨b, o, none⟩) h⟩
theorem below_two {w w1 w2 : World} {o o' : Obj} (hb1 : Below (w.alloc o).heap.size (w.alloc o) w1) (hb2 : Below (w1.alloc o').heap.size (w1.alloc o') w2) : Below (w.alloc o).heap.size (w.alloc o) w2 :=
  hb1.trans (((Below.refl _ _).alloc hb1.size _).trans (hb2.mono (by have := hb1.size; simp at this ⊢; omega)))
def NewPost (n x : Int) (w : World) (e : Ending) (w' : World) : Prop := ∃ (N X : Int) (ok : Bool), e = .returned (.tuple #[.agg #[.int .i64 N, .int .i64 X], .bool ok]) ∧ IsNew n x N X ok ∧ Below w.heap.size w w'
theorem pow10_ge {y : Int} (h0 : 0 < y) (h : y ≤ 16) : powV 10 y = 10 ^ y.toNat := by unfold powV; rw [if_pos ⟨by decide, by omega, by omega⟩]
set_option maxRecDepth 100000 in
set_option maxHeartbeats 4000000 in
theorem decnew_spec (n x : Int) (w : World) (h0 : -9223372036854775808 ≤ n) (h1 : n ≤ 9223372036854775807) : Calls Try.prog 117 #[.int .i64 n, .int .i64 x] w (NewPost n x w) := by
  have c0 := fun w1 => digits_spec n w1 h0 h1
  by_cases hd : ((digV n : Nat) : Int) ≤ 17
  · have hn := (digV_17 n).1 (by omega)
    have hn0 : -100000000000000000 < n := by omega
    have hn1 : n < 100000000000000000 := by omega
    clear hn h0 h1
    by_cases hx : -40 ≤ x ∧ x ≤ 40
    · have hin : Hid (decIn n x) := Lib.hid ⟨by omega, hx.1, hx.2⟩
      obtain ⟨hx0, hx1⟩ := hx
      have ci := fun w1 => in_yes x (-40) 40 w1 hx0 hx1
      by_cases hz : n = 0
      · subst hz
        go_enter Try.func117, Try.ntmps117
        go_wp2_with (first | (go_at_call 143; refine (c0 _).mono ?_; rintro e w' ⟨rfl, rfl⟩) | (go_at_call 108; refine (ci _).mono ?_; rintro e w' ⟨rfl, rfl⟩))
        refine bodyPost_ret (v := .tuple #[.agg #[.int .i64 0, .int .i64 0], .bool true]) (by simp [results, Try.results117, go_sem]) rfl ⟨_, _, _, rfl, isNew_zero hin.out, ?_⟩
        exact below_box _ _
      · go_enter Try.func117, Try.ntmps117
        go_wp2_with (first | (go_at_call 143; refine (c0 _).mono ?_; rintro e w' ⟨rfl, rfl⟩) | (go_at_call 108; refine (ci _).mono ?_; rintro e w' ⟨rfl, rfl⟩))
        go_loop [0, 1] (fun a b => ∃ m y : Int, a = .int .i64 m ∧ b = .int .i64 y ∧ same n x m y ∧ m ≠ 0 ∧ -100000000000000000 < m ∧ m < 100000000000000000 ∧ -40 ≤ y ∧ y ≤ 40) (fun _ b => (40 - intOf b).toNat)
        case atStart => exact ⟨_, _, rfl, rfl, same_refl _ _, hz, hn0, hn1, hx0, hx1⟩
        case round =>
          obtain ⟨m, y, rfl, rfl, hs, hm, hm0, hm1, hy0, hy1⟩ := hrel
          clear hz hn0 hn1 hx0 hx1 ci c0 hd
          by_cases hc : m.tmod 10 = 0 ∧ y < 0
          · obtain ⟨ht, hy⟩ := hc
            have hs2 := same_strip hs (by omega) ht
            have u0 := tdiv10 m
            have e0 := Int.tmod_add_mul_tdiv m 10
            have u1 : -100000000000000000 < m.tdiv 10 := by omega
            have u2 : m.tdiv 10 < 100000000000000000 := by omega
            have u3 : m.tdiv 10 ≠ 0 := by omega
            clear u0 e0
            go_wp2
            go_round
            case rel => exact ⟨_, _, rfl, rfl, hs2, u3, u1, u2, by omega, by omega⟩
            case measure => simp [intOf]; omega
          · have hy : 0 ≤ y ∨ m.tmod 10 ≠ 0 := by omega
            have hy' := Lib.hid hy
            clear hc
            by_cases ht : m.tmod 10 = 0
            all_goals
              first
              | (have hyy : ¬ y < 0 := by omega)
              | skip
              clear hy
              go_wp2
              go_loop [0, 1] (fun a b => ∃ m y : Int, a = .int .i64 m ∧ b = .int .i64 y ∧ same n x m y ∧ Hid (0 ≤ y ∨ m.tmod 10 ≠ 0) ∧ -100000000000000000 < m ∧ m < 100000000000000000 ∧ -40 ≤ y ∧ y ≤ 40) (fun _ b => (intOf b).toNat)
              case atStart => exact ⟨_, _, rfl, rfl, hs, hy', hm0, hm1, hy0, hy1⟩
              case round =>
                clear ht hs hy' hm0 hm1 hy0 hy1 hm
                obtain ⟨m, y, rfl, rfl, hs, hy', hm0, hm1, hy0, hy1⟩ := hrel
                by_cases hp : 0 < y
                · have cd := fun w1 => digits_spec m w1 (by omega) (by omega)
                  by_cases h16 : ((digV m : Nat) : Int) ≤ 16
                  · have hs2 := same_grow hs (by omega)
                    have hb := (digV_16 m).1 (by omega)
                    have b0 : -10000000000000000 < m := by omega
                    have b1 : m < 10000000000000000 := by omega
                    clear hb
                    go_wp2_with (go_at_call 143; refine (cd _).mono ?_; rintro e w' ⟨rfl, rfl⟩)
                    go_round
                    case rel => exact ⟨_, _, rfl, rfl, hs2, Lib.hid (.inl (by omega)), by omega, by omega, by omega, by omega⟩
                    case measure => simp [intOf]; omega
                  · have hb := Lib.hid (isNew_big hs hp (big_spec hp (by omega)))
                    go_wp2_with (go_at_call 143; refine (cd _).mono ?_; rintro e w' ⟨rfl, rfl⟩)
                    refine bodyPost_ret (v := .tuple #[.agg #[.int .i64 0, .int .i64 0], .bool false]) (by simp [results, Try.results117, go_sem]) rfl ⟨_, _, _, rfl, hb.out, ?_⟩
                    exact below_box _ _
                · have cd := fun w1 => decok_spec m y w1 (by omega) (by omega)
                  have hfin : Hid (y = 0 ∨ m.tmod 10 ≠ 0) := Lib.hid (by have := hy'.out; omega)
                  clear hy'
                  cases hok : decOk m y
                  · rw [hok] at cd
                    go_wp2_with (go_at_call 110; refine (cd _).mono ?_; rintro e w1 ⟨rfl, hb⟩; obtain ⟨hcl, hfz⟩ := bcell hb; have k0 : w1.cell? ⟨w.heap.size, 0, none⟩ = some (.int .i64 0) := (hcl _ _ (by simp; omega)).trans (by simp [go_sem]); have k1 : w1.cell? ⟨w.heap.size, 1, none⟩ = some (.int .i64 0) := (hcl _ _ (by simp; omega)).trans (by simp [go_sem]))
                    refine bodyPost_ret (v := .tuple #[.agg #[.int .i64 0, .int .i64 0], .bool false]) (by simp [results, Try.results117, go_sem, k0, k1]) rfl ⟨_, _, _, rfl, isNew_no hs (by omega) (by omega) hfin.out hok, ?_⟩
                    exact (((((Below.refl _ _).alloc (Nat.le_refl _) _).alloc (by simp) _).trans (hb.mono (by simp; omega))).setCell (Nat.le_refl _) _).setCell (Nat.le_refl _) _
                  · rw [hok] at cd
                    go_wp2_with (go_at_call 110; refine (cd _).mono ?_; rintro e w1 ⟨rfl, hb⟩; obtain ⟨hcl, hfz⟩ := bcell hb; have k0 : w1.cell? ⟨w.heap.size, 0, none⟩ = some (.int .i64 0) := (hcl _ _ (by simp; omega)).trans (by simp [go_sem]); have k1 : w1.cell? ⟨w.heap.size, 1, none⟩ = some (.int .i64 0) := (hcl _ _ (by simp; omega)).trans (by simp [go_sem]))
                    refine bodyPost_ret (v := .tuple #[.agg #[.int .i64 m, .int .i64 y], .bool true]) (by simp [results, Try.results117, go_sem, k0, k1]) rfl ⟨_, _, _, rfl, isNew_yes hin.out hs hok, ?_⟩
                    exact (((((Below.refl _ _).alloc (Nat.le_refl _) _).alloc (by simp) _).trans (hb.mono (by simp; omega))).setCell (Nat.le_refl _) _).setCell (Nat.le_refl _) _
    · have ci := fun w1 => in_no x (-40) 40 w1 (by omega)
      have hb : IsNew n x 0 0 false := isNew_out (fun h => hx h.2)
      clear hx
      go_enter Try.func117, Try.ntmps117
      go_wp2_with (first | (go_at_call 143; refine (c0 _).mono ?_; rintro e w' ⟨rfl, rfl⟩) | (go_at_call 108; refine (ci _).mono ?_; rintro e w' ⟨rfl, rfl⟩))
      refine bodyPost_ret (v := .tuple #[.agg #[.int .i64 0, .int .i64 0], .bool false]) (by simp [results, Try.results117, go_sem]) rfl ⟨_, _, _, rfl, hb, ?_⟩
      exact below_box _ _
  · have hb : IsNew n x 0 0 false := isNew_out (fun h => hd (by have := h.1; omega))
    go_enter Try.func117, Try.ntmps117
    go_wp2_with (go_at_call 143; refine (c0 _).mono ?_; rintro e w' ⟨rfl, rfl⟩)
    refine bodyPost_ret (v := .tuple #[.agg #[.int .i64 0, .int .i64 0], .bool false]) (by simp [results, Try.results117, go_sem]) rfl ⟨_, _, _, rfl, hb, ?_⟩
    exact below_box _ _
set_option maxRecDepth 100000 in
set_option maxHeartbeats 4000000 in
theorem decnew_impl (n x : Int) (w : World) (h0 : -9223372036854775808 ≤ n) (h1 : n ≤ 9223372036854775807) : Calls Try.prog 171 #[.int .i64 n, .int .i64 x] w (NewPost n x w) := by
  have c0 := fun w1 => digits_impl n w1 h0 h1
  by_cases hd : ((digV n : Nat) : Int) ≤ 17
  · have hn := (digV_17 n).1 (by omega)
    have hn0 : -100000000000000000 < n := by omega
    have hn1 : n < 100000000000000000 := by omega
    clear hn h0 h1
    by_cases hx0 : -40 ≤ x
    · by_cases hx1 : x ≤ 40
      · have hin : Hid (decIn n x) := Lib.hid ⟨by omega, hx0, hx1⟩
        by_cases hz : n = 0
        · subst hz
          go_enter Try.func171, Try.ntmps171
          go_wp2_with (go_at_call 157; refine (c0 _).mono ?_; rintro e w' ⟨rfl, rfl⟩)
          refine bodyPost_ret (v := .tuple #[.agg #[.int .i64 0, .int .i64 0], .bool true]) (by simp [results, Try.results171, go_sem]) rfl ⟨_, _, _, rfl, isNew_zero hin.out, ?_⟩
          exact below_box _ _
        · have hdx : ((digV n : Nat) : Int) + x ≤ 57 := by omega
          go_enter Try.func171, Try.ntmps171
          go_wp2_with (go_at_call 157; refine (c0 _).mono ?_; rintro e w' ⟨rfl, rfl⟩)
          go_loop [0, 1] (fun a b => ∃ m y : Int, a = .int .i64 m ∧ b = .int .i64 y ∧ same n x m y ∧ m ≠ 0 ∧ -100000000000000000 < m ∧ m < 100000000000000000 ∧ -40 ≤ y ∧ ((digV m : Nat) : Int) + y ≤ 57) (fun a _ => (intOf a).natAbs)
          case atStart => exact ⟨_, _, rfl, rfl, same_refl _ _, hz, hn0, hn1, hx0, hdx⟩
          case round =>
            clear hz hn0 hn1 hx0 hx1 c0 hd hdx
            obtain ⟨m, y, rfl, rfl, hs, hm, hm0, hm1, hy0, hy1⟩ := hrel
            have hp := digV_pos m
            have hy2 : y ≤ 56 := by omega
            by_cases ht : m.tmod 10 = 0
            · have hs2 := same_strip hs (by omega) ht
              have hst := digV_strip m hm ht
              have hyn : ((digV (m.tdiv 10) : Nat) : Int) + (y + 1) ≤ 57 := by omega
              have u0 := tdiv10 m
              have e0 := Int.tmod_add_mul_tdiv m 10
              have u1 : -100000000000000000 < m.tdiv 10 := by omega
              have u2 : m.tdiv 10 < 100000000000000000 := by omega
              have u3 : m.tdiv 10 ≠ 0 := by omega
              have u4 : (m.tdiv 10).natAbs < m.natAbs := by omega
              clear u0 e0 hst hy1 hp
              go_wp2
              go_round
              case rel => exact ⟨_, _, rfl, rfl, hs2, u3, u1, u2, by omega, hyn⟩
              case measure => exact u4
            · by_cases hy : 0 < y
              · have cd := fun w1 => digits_impl m w1 (by omega) (by omega)
                by_cases h17 : ((digV m : Nat) : Int) + y ≤ 17
                · have hf := fit_impl hy h17
                  have hq0 := pow10_ge hy (by omega)
                  have cp := fun w1 => pow_impl 10 y w1
                  have hs2 := same_mul hs (by omega)
                  rw [hq0] at cp
                  obtain ⟨q, hq⟩ : ∃ q : Int, q = 10 ^ y.toNat := ⟨_, rfl⟩
                  rw [← hq] at cp hs2 hf
                  obtain ⟨M, hM⟩ : ∃ M : Int, M = m * q := ⟨_, rfl⟩
                  rw [← hM] at hs2 hf
                  have hw : IntKind.i64.wrap (m * q) = M := by rw [← hM]; exact IntWalk.i64_in _ (by omega)
                  clear hq0 hq hM
                  have cok := fun w1 => decok_impl M 0 w1 (by omega) (by omega)
                  cases hok : decOk M 0
                  · rw [hok] at cok
                    have hfin := Lib.hid (isNew_no hs2 (by omega) (by omega) (.inl rfl) hok)
                    clear hf hs2 hok hp hy1
                    go_wp2_with (first | (go_at_call 157; refine (cd _).mono ?_; rintro e w' ⟨rfl, rfl⟩) | (go_at_call 174; refine (cp _).mono ?_; rintro e w1 ⟨rfl, hb1⟩) | (go_at_call 126; refine (cok _).mono ?_; rintro e w2 ⟨rfl, hb2⟩; have hbb := below_two hb1 hb2; obtain ⟨hcl, hfz⟩ := bcell hbb; have k0 : w2.cell? ⟨w.heap.size, 0, none⟩ = some (.int .i64 0) := (hcl _ _ (by simp)).trans (by simp [go_sem]); have k1 : w2.cell? ⟨w.heap.size, 1, none⟩ = some (.int .i64 0) := (hcl _ _ (by simp)).trans (by simp [go_sem]); have kf0 : w2.frozen? ⟨w.heap.size, 0, none⟩ = false := (hfz _ _ (by simp)).trans (by simp [go_sem]); have kf1 : w2.frozen? ⟨w.heap.size, 1, none⟩ = false := (hfz _ _ (by simp)).trans (by simp [go_sem]); clear hcl hfz; obtain ⟨hcl, hfz⟩ := bcell hb2; have d0 : w2.cell? ⟨w1.heap.size, 0, none⟩ = some (.int .i64 M) := (hcl _ _ (by simp)).trans (by simp [go_sem]); have d1 : w2.cell? ⟨w1.heap.size, 1, none⟩ = some (.int .i64 0) := (hcl _ _ (by simp)).trans (by simp [go_sem]); clear hcl hfz))
                    refine bodyPost_ret (v := .tuple #[.agg #[.int .i64 0, .int .i64 0], .bool false]) (by simp [results, Try.results171, go_sem, k0, k1]) rfl ⟨_, _, _, rfl, hfin.out, ?_⟩
                    exact (((below_box _ _).trans (hbb.mono (by simp))).setCell (Nat.le_refl _) _).setCell (Nat.le_refl _) _
                  · rw [hok] at cok
                    have hfin := Lib.hid (isNew_yes hin.out hs2 hok)
                    clear hf hs2 hok hp hy1
                    go_wp2_with (first | (go_at_call 157; refine (cd _).mono ?_; rintro e w' ⟨rfl, rfl⟩) | (go_at_call 174; refine (cp _).mono ?_; rintro e w1 ⟨rfl, hb1⟩) | (go_at_call 126; refine (cok _).mono ?_; rintro e w2 ⟨rfl, hb2⟩; have hbb := below_two hb1 hb2; obtain ⟨hcl, hfz⟩ := bcell hbb; have k0 : w2.cell? ⟨w.heap.size, 0, none⟩ = some (.int .i64 0) := (hcl _ _ (by simp)).trans (by simp [go_sem]); have k1 : w2.cell? ⟨w.heap.size, 1, none⟩ = some (.int .i64 0) := (hcl _ _ (by simp)).trans (by simp [go_sem]); have kf0 : w2.frozen? ⟨w.heap.size, 0, none⟩ = false := (hfz _ _ (by simp)).trans (by simp [go_sem]); have kf1 : w2.frozen? ⟨w.heap.size, 1, none⟩ = false := (hfz _ _ (by simp)).trans (by simp [go_sem]); clear hcl hfz; obtain ⟨hcl, hfz⟩ := bcell hb2; have d0 : w2.cell? ⟨w1.heap.size, 0, none⟩ = some (.int .i64 M) := (hcl _ _ (by simp)).trans (by simp [go_sem]); have d1 : w2.cell? ⟨w1.heap.size, 1, none⟩ = some (.int .i64 0) := (hcl _ _ (by simp)).trans (by simp [go_sem]); clear hcl hfz))
                    refine bodyPost_ret (v := .tuple #[.agg #[.int .i64 M, .int .i64 0], .bool true]) (by simp [results, Try.results171, go_sem, k0, k1]) rfl ⟨_, _, _, rfl, hfin.out, ?_⟩
                    exact (((below_box _ _).trans (hbb.mono (by simp))).setCell (Nat.le_refl _) _).setCell (Nat.le_refl _) _
                · have hb := Lib.hid (isNew_big hs hy (big_impl hy hm (by omega)))
                  go_wp2_with (go_at_call 157; refine (cd _).mono ?_; rintro e w' ⟨rfl, rfl⟩)
                  refine bodyPost_ret (v := .tuple #[.agg #[.int .i64 0, .int .i64 0], .bool false]) (by simp [results, Try.results171, go_sem]) rfl ⟨_, _, _, rfl, hb.out, ?_⟩
                  exact below_box _ _
              · have cd := fun w1 => decok_impl m y w1 (by omega) (by omega)
                cases hok : decOk m y
                · rw [hok] at cd
                  have hfin := Lib.hid (isNew_no hs (by omega) (by omega) (.inr ht) hok)
                  go_wp2_with (go_at_call 126; refine (cd _).mono ?_; rintro e w1 ⟨rfl, hb⟩; obtain ⟨hcl, hfz⟩ := bcell hb; have k0 : w1.cell? ⟨w.heap.size, 0, none⟩ = some (.int .i64 0) := (hcl _ _ (by simp; omega)).trans (by simp [go_sem]); have k1 : w1.cell? ⟨w.heap.size, 1, none⟩ = some (.int .i64 0) := (hcl _ _ (by simp; omega)).trans (by simp [go_sem]))
                  refine bodyPost_ret (v := .tuple #[.agg #[.int .i64 0, .int .i64 0], .bool false]) (by simp [results, Try.results171, go_sem, k0, k1]) rfl ⟨_, _, _, rfl, hfin.out, ?_⟩
                  exact (((((Below.refl _ _).alloc (Nat.le_refl _) _).alloc (by simp) _).trans (hb.mono (by simp; omega))).setCell (Nat.le_refl _) _).setCell (Nat.le_refl _) _
                · rw [hok] at cd
                  go_wp2_with (go_at_call 126; refine (cd _).mono ?_; rintro e w1 ⟨rfl, hb⟩; obtain ⟨hcl, hfz⟩ := bcell hb; have k0 : w1.cell? ⟨w.heap.size, 0, none⟩ = some (.int .i64 0) := (hcl _ _ (by simp; omega)).trans (by simp [go_sem]); have k1 : w1.cell? ⟨w.heap.size, 1, none⟩ = some (.int .i64 0) := (hcl _ _ (by simp; omega)).trans (by simp [go_sem]))
                  refine bodyPost_ret (v := .tuple #[.agg #[.int .i64 m, .int .i64 y], .bool true]) (by simp [results, Try.results171, go_sem, k0, k1]) rfl ⟨_, _, _, rfl, isNew_yes hin.out hs hok, ?_⟩
                  exact (((((Below.refl _ _).alloc (Nat.le_refl _) _).alloc (by simp) _).trans (hb.mono (by simp; omega))).setCell (Nat.le_refl _) _).setCell (Nat.le_refl _) _
      · have hb : IsNew n x 0 0 false := isNew_out (fun h => hx1 h.2.2)
        go_enter Try.func171, Try.ntmps171
        go_wp2_with (go_at_call 157; refine (c0 _).mono ?_; rintro e w' ⟨rfl, rfl⟩)
        refine bodyPost_ret (v := .tuple #[.agg #[.int .i64 0, .int .i64 0], .bool false]) (by simp [results, Try.results171, go_sem]) rfl ⟨_, _, _, rfl, hb, ?_⟩
        exact below_box _ _
    · have hb : IsNew n x 0 0 false := isNew_out (fun h => hx0 h.2.1)
      go_enter Try.func171, Try.ntmps171
      go_wp2_with (go_at_call 157; refine (c0 _).mono ?_; rintro e w' ⟨rfl, rfl⟩)
      refine bodyPost_ret (v := .tuple #[.agg #[.int .i64 0, .int .i64 0], .bool false]) (by simp [results, Try.results171, go_sem]) rfl ⟨_, _, _, rfl, hb, ?_⟩
      exact below_box _ _
  · have hb : IsNew n x 0 0 false := isNew_out (fun h => hd (by have := h.1; omega))
    go_enter Try.func171, Try.ntmps171
    go_wp2_with (go_at_call 157; refine (c0 _).mono ?_; rintro e w' ⟨rfl, rfl⟩)
    refine bodyPost_ret (v := .tuple #[.agg #[.int .i64 0, .int .i64 0], .bool false]) (by simp [results, Try.results171, go_sem]) rfl ⟨_, _, _, rfl, hb, ?_⟩
    exact below_box _ _
end Go.Proofs.Ytnikcgmbkmbloaa
/- A law's decimal number handed to the program: the conversion, the comparison. -/
namespace Go.Proofs.Ytnikcgmbkmbloaa
open Go.RowKit
end Go.Proofs.Ytnikcgmbkmbloaa
/- What LessDec of the program and of the model returns: whether both are numbers and the one is less. -/
namespace Go.Proofs.Ytnikcgmbkmbloaa
open Go.RowKit
theorem pow_split {x : Int} (h0 : -16 ≤ x) (h1 : x ≤ 0) : (10 : Int) ^ (-x).toNat * 10 ^ (16 + x).toNat = 10000000000000000 := by
  rw [← Int.pow_add, show (-x).toNat + (16 + x).toNat = 16 by omega]; rfl
theorem lo_bound {n q r : Int} (hq : 0 < q) (hr : 0 < r) (h : q * r = 10000000000000000) : -10000000000000000 ≤ n.tmod q * r ∧ n.tmod q * r ≤ 10000000000000000 := by
  have h1 : n.tmod q < q := Int.tmod_lt_of_pos _ hq
  have h2 : -q < n.tmod q := by
    have := Int.tmod_lt_of_pos (-n) hq
    rw [Int.neg_tmod] at this; omega
  have h3 : n.tmod q * r ≤ q * r := Int.mul_le_mul_of_nonneg_right (by omega) (by omega)
  have h4 : (-q) * r ≤ n.tmod q * r := Int.mul_le_mul_of_nonneg_right (by omega) (by omega)
  rw [Int.neg_mul] at h4
  omega
theorem hi_bound {n q : Int} (h : n.natAbs < 100000000000000000) : -100000000000000000 ≤ n.tdiv q ∧ n.tdiv q ≤ 100000000000000000 := by
  have h1 : (n.tdiv q).natAbs ≤ n.natAbs := by rw [Int.natAbs_tdiv]; exact Nat.div_le_self _ _
  omega
set_option maxRecDepth 100000 in
theorem parts_impl (n x : Int) (w : World) (hv : decOk n x = true) : Calls Try.prog 158 #[.agg #[.int .i64 n, .int .i64 x]] w fun e w' => e = .returned (.tuple #[.int .i64 (hiV n x), .int .i64 (loV n x)]) ∧ Below w.heap.size w w' := by
  obtain ⟨r0, r1, r2, _, _⟩ := decOk_range hv
  have hs := pow_split r0 r1
  have cp := relCall (fun W => pow_impl 10 (-x) W) (N := (w.alloc (.cells #[.int .i64 n, .int .i64 x] 140)).heap.size) (W0 := w.alloc (.cells #[.int .i64 n, .int .i64 x] 140))
  have cr := relCall (fun W => pow_impl 10 (16 + x) W) (N := (w.alloc (.cells #[.int .i64 n, .int .i64 x] 140)).heap.size) (W0 := w.alloc (.cells #[.int .i64 n, .int .i64 x] 140))
  unfold hiV loV
  rw [show powV 10 (-x) = 10 ^ (-x).toNat from by unfold powV; rw [if_pos ⟨by decide, by omega, by omega⟩]] at cp
  rw [show powV 10 (16 + x) = 10 ^ (16 + x).toNat from by unfold powV; rw [if_pos ⟨by decide, by omega, by omega⟩]] at cr
  have hq : (0 : Int) < 10 ^ (-x).toNat := Int.pow_pos (by decide)
  have hr : (0 : Int) < 10 ^ (16 + x).toNat := Int.pow_pos (by decide)
  generalize (10 : Int) ^ (-x).toNat = q at *
  generalize (10 : Int) ^ (16 + x).toNat = r at *
  have hb := lo_bound (n := n) hq hr hs
  have hh := hi_bound (q := q) r2
  have w1 : IntKind.i64.wrap (16 + x) = 16 + x := IntWalk.i64_in _ (by omega)
  have w2 : IntKind.i64.wrap (n.tdiv q) = n.tdiv q := IntWalk.i64_in _ (by omega)
  have w3 : IntKind.i64.wrap (n.tmod q * r) = n.tmod q * r := IntWalk.i64_in _ (by omega)
  have q0 : (q == 0) = false := by simp; omega
  have q1 : q ≠ 0 := by omega
  have hkeep : ∀ W' : World, Below (w.alloc (.cells #[.int .i64 n, .int .i64 x] 140)).heap.size (w.alloc (.cells #[.int .i64 n, .int .i64 x] 140)) W' → (w.alloc (.cells #[.int .i64 n, .int .i64 x] 140)).heap.size ≤ W'.heap.size →
      Below (w.alloc (.cells #[.int .i64 n, .int .i64 x] 140)).heap.size (w.alloc (.cells #[.int .i64 n, .int .i64 x] 140)) W' ∧ (w.alloc (.cells #[.int .i64 n, .int .i64 x] 140)).heap.size ≤ W'.heap.size ∧ W'.cell? ⟨w.heap.size, 0, none⟩ = some (.int .i64 n) ∧ W'.cell? ⟨w.heap.size, 1, none⟩ = some (.int .i64 x) := fun W' hb hN =>
    ⟨hb, hN, (hb.cell (p := ⟨w.heap.size, 0, none⟩) (by simp)).trans (by simp [go_sem]), (hb.cell (p := ⟨w.heap.size, 1, none⟩) (by simp)).trans (by simp [go_sem])⟩
  clear hs hb hh hv hr hq r2
  go_enter Try.func158, Try.ntmps158
  go_wp2_with (go_at_call 174; refine (cp _ (Below.refl _ _) (Nat.le_refl _)).mono ?_; rintro e w' ⟨rfl, hb, hN⟩; obtain ⟨_, _, _, _⟩ := hkeep _ hb hN)
  go_region_held3 (fun W' => Below (w.alloc (.cells #[.int .i64 n, .int .i64 x] 140)).heap.size (w.alloc (.cells #[.int .i64 n, .int .i64 x] 140)) W' ∧ (w.alloc (.cells #[.int .i64 n, .int .i64 x] 140)).heap.size ≤ W'.heap.size ∧ W'.cell? ⟨w.heap.size, 0, none⟩ = some (.int .i64 n) ∧ W'.cell? ⟨w.heap.size, 1, none⟩ = some (.int .i64 x)) (first | (refine hkeep _ ?_ ?_ <;> assumption) | (refine hkeep _ (Below.drew ?_) ?_ <;> assumption)) ((first | (go_at_call 174; go_split_ands; refine (cr _ ?_ ?_).mono ?_; assumption; assumption; rintro e w' ⟨rfl, hb', hN'⟩)))
  all_goals
    go_wp2
    go_ret2
    exact ⟨rfl, (below_box _ _).trans ((by assumption : Below (w.alloc _).heap.size (w.alloc _) _).mono (by simp))⟩
set_option maxRecDepth 100000 in
theorem parts_spec (n x : Int) (w : World) (hv : decOk n x = true) : Calls Try.prog 176 #[.agg #[.int .i64 n, .int .i64 x]] w fun e w' => e = .returned (.tuple #[.int .i64 (hiV n x), .int .i64 (loV n x)]) ∧ Below w.heap.size w w' := by
  obtain ⟨r0, r1, r2, _, _⟩ := decOk_range hv
  have hs := pow_split r0 r1
  have cp := fun W => pow_spec 10 (-x) W
  have cr := fun W => pow_spec 10 (16 + x) W
  unfold hiV loV
  rw [show powV 10 (-x) = 10 ^ (-x).toNat from by unfold powV; rw [if_pos ⟨by decide, by omega, by omega⟩]] at cp
  rw [show powV 10 (16 + x) = 10 ^ (16 + x).toNat from by unfold powV; rw [if_pos ⟨by decide, by omega, by omega⟩]] at cr
  have hq : (0 : Int) < 10 ^ (-x).toNat := Int.pow_pos (by decide)
  have hr : (0 : Int) < 10 ^ (16 + x).toNat := Int.pow_pos (by decide)
  generalize (10 : Int) ^ (-x).toNat = q at *
  generalize (10 : Int) ^ (16 + x).toNat = r at *
  have hb := lo_bound (n := n) hq hr hs
  have hh := hi_bound (q := q) r2
  have w1 : IntKind.i64.wrap (16 + x) = 16 + x := IntWalk.i64_in _ (by omega)
  have w2 : IntKind.i64.wrap (n.tdiv q) = n.tdiv q := IntWalk.i64_in _ (by omega)
  have w3 : IntKind.i64.wrap (n.tmod q * r) = n.tmod q * r := IntWalk.i64_in _ (by omega)
  have q0 : (q == 0) = false := by simp; omega
  have q1 : q ≠ 0 := by omega
  clear hs hb hh hv hr hq r2
  go_enter Try.func176, Try.ntmps176
  go_wp2_with (go_at_call 188; refine (cp _).mono ?_; rintro e w' ⟨rfl, rfl⟩)
  have k0 : (w.alloc (.cells #[.int .i64 n, .int .i64 x] 140)).cell? ⟨w.heap.size, 0, none⟩ = some (.int .i64 n) := by simp [go_sem]
  have k1 : (w.alloc (.cells #[.int .i64 n, .int .i64 x] 140)).cell? ⟨w.heap.size, 1, none⟩ = some (.int .i64 x) := by simp [go_sem]
  have hB := below_box w (.cells #[.int .i64 n, .int .i64 x] 140)
  generalize w.alloc (.cells #[.int .i64 n, .int .i64 x] 140) = W0 at *
  go_region_held3 (fun W' => Below w.heap.size w W' ∧ W'.cell? ⟨w.heap.size, 0, none⟩ = some (.int .i64 n) ∧ W'.cell? ⟨w.heap.size, 1, none⟩ = some (.int .i64 x)) (first | (refine ⟨?_, ?_, ?_⟩ <;> assumption) | (refine ⟨Below.drew ?_, ?_, ?_⟩ <;> assumption)) ((first | (go_at_call 188; refine (cr _).mono ?_; rintro e w' ⟨rfl, rfl⟩)))
  all_goals
    go_wp2
    go_ret2
    go_split_ands
    exact ⟨rfl, by assumption⟩
theorem less_bad {n x N X : Int} (h : decOk n x = false ∨ decOk N X = false) : lessB n x N X = false := by
  unfold lessB
  rcases h with h | h <;> simp [h]
theorem less_good {n x N X : Int} (h : decOk n x = true) (k : decOk N X = true) : lessB n x N X = (decide (hiV n x < hiV N X) || (hiV n x == hiV N X && decide (loV n x < loV N X))) := by
  unfold lessB; rw [h, k]; rfl
set_option maxRecDepth 100000 in
set_option maxHeartbeats 1000000 in
theorem less_impl (n x N X : Int) (w : World) (h0 : -9223372036854775808 ≤ n) (h1 : n ≤ 9223372036854775807) (H0 : -9223372036854775808 ≤ N) (H1 : N ≤ 9223372036854775807) :
    Calls Try.prog 128 #[.agg #[.int .i64 n, .int .i64 x], .agg #[.int .i64 N, .int .i64 X]] w fun e w' => e = .returned (.bool (lessB n x N X)) ∧ Below w.heap.size w w' := by
  have hW : ∃ W0 : World, W0 = (w.alloc (.cells #[.int .i64 n, .int .i64 x] 140)).alloc (.cells #[.int .i64 N, .int .i64 X] 140) := ⟨_, rfl⟩
  obtain ⟨W0, hW⟩ := hW
  have hcells : ∀ W', Below W0.heap.size W0 W' → W'.cell? ⟨w.heap.size, 0, none⟩ = some (.int .i64 n) ∧ W'.cell? ⟨w.heap.size, 1, none⟩ = some (.int .i64 x) ∧ W'.cell? ⟨w.heap.size + 1, 0, none⟩ = some (.int .i64 N) ∧ W'.cell? ⟨w.heap.size + 1, 1, none⟩ = some (.int .i64 X) := fun W' hb => by
    subst hW
    exact ⟨(hb.cell (p := ⟨w.heap.size, 0, none⟩) (by simp; omega)).trans (by simp [go_sem]), (hb.cell (p := ⟨w.heap.size, 1, none⟩) (by simp; omega)).trans (by simp [go_sem]), (hb.cell (p := ⟨w.heap.size + 1, 0, none⟩) (by simp)).trans (by simp [go_sem]), (hb.cell (p := ⟨w.heap.size + 1, 1, none⟩) (by simp)).trans (by simp [go_sem])⟩
  have hend : ∀ W', Below W0.heap.size W0 W' → Below w.heap.size w W' := fun W' hb => by
    subst hW
    exact ((Below.refl _ _).alloc (Nat.le_refl _) _).alloc (by simp) _ |>.trans (hb.mono (by simp; omega))
  have ca := relCall (fun W => decok_impl n x W h0 h1) (N := W0.heap.size) (W0 := W0)
  have cb := relCall (fun W => decok_impl N X W H0 H1) (N := W0.heap.size) (W0 := W0)
  have hB := Below.refl W0.heap.size W0
  have hN := Nat.le_refl W0.heap.size
  cases hv : decOk n x
  · rw [hv] at ca
    rw [less_bad (.inl hv)]
    go_enter Try.func128, Try.ntmps128
    go_wp2_with fail
    rw [← hW]
    refine (ca _ hB hN).mono ?_
    rintro e w' ⟨rfl, hB', hN'⟩
    go_wp2
    go_ret
    exact ⟨rfl, hend _ hB'⟩
  · rw [hv] at ca
    cases hk : decOk N X
    · rw [hk] at cb
      rw [less_bad (.inr hk)]
      go_enter Try.func128, Try.ntmps128
      go_wp2_with fail
      rw [← hW]
      refine (ca _ hB hN).mono ?_
      rintro e w' ⟨rfl, hB', hN'⟩
      obtain ⟨_, _, _, _⟩ := hcells _ hB'
      go_wp2_with fail
      refine (cb _ hB' hN').mono ?_
      rintro e w' ⟨rfl, hB', hN'⟩
      go_wp2
      go_ret
      exact ⟨rfl, hend _ hB'⟩
    · rw [hk] at cb
      rw [less_good hv hk]
      have pa := relCall (fun W => parts_impl n x W hv) (N := W0.heap.size) (W0 := W0)
      have pb := relCall (fun W => parts_impl N X W hk) (N := W0.heap.size) (W0 := W0)
      generalize hiV n x = p1 at *
      generalize hiV N X = p2 at *
      generalize loV n x = l1 at *
      generalize loV N X = l2 at *
      clear h0 h1 H0 H1 hv hk
      by_cases hp : p1 = p2
      · subst hp
        have he : (decide (p1 < p1) || (p1 == p1 && decide (l1 < l2))) = decide (l1 < l2) := by simp
        rw [he]
        clear he
        go_enter Try.func128, Try.ntmps128
        go_wp2_with fail
        rw [← hW]
        refine (ca _ hB hN).mono ?_
        clear hB hN
        rintro e w' ⟨rfl, hB, hN⟩
        obtain ⟨_, _, _, _⟩ := hcells _ hB
        go_wp2_with fail
        refine (cb _ hB hN).mono ?_
        clear hB hN
        rintro e w' ⟨rfl, hB, hN⟩
        obtain ⟨_, _, _, _⟩ := hcells _ hB
        go_wp2_with fail
        refine (pa _ hB hN).mono ?_
        clear hB hN
        rintro e w' ⟨rfl, hB, hN⟩
        obtain ⟨_, _, _, _⟩ := hcells _ hB
        go_wp2_with fail
        refine (pb _ hB hN).mono ?_
        clear hB hN
        rintro e w' ⟨rfl, hB, hN⟩
        go_wp2
        go_ret
        exact ⟨rfl, hend _ hB⟩
      · have he : (decide (p1 < p2) || (p1 == p2 && decide (l1 < l2))) = decide (p1 < p2) := by simp [hp]
        have hpn : (p1 != p2) = true := by simpa using hp
        rw [he]
        clear he
        go_enter Try.func128, Try.ntmps128
        go_wp2_with fail
        rw [← hW]
        refine (ca _ hB hN).mono ?_
        clear hB hN
        rintro e w' ⟨rfl, hB, hN⟩
        obtain ⟨_, _, _, _⟩ := hcells _ hB
        go_wp2_with fail
        refine (cb _ hB hN).mono ?_
        clear hB hN
        rintro e w' ⟨rfl, hB, hN⟩
        obtain ⟨_, _, _, _⟩ := hcells _ hB
        go_wp2_with fail
        refine (pa _ hB hN).mono ?_
        clear hB hN
        rintro e w' ⟨rfl, hB, hN⟩
        obtain ⟨_, _, _, _⟩ := hcells _ hB
        go_wp2_with fail
        refine (pb _ hB hN).mono ?_
        clear hB hN
        rintro e w' ⟨rfl, hB, hN⟩
        go_wp2
        go_ret
        exact ⟨rfl, hend _ hB⟩
set_option maxRecDepth 100000 in
set_option maxHeartbeats 1000000 in
theorem less_spec (n x N X : Int) (w : World) (h0 : -9223372036854775808 ≤ n) (h1 : n ≤ 9223372036854775807) (H0 : -9223372036854775808 ≤ N) (H1 : N ≤ 9223372036854775807) :
    Calls Try.prog 160 #[.agg #[.int .i64 n, .int .i64 x], .agg #[.int .i64 N, .int .i64 X]] w fun e w' => e = .returned (.bool (lessB n x N X)) ∧ Below w.heap.size w w' := by
  have hW : ∃ W0 : World, W0 = (w.alloc (.cells #[.int .i64 n, .int .i64 x] 140)).alloc (.cells #[.int .i64 N, .int .i64 X] 140) := ⟨_, rfl⟩
  obtain ⟨W0, hW⟩ := hW
  have hcells : ∀ W', Below W0.heap.size W0 W' → W'.cell? ⟨w.heap.size, 0, none⟩ = some (.int .i64 n) ∧ W'.cell? ⟨w.heap.size, 1, none⟩ = some (.int .i64 x) ∧ W'.cell? ⟨w.heap.size + 1, 0, none⟩ = some (.int .i64 N) ∧ W'.cell? ⟨w.heap.size + 1, 1, none⟩ = some (.int .i64 X) := fun W' hb => by
    subst hW
    exact ⟨(hb.cell (p := ⟨w.heap.size, 0, none⟩) (by simp; omega)).trans (by simp [go_sem]), (hb.cell (p := ⟨w.heap.size, 1, none⟩) (by simp; omega)).trans (by simp [go_sem]), (hb.cell (p := ⟨w.heap.size + 1, 0, none⟩) (by simp)).trans (by simp [go_sem]), (hb.cell (p := ⟨w.heap.size + 1, 1, none⟩) (by simp)).trans (by simp [go_sem])⟩
  have hend : ∀ W', Below W0.heap.size W0 W' → Below w.heap.size w W' := fun W' hb => by
    subst hW
    exact ((Below.refl _ _).alloc (Nat.le_refl _) _).alloc (by simp) _ |>.trans (hb.mono (by simp; omega))
  have ca := relCall (fun W => decok_spec n x W h0 h1) (N := W0.heap.size) (W0 := W0)
  have cb := relCall (fun W => decok_spec N X W H0 H1) (N := W0.heap.size) (W0 := W0)
  have hB := Below.refl W0.heap.size W0
  have hN := Nat.le_refl W0.heap.size
  cases hv : decOk n x
  · rw [hv] at ca
    rw [less_bad (.inl hv)]
    go_enter Try.func160, Try.ntmps160
    go_wp2_with fail
    rw [← hW]
    refine (ca _ hB hN).mono ?_
    rintro e w' ⟨rfl, hB', hN'⟩
    go_wp2
    go_ret
    exact ⟨rfl, hend _ hB'⟩
  · rw [hv] at ca
    cases hk : decOk N X
    · rw [hk] at cb
      rw [less_bad (.inr hk)]
      go_enter Try.func160, Try.ntmps160
      go_wp2_with fail
      rw [← hW]
      refine (ca _ hB hN).mono ?_
      rintro e w' ⟨rfl, hB', hN'⟩
      obtain ⟨_, _, _, _⟩ := hcells _ hB'
      go_wp2_with fail
      refine (cb _ hB' hN').mono ?_
      rintro e w' ⟨rfl, hB', hN'⟩
      go_wp2
      go_ret
      exact ⟨rfl, hend _ hB'⟩
    · rw [hk] at cb
      rw [less_good hv hk]
      have pa := relCall (fun W => parts_spec n x W hv) (N := W0.heap.size) (W0 := W0)
      have pb := relCall (fun W => parts_spec N X W hk) (N := W0.heap.size) (W0 := W0)
      generalize hiV n x = p1 at *
      generalize hiV N X = p2 at *
      generalize loV n x = l1 at *
      generalize loV N X = l2 at *
      clear h0 h1 H0 H1 hv hk
      rcases Int.lt_trichotomy p1 p2 with hp | hp | hp
      · have he : (decide (p1 < p2) || (p1 == p2 && decide (l1 < l2))) = true := by simp [hp]
        rw [he]
        clear he
        go_enter Try.func160, Try.ntmps160
        go_wp2_with fail
        rw [← hW]
        refine (ca _ hB hN).mono ?_
        clear hB hN
        rintro e w' ⟨rfl, hB, hN⟩
        obtain ⟨_, _, _, _⟩ := hcells _ hB
        go_wp2_with fail
        refine (cb _ hB hN).mono ?_
        clear hB hN
        rintro e w' ⟨rfl, hB, hN⟩
        obtain ⟨_, _, _, _⟩ := hcells _ hB
        go_wp2_with fail
        refine (pa _ hB hN).mono ?_
        clear hB hN
        rintro e w' ⟨rfl, hB, hN⟩
        obtain ⟨_, _, _, _⟩ := hcells _ hB
        go_wp2_with fail
        refine (pb _ hB hN).mono ?_
        clear hB hN
        rintro e w' ⟨rfl, hB, hN⟩
        go_wp2
        go_ret
        exact ⟨rfl, hend _ hB⟩
      · subst hp
        have he : (decide (p1 < p1) || (p1 == p1 && decide (l1 < l2))) = decide (l1 < l2) := by simp
        rw [he]
        clear he
        go_enter Try.func160, Try.ntmps160
        go_wp2_with fail
        rw [← hW]
        refine (ca _ hB hN).mono ?_
        clear hB hN
        rintro e w' ⟨rfl, hB, hN⟩
        obtain ⟨_, _, _, _⟩ := hcells _ hB
        go_wp2_with fail
        refine (cb _ hB hN).mono ?_
        clear hB hN
        rintro e w' ⟨rfl, hB, hN⟩
        obtain ⟨_, _, _, _⟩ := hcells _ hB
        go_wp2_with fail
        refine (pa _ hB hN).mono ?_
        clear hB hN
        rintro e w' ⟨rfl, hB, hN⟩
        obtain ⟨_, _, _, _⟩ := hcells _ hB
        go_wp2_with fail
        refine (pb _ hB hN).mono ?_
        clear hB hN
        rintro e w' ⟨rfl, hB, hN⟩
        go_wp2
        go_ret
        exact ⟨rfl, hend _ hB⟩
      · have he : (decide (p1 < p2) || (p1 == p2 && decide (l1 < l2))) = false := by simp; omega
        have hpn : (p1 == p2) = false := by simp; omega
        have hpm : decide (p1 < p2) = false := by simp; omega
        rw [he]
        clear he
        go_enter Try.func160, Try.ntmps160
        go_wp2_with fail
        rw [← hW]
        refine (ca _ hB hN).mono ?_
        clear hB hN
        rintro e w' ⟨rfl, hB, hN⟩
        obtain ⟨_, _, _, _⟩ := hcells _ hB
        go_wp2_with fail
        refine (cb _ hB hN).mono ?_
        clear hB hN
        rintro e w' ⟨rfl, hB, hN⟩
        obtain ⟨_, _, _, _⟩ := hcells _ hB
        go_wp2_with fail
        refine (pa _ hB hN).mono ?_
        clear hB hN
        rintro e w' ⟨rfl, hB, hN⟩
        obtain ⟨_, _, _, _⟩ := hcells _ hB
        go_wp2_with fail
        refine (pb _ hB hN).mono ?_
        clear hB hN
        rintro e w' ⟨rfl, hB, hN⟩
        go_wp2
        go_ret
        exact ⟨rfl, hend _ hB⟩
end Go.Proofs.Ytnikcgmbkmbloaa
