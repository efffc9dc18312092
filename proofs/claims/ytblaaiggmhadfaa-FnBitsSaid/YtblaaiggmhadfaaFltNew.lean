/- What FltNew of the program and of the model returns: the number's one valid form, or none where there is none. -/
import Derived.Test.YtblaaiggmhadfaaFltOk
import Derived.Test.YtblaaiggmhadfaaMem
namespace Go.Proofs.Ytblaaiggmhadfaa
open Go.RowKit
theorem fcell {W w1 : World} (hb : Below W.heap.size W w1) : (∀ b o, b < W.heap.size → w1.cell? ⟨b, o, none⟩ = W.cell? ⟨b, o, none⟩) ∧ (∀ b o, b < W.heap.size → w1.frozen? ⟨b, o, none⟩ = W.frozen? ⟨b, o, none⟩) :=
  ⟨fun b o h => hb.cell (p := ⟨b, o, none⟩) h, fun b o h => hb.frozen (p := ⟨b, o, none⟩) h⟩
def FNewPost (m e : Int) (w : World) (r : Ending) (w' : World) : Prop := ∃ (M E : Int) (ok : Bool), r = .returned (.tuple #[.agg #[.int .i64 M, .int .i64 E], .bool ok]) ∧ IsFlt m e M E ok ∧ Below w.heap.size w w'

set_option maxRecDepth 100000 in
set_option maxHeartbeats 2000000 in
theorem fltnew_impl (m e : Int) (w : World) (h0 : -9223372036854775808 ≤ m) (h1 : m ≤ 9223372036854775807) (k0 : -9223372036854775808 ≤ e) (k1 : e ≤ 9223372036854775807) :
    Calls Try.prog 35 #[.int .i64 m, .int .i64 e] w (FNewPost m e w) := by
  by_cases hm : -1000000000000000 ≤ m ∧ m ≤ 1000000000000000
  · by_cases he : -100 ≤ e ∧ e ≤ 100
    · have hin : Hid (fltIn m e) := Lib.hid ⟨by omega, he.1, he.2⟩
      obtain ⟨m0, m1⟩ := hm
      obtain ⟨e0, e1⟩ := he
      clear h0 h1 k0 k1
      by_cases hz : m = 0
      · subst hz
        go_enter Try.func35, Try.ntmps35
        go_wp2
        refine bodyPost_ret (v := .tuple #[.agg #[.int .i64 0, .int .i64 0], .bool true]) (by simp [results, Try.results35, go_sem]) rfl ⟨_, _, _, rfl, isFlt_zero hin.out, ?_⟩
        exact fbox _ _
      · have hzb : (m == 0) = false := by simpa using hz
        go_enter Try.func35, Try.ntmps35
        go_wp2
        go_loop [0, 1] (fun a b => ∃ M E : Int, a = .int .i64 M ∧ b = .int .i64 E ∧ Strip m e M E) (fun a _ => (intOf a).natAbs)
        case atStart => exact ⟨_, _, rfl, rfl, strip_start hz⟩
        case round =>
          obtain ⟨M, E, rfl, rfl, hs⟩ := hrel
          obtain ⟨b1, b2⟩ := strip_bound hs hin.out.1
          have b3 := hs.2.1
          have hM := hs.1
          have c1 : -1000000000000000 ≤ M := by omega
          have c2 : M ≤ 1000000000000000 := by omega
          clear hz hzb m0 m1 b1
          by_cases ht : M.tmod 2 = 0
          · have hs2 := Lib.hid (strip_step hs ht)
            have hl := Lib.hid (strip_less hM ht)
            have htb : (M.tmod 2 == 0) = true := by simpa using ht
            clear hs ht hM
            go_wp2
            go_round
            case rel => exact ⟨_, _, rfl, rfl, hs2.out⟩
            case measure => exact hl.out
          · have htb : (M.tmod 2 == 0) = false := by simpa using ht
            have hsame := strip_same hs hin.out.2.1
            have cok := fun w1 => fltok_impl M E w1 (by omega) (by omega) (by omega) (by omega)
            cases hok : fltOk M E
            · rw [hok] at cok
              have hfin := Lib.hid (isFlt_no hsame (by omega) ht hok)
              clear hs hsame ht hok hM
              go_wp2_with (go_at_call 16; refine (cok _).mono ?_; rintro r w2 ⟨rfl, hb2⟩; obtain ⟨hcl, hfz⟩ := fcell hb2; have r0 : w2.cell? ⟨w.heap.size, 0, none⟩ = some (.int .i64 0) := (hcl _ _ (by simp; omega)).trans (by simp [go_sem]); have r1 : w2.cell? ⟨w.heap.size, 1, none⟩ = some (.int .i64 0) := (hcl _ _ (by simp; omega)).trans (by simp [go_sem]); have z0 : w2.frozen? ⟨w.heap.size, 0, none⟩ = false := (hfz _ _ (by simp; omega)).trans (by simp [go_sem]); have z1 : w2.frozen? ⟨w.heap.size, 1, none⟩ = false := (hfz _ _ (by simp; omega)).trans (by simp [go_sem]))
              refine bodyPost_ret (v := .tuple #[.agg #[.int .i64 0, .int .i64 0], .bool false]) (by simp [results, Try.results35, go_sem, r0, r1]) rfl ⟨_, _, _, rfl, hfin.out, ?_⟩
              exact (((((Below.refl _ _).alloc (Nat.le_refl _) _).alloc (by simp) _).trans (hb2.mono (by simp; omega))).setCell (Nat.le_refl _) _).setCell (Nat.le_refl _) _
            · rw [hok] at cok
              have hfin := Lib.hid (isFlt_yes hin.out hsame hok)
              clear hs hsame ht hok hM
              go_wp2_with (go_at_call 16; refine (cok _).mono ?_; rintro r w2 ⟨rfl, hb2⟩; obtain ⟨hcl, hfz⟩ := fcell hb2; have r0 : w2.cell? ⟨w.heap.size, 0, none⟩ = some (.int .i64 0) := (hcl _ _ (by simp; omega)).trans (by simp [go_sem]); have r1 : w2.cell? ⟨w.heap.size, 1, none⟩ = some (.int .i64 0) := (hcl _ _ (by simp; omega)).trans (by simp [go_sem]); have z0 : w2.frozen? ⟨w.heap.size, 0, none⟩ = false := (hfz _ _ (by simp; omega)).trans (by simp [go_sem]); have z1 : w2.frozen? ⟨w.heap.size, 1, none⟩ = false := (hfz _ _ (by simp; omega)).trans (by simp [go_sem]); have f0 : w2.cell? ⟨w.heap.size + 1, 0, none⟩ = some (.int .i64 M) := (hcl _ _ (by simp)).trans (by simp [go_sem]); have f1 : w2.cell? ⟨w.heap.size + 1, 1, none⟩ = some (.int .i64 E) := (hcl _ _ (by simp)).trans (by simp [go_sem]))
              refine bodyPost_ret (v := .tuple #[.agg #[.int .i64 M, .int .i64 E], .bool true]) (by simp [results, Try.results35, go_sem, r0, r1]) rfl ⟨_, _, _, rfl, hfin.out, ?_⟩
              exact (((((Below.refl _ _).alloc (Nat.le_refl _) _).alloc (by simp) _).trans (hb2.mono (by simp; omega))).setCell (Nat.le_refl _) _).setCell (Nat.le_refl _) _
    · have hfin := Lib.hid (isFlt_out (m := m) (e := e) (fun h => he h.2))
      obtain ⟨m0, m1⟩ := hm
      rcases (show e < -100 ∨ 100 < e by omega) with hl | hl
      all_goals
        clear he
        go_enter Try.func35, Try.ntmps35
        go_wp2
        refine bodyPost_ret (v := .tuple #[.agg #[.int .i64 0, .int .i64 0], .bool false]) (by simp [results, Try.results35, go_sem]) rfl ⟨_, _, _, rfl, hfin.out, ?_⟩
        exact fbox _ _
  · have hfin := Lib.hid (isFlt_out (m := m) (e := e) (fun h => hm (by have := h.1; omega)))
    rcases (show m < -1000000000000000 ∨ 1000000000000000 < m by omega) with hl | hl
    all_goals
      clear hm
      go_enter Try.func35, Try.ntmps35
      go_wp2
      refine bodyPost_ret (v := .tuple #[.agg #[.int .i64 0, .int .i64 0], .bool false]) (by simp [results, Try.results35, go_sem]) rfl ⟨_, _, _, rfl, hfin.out, ?_⟩
      exact fbox _ _
set_option maxRecDepth 100000 in
set_option maxHeartbeats 2000000 in
theorem fltnew_spec (m e : Int) (w : World) (h0 : -9223372036854775808 ≤ m) (h1 : m ≤ 9223372036854775807) (k0 : -9223372036854775808 ≤ e) (k1 : e ≤ 9223372036854775807) :
    Calls Try.prog 38 #[.int .i64 m, .int .i64 e] w (FNewPost m e w) := by
  by_cases hm : -1000000000000000 ≤ m ∧ m ≤ 1000000000000000
  · by_cases he : -100 ≤ e ∧ e ≤ 100
    · have hin : Hid (fltIn m e) := Lib.hid ⟨by omega, he.1, he.2⟩
      have q1 : decide (-1000000000000000 ≤ m ∧ m ≤ 1000000000000000) = true := by simpa using hm
      have q2 : decide (-100 ≤ e ∧ e ≤ 100) = true := by simpa using he
      obtain ⟨m0, m1⟩ := hm
      obtain ⟨e0, e1⟩ := he
      clear h0 h1 k0 k1
      by_cases hz : m = 0
      · subst hz
        go_enter Try.func38, Try.ntmps38
        go_wp2_with (go_at_call 37; refine (in_any _ _ _ _).mono ?_; rintro r w' ⟨rfl, rfl⟩)
        refine bodyPost_ret (v := .tuple #[.agg #[.int .i64 0, .int .i64 0], .bool true]) (by simp [results, Try.results38, go_sem]) rfl ⟨_, _, _, rfl, isFlt_zero hin.out, ?_⟩
        exact fbox _ _
      · have hzb : (m == 0) = false := by simpa using hz
        go_enter Try.func38, Try.ntmps38
        go_wp2_with (go_at_call 37; refine (in_any _ _ _ _).mono ?_; rintro r w' ⟨rfl, rfl⟩)
        go_loop [0, 1] (fun a b => ∃ M E : Int, a = .int .i64 M ∧ b = .int .i64 E ∧ Strip m e M E) (fun a _ => (intOf a).natAbs)
        case atStart => exact ⟨_, _, rfl, rfl, strip_start hz⟩
        case round =>
          obtain ⟨M, E, rfl, rfl, hs⟩ := hrel
          obtain ⟨b1, b2⟩ := strip_bound hs hin.out.1
          have b3 := hs.2.1
          have hM := hs.1
          have c1 : -1000000000000000 ≤ M := by omega
          have c2 : M ≤ 1000000000000000 := by omega
          clear hz hzb m0 m1 b1
          by_cases ht : M.tmod 2 = 0
          · have hs2 := Lib.hid (strip_step hs ht)
            have hl := Lib.hid (strip_less hM ht)
            have htb : (M.tmod 2 == 0) = true := by simpa using ht
            clear hs ht hM
            go_wp2
            go_round
            case rel => exact ⟨_, _, rfl, rfl, hs2.out⟩
            case measure => exact hl.out
          · have htb : (M.tmod 2 == 0) = false := by simpa using ht
            have hsame := strip_same hs hin.out.2.1
            have cok := fun w1 => fltok_spec M E w1 (by omega) (by omega) (by omega) (by omega)
            cases hok : fltOk M E
            · rw [hok] at cok
              have hfin := Lib.hid (isFlt_no hsame (by omega) ht hok)
              clear hs hsame ht hok hM
              go_wp2_with (go_at_call 39; refine (cok _).mono ?_; rintro r w2 ⟨rfl, hb2⟩; obtain ⟨hcl, hfz⟩ := fcell hb2; have r0 : w2.cell? ⟨w.heap.size, 0, none⟩ = some (.int .i64 0) := (hcl _ _ (by simp; omega)).trans (by simp [go_sem]); have r1 : w2.cell? ⟨w.heap.size, 1, none⟩ = some (.int .i64 0) := (hcl _ _ (by simp; omega)).trans (by simp [go_sem]); have z0 : w2.frozen? ⟨w.heap.size, 0, none⟩ = false := (hfz _ _ (by simp; omega)).trans (by simp [go_sem]); have z1 : w2.frozen? ⟨w.heap.size, 1, none⟩ = false := (hfz _ _ (by simp; omega)).trans (by simp [go_sem]))
              refine bodyPost_ret (v := .tuple #[.agg #[.int .i64 0, .int .i64 0], .bool false]) (by simp [results, Try.results38, go_sem, r0, r1]) rfl ⟨_, _, _, rfl, hfin.out, ?_⟩
              exact (((((Below.refl _ _).alloc (Nat.le_refl _) _).alloc (by simp) _).trans (hb2.mono (by simp; omega))).setCell (Nat.le_refl _) _).setCell (Nat.le_refl _) _
            · rw [hok] at cok
              have hfin := Lib.hid (isFlt_yes hin.out hsame hok)
              clear hs hsame ht hok hM
              go_wp2_with (go_at_call 39; refine (cok _).mono ?_; rintro r w2 ⟨rfl, hb2⟩; obtain ⟨hcl, hfz⟩ := fcell hb2; have r0 : w2.cell? ⟨w.heap.size, 0, none⟩ = some (.int .i64 0) := (hcl _ _ (by simp; omega)).trans (by simp [go_sem]); have r1 : w2.cell? ⟨w.heap.size, 1, none⟩ = some (.int .i64 0) := (hcl _ _ (by simp; omega)).trans (by simp [go_sem]); have z0 : w2.frozen? ⟨w.heap.size, 0, none⟩ = false := (hfz _ _ (by simp; omega)).trans (by simp [go_sem]); have z1 : w2.frozen? ⟨w.heap.size, 1, none⟩ = false := (hfz _ _ (by simp; omega)).trans (by simp [go_sem]); have f0 : w2.cell? ⟨w.heap.size + 1, 0, none⟩ = some (.int .i64 M) := (hcl _ _ (by simp)).trans (by simp [go_sem]); have f1 : w2.cell? ⟨w.heap.size + 1, 1, none⟩ = some (.int .i64 E) := (hcl _ _ (by simp)).trans (by simp [go_sem]))
              refine bodyPost_ret (v := .tuple #[.agg #[.int .i64 M, .int .i64 E], .bool true]) (by simp [results, Try.results38, go_sem, r0, r1]) rfl ⟨_, _, _, rfl, hfin.out, ?_⟩
              exact (((((Below.refl _ _).alloc (Nat.le_refl _) _).alloc (by simp) _).trans (hb2.mono (by simp; omega))).setCell (Nat.le_refl _) _).setCell (Nat.le_refl _) _
    · have hfin := Lib.hid (isFlt_out (m := m) (e := e) (fun h => he h.2))
      have q1 : decide (-1000000000000000 ≤ m ∧ m ≤ 1000000000000000) = true := by simpa using hm
      have q2 : decide (-100 ≤ e ∧ e ≤ 100) = false := by simpa using he
      obtain ⟨m0, m1⟩ := hm
      all_goals
        clear he
        go_enter Try.func38, Try.ntmps38
        go_wp2_with (go_at_call 37; refine (in_any _ _ _ _).mono ?_; rintro r w' ⟨rfl, rfl⟩)
        refine bodyPost_ret (v := .tuple #[.agg #[.int .i64 0, .int .i64 0], .bool false]) (by simp [results, Try.results38, go_sem]) rfl ⟨_, _, _, rfl, hfin.out, ?_⟩
        exact fbox _ _
  · have hfin := Lib.hid (isFlt_out (m := m) (e := e) (fun h => hm (by have := h.1; omega)))
    have q1 : decide (-1000000000000000 ≤ m ∧ m ≤ 1000000000000000) = false := by simpa using hm
    all_goals
      clear hm
      go_enter Try.func38, Try.ntmps38
      go_wp2_with (go_at_call 37; refine (in_any _ _ _ _).mono ?_; rintro r w' ⟨rfl, rfl⟩)
      refine bodyPost_ret (v := .tuple #[.agg #[.int .i64 0, .int .i64 0], .bool false]) (by simp [results, Try.results38, go_sem]) rfl ⟨_, _, _, rfl, hfin.out, ?_⟩
      exact fbox _ _
end Go.Proofs.Ytblaaiggmhadfaa
