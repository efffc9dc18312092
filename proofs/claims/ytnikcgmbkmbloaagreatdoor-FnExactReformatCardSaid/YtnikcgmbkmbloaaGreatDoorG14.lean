import Derived.Test.YtnikcgmbkmbloaaGreatDoorG13
import Derived.Deep.LoopGhost
import Derived.WalkMore
import Derived.Deep.RegionHeld3
/- The words of a text: the program's and the model's answers. -/
namespace Go.Proofs.YtnikcgmbkmbloaaGreatDoor
open Go.RowKit
set_option maxRecDepth 100000
theorem pre_get {l : List UInt8} {i : Nat} {w : List UInt8} (h : preAt l i w = true) (m : Nat) (hm : m < w.length) : l[i + m]? = some w[m] := by
  unfold preAt at h
  have e : (l.drop i).take w.length = w := by simpa using h
  have e2 : ((l.drop i).take w.length)[m]? = w[m]? := by rw [e]
  rw [List.getElem?_take_of_lt hm, List.getElem?_drop, List.getElem?_eq_getElem hm] at e2
  exact e2
theorem pre_no {l : List UInt8} {i : Nat} {w : List UInt8} (m : Nat) (hm : m < w.length) (h : atC l (i + m) w[m] = false) : preAt l i w = false := by
  cases hp : preAt l i w
  · rfl
  · have := pre_get hp m hm
    unfold atC at h; rw [this] at h; simp at h
theorem pre_yes {l : List UInt8} {i : Nat} {w : List UInt8} (h : ∀ m (hm : m < w.length), atC l (i + m) w[m] = true) : preAt l i w = true := by
  unfold preAt
  rw [beq_iff_eq]
  apply List.ext_getElem?
  intro m
  rcases Nat.lt_or_ge m w.length with hm | hm
  · have := h m hm
    unfold atC at this
    rw [List.getElem?_take_of_lt hm, List.getElem?_drop, List.getElem?_eq_getElem hm]
    simpa using this
  · rw [List.getElem?_eq_none (by simp; omega), List.getElem?_eq_none hm]
theorem word_none {l : List UInt8} {i : Nat} (h0 : preAt l i wNull = false) (h1 : preAt l i wTrue = false) (h2 : preAt l i wFalse = false) : wordR l i = badR 1 := by unfold wordR; rw [h0, h1, h2]; rfl
theorem word_0 {l : List UInt8} {i : Nat} (h0 : preAt l i wNull = true) : wordR l i = ⟨⟨4, wNull, 0, 0⟩, i + 4, 0⟩ := by unfold wordR; rw [h0]; rfl
theorem word_1 {l : List UInt8} {i : Nat} (h0 : preAt l i wNull = false) (h1 : preAt l i wTrue = true) : wordR l i = ⟨⟨4, wTrue, 0, 0⟩, i + 4, 0⟩ := by unfold wordR; rw [h0, h1]; rfl
theorem word_2 {l : List UInt8} {i : Nat} (h0 : preAt l i wNull = false) (h1 : preAt l i wTrue = false) (h2 : preAt l i wFalse = true) : wordR l i = ⟨⟨4, wFalse, 0, 0⟩, i + 5, 0⟩ := by unfold wordR; rw [h0, h1, h2]; rfl
theorem at_nat {l : List UInt8} {i : Nat} {w : List UInt8} {m : Nat} (h : ∀ k (hk : k < m) (hw : k < w.length), atC l (i + k) w[k] = true) (h2 : ∀ hw : m < w.length, atC l (i + m) w[m] = true) : ∀ k (hk : k < m + 1) (hw : k < w.length), atC l (i + k) w[k] = true := fun k hk hw => by
  by_cases e : k = m
  · subst e; exact h2 hw
  · exact h k (by omega) hw
set_option maxHeartbeats 4000000 in
theorem readword_impl (l : List UInt8) (i : Nat) (w : World) (hl : l.length ≤ 1048576) (hi : i ≤ l.length) :
    Calls Tryz.prog 136 #[.string ⟨l.toArray⟩, .int .i64 i] w fun e w' => e = .returned (wordR l i).val ∧ Below w.heap.size w w' := by
  have CB := Lib.hid (fun c k w1 => bytein_any l [c] k w1 (by omega))
  have hI : (i : Int) ≤ 1048576 := by omega
  have HI := Lib.hid hi
  have HBX := Lib.hid (vbox w (.cells #[.int .i64 0, .string ⟨#[]⟩, .int .i64 0, .int .i64 0] 76))
  obtain ⟨z0, z1, z2, z3, zf⟩ := zt_new w 76
  have ix0 : ∀ W : World, (Instr.index 189 (.agg #[.string ⟨#[110, 117, 108, 108]⟩, .string ⟨#[116, 114, 117, 101]⟩, .string ⟨#[102, 97, 108, 115, 101]⟩]) (.int .i64 0)).run Tryz.prog W = .ok (.string ⟨#[110, 117, 108, 108]⟩) W := fun W => by kernel_rfl
  have ix1 : ∀ W : World, (Instr.index 189 (.agg #[.string ⟨#[110, 117, 108, 108]⟩, .string ⟨#[116, 114, 117, 101]⟩, .string ⟨#[102, 97, 108, 115, 101]⟩]) (.int .i64 1)).run Tryz.prog W = .ok (.string ⟨#[116, 114, 117, 101]⟩) W := fun W => by kernel_rfl
  have ix2 : ∀ W : World, (Instr.index 189 (.agg #[.string ⟨#[110, 117, 108, 108]⟩, .string ⟨#[116, 114, 117, 101]⟩, .string ⟨#[102, 97, 108, 115, 101]⟩]) (.int .i64 2)).run Tryz.prog W = .ok (.string ⟨#[102, 97, 108, 115, 101]⟩) W := fun W => by kernel_rfl
  clear hl hi
  generalize (ByteArray.mk l.toArray) = s at *
  go_enter Tryz.func136, Tryz.ntmps136
  go_wp2
  go_step3
  go_wp2
  go_step3
  go_wp2
  generalize hW : w.alloc (.cells #[.int .i64 0, .string ⟨#[]⟩, .int .i64 0, .int .i64 0] 76) = w1 at *
  clear hW
  go_loopg [11] 3 (fun g s11 wx => ∃ j : Int, j + (g : Int) = 3 ∧ 0 ≤ j ∧ s11 = .int .i64 j ∧ Hid (1 ≤ j → preAt l i wNull = false) ∧ Hid (2 ≤ j → preAt l i wTrue = false) ∧ Hid (3 ≤ j → preAt l i wFalse = false) ∧ w1 = wx)
  case atStart => exact ⟨0, by omega, by omega, rfl, Lib.hid (by omega), Lib.hid (by omega), Lib.hid (by omega), rfl⟩
  case round =>
    obtain ⟨j, hj, hj0, rfl, H1, H2, H3, rfl⟩ := hrel
    cases gk with
    | zero =>
      obtain rfl : j = 3 := by omega
      have HN := Lib.hid (word_none (H1.out (by omega)) (H2.out (by omega)) (H3.out (by omega)))
      clear hj hj0 H1 H2 H3
      go_wp2
      try rw [Exit.noGoto_ret]
      exact bodyPost_ret (v := (badR 1).val) (by simp [results, Tryz.results136, go_sem, z0, z1, z2, z3, badR, tok0]) rfl ⟨by rw [HN.out], tk_below HBX.out (Nat.le_refl _) _ _ _ _⟩
    | succ g =>
      have hjj : j = 0 ∨ j = 1 ∨ j = 2 := by omega
      rcases hjj with rfl | rfl | rfl
      · obtain rfl : g = 2 := by omega
        go_wp2_with fail
        go_loopg [16] 4 (fun g2 s16 wy => ∃ m : Int, m + (g2 : Int) = 4 ∧ 0 ≤ m ∧ s16 = .int .i64 m ∧ Hid (∀ k (hk : k < m.toNat) (hw : k < wNull.length), atC l (i + k) wNull[k] = true) ∧ w1 = wy)
        case atStart => exact ⟨0, by omega, by omega, rfl, Lib.hid (fun k hk => absurd hk (by simp)), rfl⟩
        case round =>
          obtain ⟨m, hm, hm0, rfl, HM, rfl⟩ := hrel
          cases gk with
          | zero =>
            obtain rfl : m = 4 := by omega
            have hp : preAt l i wNull = true := pre_yes fun k hk => HM.out k hk hk
            have HN := Lib.hid (word_0 hp)
            clear hm hm0 HM H1 H2 H3 hj hj0 hp
            go_wp2
            try rw [Exit.noGoto_ret]
            exact bodyPost_ret (v := (TokR.mk ⟨4, wNull, 0, 0⟩ (i + 4) 0).val) (by simp [results, Tryz.results136, go_sem, z0, z1, z2, z3, wNull]) rfl ⟨by rw [HN.out], tk_below HBX.out (Nat.le_refl _) _ _ _ _⟩
          | succ g2 =>
            have hmm : m = 0 ∨ m = 1 ∨ m = 2 ∨ m = 3 := by omega
            rcases hmm with rfl | rfl | rfl | rfl
            · obtain rfl : g2 = 3 := by omega
              have cb := CB.out 110 (i + 0) w1
              rw [inS_one] at cb
              rw [Nat.add_zero] at cb
              have hx : (ByteArray.mk #[110, 117, 108, 108]).extract 0 1 = ⟨#[110]⟩ := by decide
              cases ha : atC l (i) 110
              · rw [ha] at cb
                have HP := Lib.hid (pre_no (l := l) (i := i) (w := wNull) 0 (by decide) ha)
                clear ha hm hm0 HM
                go_wp2_with (go_at_call 133; refine cb.mono ?_; rintro e w' ⟨rfl, rfl⟩)
                go_roundg 2
                case measure => omega
                case rel => exact ⟨1, by omega, by omega, rfl, Lib.hid (fun _ => HP.out), Lib.hid (fun h => absurd h (by omega)), Lib.hid (fun h => absurd h (by omega)), rfl⟩
              · rw [ha] at cb
                have HP := Lib.hid (at_nat (l := l) (i := i) (w := wNull) (m := 0) (fun k hk _ => absurd hk (Nat.not_lt_zero k)) (fun _ => ha))
                clear ha hm hm0 HM
                go_wp2_with (go_at_call 133; refine cb.mono ?_; rintro e w' ⟨rfl, rfl⟩)
                go_roundg 3
                case measure => omega
                case rel => exact ⟨1, by omega, by omega, rfl, Lib.hid (fun k hk => HP.out k (by simpa using hk)), rfl⟩
            · obtain rfl : g2 = 2 := by omega
              have cb := CB.out 117 (i + 1) w1
              rw [inS_one] at cb
              rw [show ((i + 1 : Nat) : Int) = (i : Int) + 1 by omega] at cb
              have hx : (ByteArray.mk #[110, 117, 108, 108]).extract 1 2 = ⟨#[117]⟩ := by decide
              cases ha : atC l (i + 1) 117
              · rw [ha] at cb
                have HP := Lib.hid (pre_no (l := l) (i := i) (w := wNull) 1 (by decide) ha)
                clear ha hm hm0 HM
                go_wp2_with (go_at_call 133; refine cb.mono ?_; rintro e w' ⟨rfl, rfl⟩)
                go_roundg 2
                case measure => omega
                case rel => exact ⟨1, by omega, by omega, rfl, Lib.hid (fun _ => HP.out), Lib.hid (fun h => absurd h (by omega)), Lib.hid (fun h => absurd h (by omega)), rfl⟩
              · rw [ha] at cb
                have HP := Lib.hid (at_nat (l := l) (i := i) (w := wNull) (m := 1) (fun k hk => HM.out k (by simpa using hk)) (fun _ => ha))
                clear ha hm hm0 HM
                go_wp2_with (go_at_call 133; refine cb.mono ?_; rintro e w' ⟨rfl, rfl⟩)
                go_roundg 2
                case measure => omega
                case rel => exact ⟨2, by omega, by omega, rfl, Lib.hid (fun k hk => HP.out k (by simpa using hk)), rfl⟩
            · obtain rfl : g2 = 1 := by omega
              have cb := CB.out 108 (i + 2) w1
              rw [inS_one] at cb
              rw [show ((i + 2 : Nat) : Int) = (i : Int) + 2 by omega] at cb
              have hx : (ByteArray.mk #[110, 117, 108, 108]).extract 2 3 = ⟨#[108]⟩ := by decide
              cases ha : atC l (i + 2) 108
              · rw [ha] at cb
                have HP := Lib.hid (pre_no (l := l) (i := i) (w := wNull) 2 (by decide) ha)
                clear ha hm hm0 HM
                go_wp2_with (go_at_call 133; refine cb.mono ?_; rintro e w' ⟨rfl, rfl⟩)
                go_roundg 2
                case measure => omega
                case rel => exact ⟨1, by omega, by omega, rfl, Lib.hid (fun _ => HP.out), Lib.hid (fun h => absurd h (by omega)), Lib.hid (fun h => absurd h (by omega)), rfl⟩
              · rw [ha] at cb
                have HP := Lib.hid (at_nat (l := l) (i := i) (w := wNull) (m := 2) (fun k hk => HM.out k (by simpa using hk)) (fun _ => ha))
                clear ha hm hm0 HM
                go_wp2_with (go_at_call 133; refine cb.mono ?_; rintro e w' ⟨rfl, rfl⟩)
                go_roundg 1
                case measure => omega
                case rel => exact ⟨3, by omega, by omega, rfl, Lib.hid (fun k hk => HP.out k (by simpa using hk)), rfl⟩
            · obtain rfl : g2 = 0 := by omega
              have cb := CB.out 108 (i + 3) w1
              rw [inS_one] at cb
              rw [show ((i + 3 : Nat) : Int) = (i : Int) + 3 by omega] at cb
              have hx : (ByteArray.mk #[110, 117, 108, 108]).extract 3 4 = ⟨#[108]⟩ := by decide
              cases ha : atC l (i + 3) 108
              · rw [ha] at cb
                have HP := Lib.hid (pre_no (l := l) (i := i) (w := wNull) 3 (by decide) ha)
                clear ha hm hm0 HM
                go_wp2_with (go_at_call 133; refine cb.mono ?_; rintro e w' ⟨rfl, rfl⟩)
                go_roundg 2
                case measure => omega
                case rel => exact ⟨1, by omega, by omega, rfl, Lib.hid (fun _ => HP.out), Lib.hid (fun h => absurd h (by omega)), Lib.hid (fun h => absurd h (by omega)), rfl⟩
              · rw [ha] at cb
                have HP := Lib.hid (at_nat (l := l) (i := i) (w := wNull) (m := 3) (fun k hk => HM.out k (by simpa using hk)) (fun _ => ha))
                clear ha hm hm0 HM
                go_wp2_with (go_at_call 133; refine cb.mono ?_; rintro e w' ⟨rfl, rfl⟩)
                go_roundg 0
                case measure => omega
                case rel => exact ⟨4, by omega, by omega, rfl, Lib.hid (fun k hk => HP.out k (by simpa using hk)), rfl⟩
      · obtain rfl : g = 1 := by omega
        go_wp2_with fail
        go_loopg [16] 4 (fun g2 s16 wy => ∃ m : Int, m + (g2 : Int) = 4 ∧ 0 ≤ m ∧ s16 = .int .i64 m ∧ Hid (∀ k (hk : k < m.toNat) (hw : k < wTrue.length), atC l (i + k) wTrue[k] = true) ∧ w1 = wy)
        case atStart => exact ⟨0, by omega, by omega, rfl, Lib.hid (fun k hk => absurd hk (by simp)), rfl⟩
        case round =>
          obtain ⟨m, hm, hm0, rfl, HM, rfl⟩ := hrel
          cases gk with
          | zero =>
            obtain rfl : m = 4 := by omega
            have hp : preAt l i wTrue = true := pre_yes fun k hk => HM.out k hk hk
            have HN := Lib.hid (word_1 (H1.out (by omega)) hp)
            clear hm hm0 HM H1 H2 H3 hj hj0 hp
            go_wp2
            try rw [Exit.noGoto_ret]
            exact bodyPost_ret (v := (TokR.mk ⟨4, wTrue, 0, 0⟩ (i + 4) 0).val) (by simp [results, Tryz.results136, go_sem, z0, z1, z2, z3, wTrue]) rfl ⟨by rw [HN.out], tk_below HBX.out (Nat.le_refl _) _ _ _ _⟩
          | succ g2 =>
            have hmm : m = 0 ∨ m = 1 ∨ m = 2 ∨ m = 3 := by omega
            rcases hmm with rfl | rfl | rfl | rfl
            · obtain rfl : g2 = 3 := by omega
              have cb := CB.out 116 (i + 0) w1
              rw [inS_one] at cb
              rw [Nat.add_zero] at cb
              have hx : (ByteArray.mk #[116, 114, 117, 101]).extract 0 1 = ⟨#[116]⟩ := by decide
              cases ha : atC l (i) 116
              · rw [ha] at cb
                have HP := Lib.hid (pre_no (l := l) (i := i) (w := wTrue) 0 (by decide) ha)
                clear ha hm hm0 HM
                go_wp2_with (go_at_call 133; refine cb.mono ?_; rintro e w' ⟨rfl, rfl⟩)
                go_roundg 1
                case measure => omega
                case rel => exact ⟨2, by omega, by omega, rfl, Lib.hid (fun _ => H1.out (by omega)), Lib.hid (fun _ => HP.out), Lib.hid (fun h => absurd h (by omega)), rfl⟩
              · rw [ha] at cb
                have HP := Lib.hid (at_nat (l := l) (i := i) (w := wTrue) (m := 0) (fun k hk _ => absurd hk (Nat.not_lt_zero k)) (fun _ => ha))
                clear ha hm hm0 HM
                go_wp2_with (go_at_call 133; refine cb.mono ?_; rintro e w' ⟨rfl, rfl⟩)
                go_roundg 3
                case measure => omega
                case rel => exact ⟨1, by omega, by omega, rfl, Lib.hid (fun k hk => HP.out k (by simpa using hk)), rfl⟩
            · obtain rfl : g2 = 2 := by omega
              have cb := CB.out 114 (i + 1) w1
              rw [inS_one] at cb
              rw [show ((i + 1 : Nat) : Int) = (i : Int) + 1 by omega] at cb
              have hx : (ByteArray.mk #[116, 114, 117, 101]).extract 1 2 = ⟨#[114]⟩ := by decide
              cases ha : atC l (i + 1) 114
              · rw [ha] at cb
                have HP := Lib.hid (pre_no (l := l) (i := i) (w := wTrue) 1 (by decide) ha)
                clear ha hm hm0 HM
                go_wp2_with (go_at_call 133; refine cb.mono ?_; rintro e w' ⟨rfl, rfl⟩)
                go_roundg 1
                case measure => omega
                case rel => exact ⟨2, by omega, by omega, rfl, Lib.hid (fun _ => H1.out (by omega)), Lib.hid (fun _ => HP.out), Lib.hid (fun h => absurd h (by omega)), rfl⟩
              · rw [ha] at cb
                have HP := Lib.hid (at_nat (l := l) (i := i) (w := wTrue) (m := 1) (fun k hk => HM.out k (by simpa using hk)) (fun _ => ha))
                clear ha hm hm0 HM
                go_wp2_with (go_at_call 133; refine cb.mono ?_; rintro e w' ⟨rfl, rfl⟩)
                go_roundg 2
                case measure => omega
                case rel => exact ⟨2, by omega, by omega, rfl, Lib.hid (fun k hk => HP.out k (by simpa using hk)), rfl⟩
            · obtain rfl : g2 = 1 := by omega
              have cb := CB.out 117 (i + 2) w1
              rw [inS_one] at cb
              rw [show ((i + 2 : Nat) : Int) = (i : Int) + 2 by omega] at cb
              have hx : (ByteArray.mk #[116, 114, 117, 101]).extract 2 3 = ⟨#[117]⟩ := by decide
              cases ha : atC l (i + 2) 117
              · rw [ha] at cb
                have HP := Lib.hid (pre_no (l := l) (i := i) (w := wTrue) 2 (by decide) ha)
                clear ha hm hm0 HM
                go_wp2_with (go_at_call 133; refine cb.mono ?_; rintro e w' ⟨rfl, rfl⟩)
                go_roundg 1
                case measure => omega
                case rel => exact ⟨2, by omega, by omega, rfl, Lib.hid (fun _ => H1.out (by omega)), Lib.hid (fun _ => HP.out), Lib.hid (fun h => absurd h (by omega)), rfl⟩
              · rw [ha] at cb
                have HP := Lib.hid (at_nat (l := l) (i := i) (w := wTrue) (m := 2) (fun k hk => HM.out k (by simpa using hk)) (fun _ => ha))
                clear ha hm hm0 HM
                go_wp2_with (go_at_call 133; refine cb.mono ?_; rintro e w' ⟨rfl, rfl⟩)
                go_roundg 1
                case measure => omega
                case rel => exact ⟨3, by omega, by omega, rfl, Lib.hid (fun k hk => HP.out k (by simpa using hk)), rfl⟩
            · obtain rfl : g2 = 0 := by omega
              have cb := CB.out 101 (i + 3) w1
              rw [inS_one] at cb
              rw [show ((i + 3 : Nat) : Int) = (i : Int) + 3 by omega] at cb
              have hx : (ByteArray.mk #[116, 114, 117, 101]).extract 3 4 = ⟨#[101]⟩ := by decide
              cases ha : atC l (i + 3) 101
              · rw [ha] at cb
                have HP := Lib.hid (pre_no (l := l) (i := i) (w := wTrue) 3 (by decide) ha)
                clear ha hm hm0 HM
                go_wp2_with (go_at_call 133; refine cb.mono ?_; rintro e w' ⟨rfl, rfl⟩)
                go_roundg 1
                case measure => omega
                case rel => exact ⟨2, by omega, by omega, rfl, Lib.hid (fun _ => H1.out (by omega)), Lib.hid (fun _ => HP.out), Lib.hid (fun h => absurd h (by omega)), rfl⟩
              · rw [ha] at cb
                have HP := Lib.hid (at_nat (l := l) (i := i) (w := wTrue) (m := 3) (fun k hk => HM.out k (by simpa using hk)) (fun _ => ha))
                clear ha hm hm0 HM
                go_wp2_with (go_at_call 133; refine cb.mono ?_; rintro e w' ⟨rfl, rfl⟩)
                go_roundg 0
                case measure => omega
                case rel => exact ⟨4, by omega, by omega, rfl, Lib.hid (fun k hk => HP.out k (by simpa using hk)), rfl⟩
      · obtain rfl : g = 0 := by omega
        go_wp2_with fail
        go_loopg [16] 5 (fun g2 s16 wy => ∃ m : Int, m + (g2 : Int) = 5 ∧ 0 ≤ m ∧ s16 = .int .i64 m ∧ Hid (∀ k (hk : k < m.toNat) (hw : k < wFalse.length), atC l (i + k) wFalse[k] = true) ∧ w1 = wy)
        case atStart => exact ⟨0, by omega, by omega, rfl, Lib.hid (fun k hk => absurd hk (by simp)), rfl⟩
        case round =>
          obtain ⟨m, hm, hm0, rfl, HM, rfl⟩ := hrel
          cases gk with
          | zero =>
            obtain rfl : m = 5 := by omega
            have hp : preAt l i wFalse = true := pre_yes fun k hk => HM.out k hk hk
            have HN := Lib.hid (word_2 (H1.out (by omega)) (H2.out (by omega)) hp)
            clear hm hm0 HM H1 H2 H3 hj hj0 hp
            go_wp2
            try rw [Exit.noGoto_ret]
            exact bodyPost_ret (v := (TokR.mk ⟨4, wFalse, 0, 0⟩ (i + 5) 0).val) (by simp [results, Tryz.results136, go_sem, z0, z1, z2, z3, wFalse]) rfl ⟨by rw [HN.out], tk_below HBX.out (Nat.le_refl _) _ _ _ _⟩
          | succ g2 =>
            have hmm : m = 0 ∨ m = 1 ∨ m = 2 ∨ m = 3 ∨ m = 4 := by omega
            rcases hmm with rfl | rfl | rfl | rfl | rfl
            · obtain rfl : g2 = 4 := by omega
              have cb := CB.out 102 (i + 0) w1
              rw [inS_one] at cb
              rw [Nat.add_zero] at cb
              have hx : (ByteArray.mk #[102, 97, 108, 115, 101]).extract 0 1 = ⟨#[102]⟩ := by decide
              cases ha : atC l (i) 102
              · rw [ha] at cb
                have HP := Lib.hid (pre_no (l := l) (i := i) (w := wFalse) 0 (by decide) ha)
                clear ha hm hm0 HM
                go_wp2_with (go_at_call 133; refine cb.mono ?_; rintro e w' ⟨rfl, rfl⟩)
                go_roundg 0
                case measure => omega
                case rel => exact ⟨3, by omega, by omega, rfl, Lib.hid (fun _ => H1.out (by omega)), Lib.hid (fun _ => H2.out (by omega)), Lib.hid (fun _ => HP.out), rfl⟩
              · rw [ha] at cb
                have HP := Lib.hid (at_nat (l := l) (i := i) (w := wFalse) (m := 0) (fun k hk _ => absurd hk (Nat.not_lt_zero k)) (fun _ => ha))
                clear ha hm hm0 HM
                go_wp2_with (go_at_call 133; refine cb.mono ?_; rintro e w' ⟨rfl, rfl⟩)
                go_roundg 4
                case measure => omega
                case rel => exact ⟨1, by omega, by omega, rfl, Lib.hid (fun k hk => HP.out k (by simpa using hk)), rfl⟩
            · obtain rfl : g2 = 3 := by omega
              have cb := CB.out 97 (i + 1) w1
              rw [inS_one] at cb
              rw [show ((i + 1 : Nat) : Int) = (i : Int) + 1 by omega] at cb
              have hx : (ByteArray.mk #[102, 97, 108, 115, 101]).extract 1 2 = ⟨#[97]⟩ := by decide
              cases ha : atC l (i + 1) 97
              · rw [ha] at cb
                have HP := Lib.hid (pre_no (l := l) (i := i) (w := wFalse) 1 (by decide) ha)
                clear ha hm hm0 HM
                go_wp2_with (go_at_call 133; refine cb.mono ?_; rintro e w' ⟨rfl, rfl⟩)
                go_roundg 0
                case measure => omega
                case rel => exact ⟨3, by omega, by omega, rfl, Lib.hid (fun _ => H1.out (by omega)), Lib.hid (fun _ => H2.out (by omega)), Lib.hid (fun _ => HP.out), rfl⟩
              · rw [ha] at cb
                have HP := Lib.hid (at_nat (l := l) (i := i) (w := wFalse) (m := 1) (fun k hk => HM.out k (by simpa using hk)) (fun _ => ha))
                clear ha hm hm0 HM
                go_wp2_with (go_at_call 133; refine cb.mono ?_; rintro e w' ⟨rfl, rfl⟩)
                go_roundg 3
                case measure => omega
                case rel => exact ⟨2, by omega, by omega, rfl, Lib.hid (fun k hk => HP.out k (by simpa using hk)), rfl⟩
            · obtain rfl : g2 = 2 := by omega
              have cb := CB.out 108 (i + 2) w1
              rw [inS_one] at cb
              rw [show ((i + 2 : Nat) : Int) = (i : Int) + 2 by omega] at cb
              have hx : (ByteArray.mk #[102, 97, 108, 115, 101]).extract 2 3 = ⟨#[108]⟩ := by decide
              cases ha : atC l (i + 2) 108
              · rw [ha] at cb
                have HP := Lib.hid (pre_no (l := l) (i := i) (w := wFalse) 2 (by decide) ha)
                clear ha hm hm0 HM
                go_wp2_with (go_at_call 133; refine cb.mono ?_; rintro e w' ⟨rfl, rfl⟩)
                go_roundg 0
                case measure => omega
                case rel => exact ⟨3, by omega, by omega, rfl, Lib.hid (fun _ => H1.out (by omega)), Lib.hid (fun _ => H2.out (by omega)), Lib.hid (fun _ => HP.out), rfl⟩
              · rw [ha] at cb
                have HP := Lib.hid (at_nat (l := l) (i := i) (w := wFalse) (m := 2) (fun k hk => HM.out k (by simpa using hk)) (fun _ => ha))
                clear ha hm hm0 HM
                go_wp2_with (go_at_call 133; refine cb.mono ?_; rintro e w' ⟨rfl, rfl⟩)
                go_roundg 2
                case measure => omega
                case rel => exact ⟨3, by omega, by omega, rfl, Lib.hid (fun k hk => HP.out k (by simpa using hk)), rfl⟩
            · obtain rfl : g2 = 1 := by omega
              have cb := CB.out 115 (i + 3) w1
              rw [inS_one] at cb
              rw [show ((i + 3 : Nat) : Int) = (i : Int) + 3 by omega] at cb
              have hx : (ByteArray.mk #[102, 97, 108, 115, 101]).extract 3 4 = ⟨#[115]⟩ := by decide
              cases ha : atC l (i + 3) 115
              · rw [ha] at cb
                have HP := Lib.hid (pre_no (l := l) (i := i) (w := wFalse) 3 (by decide) ha)
                clear ha hm hm0 HM
                go_wp2_with (go_at_call 133; refine cb.mono ?_; rintro e w' ⟨rfl, rfl⟩)
                go_roundg 0
                case measure => omega
                case rel => exact ⟨3, by omega, by omega, rfl, Lib.hid (fun _ => H1.out (by omega)), Lib.hid (fun _ => H2.out (by omega)), Lib.hid (fun _ => HP.out), rfl⟩
              · rw [ha] at cb
                have HP := Lib.hid (at_nat (l := l) (i := i) (w := wFalse) (m := 3) (fun k hk => HM.out k (by simpa using hk)) (fun _ => ha))
                clear ha hm hm0 HM
                go_wp2_with (go_at_call 133; refine cb.mono ?_; rintro e w' ⟨rfl, rfl⟩)
                go_roundg 1
                case measure => omega
                case rel => exact ⟨4, by omega, by omega, rfl, Lib.hid (fun k hk => HP.out k (by simpa using hk)), rfl⟩
            · obtain rfl : g2 = 0 := by omega
              have cb := CB.out 101 (i + 4) w1
              rw [inS_one] at cb
              rw [show ((i + 4 : Nat) : Int) = (i : Int) + 4 by omega] at cb
              have hx : (ByteArray.mk #[102, 97, 108, 115, 101]).extract 4 5 = ⟨#[101]⟩ := by decide
              cases ha : atC l (i + 4) 101
              · rw [ha] at cb
                have HP := Lib.hid (pre_no (l := l) (i := i) (w := wFalse) 4 (by decide) ha)
                clear ha hm hm0 HM
                go_wp2_with (go_at_call 133; refine cb.mono ?_; rintro e w' ⟨rfl, rfl⟩)
                go_roundg 0
                case measure => omega
                case rel => exact ⟨3, by omega, by omega, rfl, Lib.hid (fun _ => H1.out (by omega)), Lib.hid (fun _ => H2.out (by omega)), Lib.hid (fun _ => HP.out), rfl⟩
              · rw [ha] at cb
                have HP := Lib.hid (at_nat (l := l) (i := i) (w := wFalse) (m := 4) (fun k hk => HM.out k (by simpa using hk)) (fun _ => ha))
                clear ha hm hm0 HM
                go_wp2_with (go_at_call 133; refine cb.mono ?_; rintro e w' ⟨rfl, rfl⟩)
                go_roundg 0
                case measure => omega
                case rel => exact ⟨5, by omega, by omega, rfl, Lib.hid (fun k hk => HP.out k (by simpa using hk)), rfl⟩
theorem str_cutO (l : List UInt8) (i j : Nat) (a b : Int) (ha : a = i) (hb : b = j) (h : i ≤ j) (h2 : j ≤ l.length) (W : World) : (Instr.slice 9 (.string ⟨l.toArray⟩) (some (.int .i64 a)) (some (.int .i64 b)) none).run Tryz.prog W = .ok (.string ⟨(cut l i j).toArray⟩) W := by
  subst ha hb
  have := run_slice_string (P := Tryz.prog) (w := W) 9 (ByteArray.mk l.toArray) .i64 .i64 (i : Int) (j : Int) Tryz.underlying9 (by omega) (by omega) (by rw [size_l]; omega)
  rw [this]
  simp only [Int.toNat_natCast]
  rw [ext_cut]; rfl
theorem pre_cut (l : List UInt8) (i n : Nat) (w : List UInt8) (hw : w.length = n) : preAt l i w = (cut l i (i + n) == w) := by
  unfold preAt cut; rw [hw, Nat.add_sub_cancel_left]
theorem pre_short {l : List UInt8} {i n : Nat} {w : List UInt8} (hw : w.length = n) (h0 : 0 < n) (h : l.length < i + n) : preAt l i w = false := by
  cases hp : preAt l i w
  · rfl
  · have := pre_len hp (by intro e; rw [e] at hw; simp at hw; omega); omega
set_option maxHeartbeats 4000000 in
theorem word_spec (l : List UInt8) (i : Nat) (w : World) (hl : l.length ≤ 1048576) (hi : i ≤ l.length) :
    Calls Tryz.prog 151 #[.string ⟨l.toArray⟩, .int .i64 i] w fun e w' => e = .returned (wordR l i).val ∧ Below w.heap.size w w' := by
  have hI : (i : Int) ≤ 1048576 := by omega
  have hL : (l.length : Int) ≤ 1048576 := by omega
  have CU := Lib.hid (fun j b hb h1 h2 => str_cutO l i j i b rfl hb h1 h2)
  have hsz := size_l l
  clear hl hi
  generalize (ByteArray.mk l.toArray) = s at *
  have HBX := Lib.hid ((vbox w (.cells #[.int .i64 0, .string ⟨#[]⟩, .int .i64 0, .int .i64 0] 76)).trans ((vbox _ (.cells #[.string ⟨#[110, 117, 108, 108]⟩, .string ⟨#[116, 114, 117, 101]⟩, .string ⟨#[102, 97, 108, 115, 101]⟩] 9)).mono (by simp)))
  obtain ⟨z0, z1, z2, z3, zf⟩ := (zt_new w 76).blw (vbox _ (.cells #[.string ⟨#[110, 117, 108, 108]⟩, .string ⟨#[116, 114, 117, 101]⟩, .string ⟨#[102, 97, 108, 115, 101]⟩] 9))
  have s0 : ((w.alloc (.cells #[.int .i64 0, .string ⟨#[]⟩, .int .i64 0, .int .i64 0] 76)).alloc (.cells #[.string ⟨#[110, 117, 108, 108]⟩, .string ⟨#[116, 114, 117, 101]⟩, .string ⟨#[102, 97, 108, 115, 101]⟩] 9)).cell? ⟨w.heap.size + 1, 0, none⟩ = some (.string ⟨#[110, 117, 108, 108]⟩) := by simp [go_sem]
  have s1 : ((w.alloc (.cells #[.int .i64 0, .string ⟨#[]⟩, .int .i64 0, .int .i64 0] 76)).alloc (.cells #[.string ⟨#[110, 117, 108, 108]⟩, .string ⟨#[116, 114, 117, 101]⟩, .string ⟨#[102, 97, 108, 115, 101]⟩] 9)).cell? ⟨w.heap.size + 1, 1, none⟩ = some (.string ⟨#[116, 114, 117, 101]⟩) := by simp [go_sem]
  have s2 : ((w.alloc (.cells #[.int .i64 0, .string ⟨#[]⟩, .int .i64 0, .int .i64 0] 76)).alloc (.cells #[.string ⟨#[110, 117, 108, 108]⟩, .string ⟨#[116, 114, 117, 101]⟩, .string ⟨#[102, 97, 108, 115, 101]⟩] 9)).cell? ⟨w.heap.size + 1, 2, none⟩ = some (.string ⟨#[102, 97, 108, 115, 101]⟩) := by simp [go_sem]
  go_enter Tryz.func151, Tryz.ntmps151
  go_wp2
  generalize hW : (w.alloc (.cells #[.int .i64 0, .string ⟨#[]⟩, .int .i64 0, .int .i64 0] 76)).alloc (.cells #[.string ⟨#[110, 117, 108, 108]⟩, .string ⟨#[116, 114, 117, 101]⟩, .string ⟨#[102, 97, 108, 115, 101]⟩] 9) = w1 at *
  clear hW
  go_loopg [11] 3 (fun g s11 wx => ∃ j : Int, j + (g : Int) = 3 ∧ 0 ≤ j ∧ s11 = .int .i64 j ∧ Hid (1 ≤ j → preAt l i wNull = false) ∧ Hid (2 ≤ j → preAt l i wTrue = false) ∧ Hid (3 ≤ j → preAt l i wFalse = false) ∧ w1 = wx)
  case atStart => exact ⟨0, by omega, by omega, rfl, Lib.hid (by omega), Lib.hid (by omega), Lib.hid (by omega), rfl⟩
  case round =>
    obtain ⟨j, hj, hj0, rfl, H1, H2, H3, rfl⟩ := hrel
    cases gk with
    | zero =>
      obtain rfl : j = 3 := by omega
      have HN := Lib.hid (word_none (H1.out (by omega)) (H2.out (by omega)) (H3.out (by omega)))
      clear hj hj0 H1 H2 H3
      go_wp2
      exact bodyPost_ret (v := (badR 1).val) (by simp [results, Tryz.results151, go_sem, z0, z1, z2, z3, badR, tok0]) rfl ⟨by rw [HN.out], tk_below HBX.out (Nat.le_refl _) _ _ _ _⟩
    | succ g =>
      have hjj : j = 0 ∨ j = 1 ∨ j = 2 := by omega
      rcases hjj with rfl | rfl | rfl
      · obtain rfl : g = 2 := by omega
        by_cases hle : (i : Int) ≤ (l.length : Int) - 4
        · have cu := CU.out (i + 4) ((i : Int) + 4) (by omega) (by omega) (by omega)
          have hp := pre_cut l i 4 wNull rfl
          rw [show wNull = [110, 117, 108, 108] from rfl] at hp
          generalize cut l i (i + 4) = pc at *
          cases he : (pc == [110, 117, 108, 108])
          · have HP := Lib.hid (show preAt l i wNull = false by rw [← he]; exact hp)
            clear hp hj hj0
            go_wp2
            go_roundg 2
            case measure => omega
            case rel => exact ⟨1, by omega, by omega, rfl, Lib.hid (fun _ => HP.out), Lib.hid (fun h => absurd h (by omega)), Lib.hid (fun h => absurd h (by omega)), rfl⟩
          · have hp1 : preAt l i wNull = true := by rw [← he]; exact hp
            have HN := Lib.hid (word_0 hp1)
            clear hp hp1 hj hj0 H1 H2 H3
            go_wp2
            exact bodyPost_ret (v := (TokR.mk ⟨4, wNull, 0, 0⟩ (i + 4) 0).val) (by simp [results, Tryz.results151, go_sem, z0, z1, z2, z3, wNull]) rfl ⟨by rw [HN.out], tk_below HBX.out (Nat.le_refl _) _ _ _ _⟩
        · have HP := Lib.hid (pre_short (l := l) (i := i) (n := 4) (w := wNull) rfl (by omega) (by omega))
          clear hj hj0
          go_wp2
          go_roundg 2
          case measure => omega
          case rel => exact ⟨1, by omega, by omega, rfl, Lib.hid (fun _ => HP.out), Lib.hid (fun h => absurd h (by omega)), Lib.hid (fun h => absurd h (by omega)), rfl⟩
      · obtain rfl : g = 1 := by omega
        by_cases hle : (i : Int) ≤ (l.length : Int) - 4
        · have cu := CU.out (i + 4) ((i : Int) + 4) (by omega) (by omega) (by omega)
          have hp := pre_cut l i 4 wTrue rfl
          rw [show wTrue = [116, 114, 117, 101] from rfl] at hp
          generalize cut l i (i + 4) = pc at *
          cases he : (pc == [116, 114, 117, 101])
          · have HP := Lib.hid (show preAt l i wTrue = false by rw [← he]; exact hp)
            clear hp hj hj0
            go_wp2
            go_roundg 1
            case measure => omega
            case rel => exact ⟨2, by omega, by omega, rfl, Lib.hid (fun _ => H1.out (by omega)), Lib.hid (fun _ => HP.out), Lib.hid (fun h => absurd h (by omega)), rfl⟩
          · have hp1 : preAt l i wTrue = true := by rw [← he]; exact hp
            have HN := Lib.hid (word_1 (H1.out (by omega)) hp1)
            clear hp hp1 hj hj0 H1 H2 H3
            go_wp2
            exact bodyPost_ret (v := (TokR.mk ⟨4, wTrue, 0, 0⟩ (i + 4) 0).val) (by simp [results, Tryz.results151, go_sem, z0, z1, z2, z3, wTrue]) rfl ⟨by rw [HN.out], tk_below HBX.out (Nat.le_refl _) _ _ _ _⟩
        · have HP := Lib.hid (pre_short (l := l) (i := i) (n := 4) (w := wTrue) rfl (by omega) (by omega))
          clear hj hj0
          go_wp2
          go_roundg 1
          case measure => omega
          case rel => exact ⟨2, by omega, by omega, rfl, Lib.hid (fun _ => H1.out (by omega)), Lib.hid (fun _ => HP.out), Lib.hid (fun h => absurd h (by omega)), rfl⟩
      · obtain rfl : g = 0 := by omega
        by_cases hle : (i : Int) ≤ (l.length : Int) - 5
        · have cu := CU.out (i + 5) ((i : Int) + 5) (by omega) (by omega) (by omega)
          have hp := pre_cut l i 5 wFalse rfl
          rw [show wFalse = [102, 97, 108, 115, 101] from rfl] at hp
          generalize cut l i (i + 5) = pc at *
          cases he : (pc == [102, 97, 108, 115, 101])
          · have HP := Lib.hid (show preAt l i wFalse = false by rw [← he]; exact hp)
            clear hp hj hj0
            go_wp2
            go_roundg 0
            case measure => omega
            case rel => exact ⟨3, by omega, by omega, rfl, Lib.hid (fun _ => H1.out (by omega)), Lib.hid (fun _ => H2.out (by omega)), Lib.hid (fun _ => HP.out), rfl⟩
          · have hp1 : preAt l i wFalse = true := by rw [← he]; exact hp
            have HN := Lib.hid (word_2 (H1.out (by omega)) (H2.out (by omega)) hp1)
            clear hp hp1 hj hj0 H1 H2 H3
            go_wp2
            exact bodyPost_ret (v := (TokR.mk ⟨4, wFalse, 0, 0⟩ (i + 5) 0).val) (by simp [results, Tryz.results151, go_sem, z0, z1, z2, z3, wFalse]) rfl ⟨by rw [HN.out], tk_below HBX.out (Nat.le_refl _) _ _ _ _⟩
        · have HP := Lib.hid (pre_short (l := l) (i := i) (n := 5) (w := wFalse) rfl (by omega) (by omega))
          clear hj hj0
          go_wp2
          go_roundg 0
          case measure => omega
          case rel => exact ⟨3, by omega, by omega, rfl, Lib.hid (fun _ => H1.out (by omega)), Lib.hid (fun _ => H2.out (by omega)), Lib.hid (fun _ => HP.out), rfl⟩
end Go.Proofs.YtnikcgmbkmbloaaGreatDoor
/- What the model's l4Digits, l4Value and ReadNumber return. -/
namespace Go.Proofs.YtnikcgmbkmbloaaGreatDoor
open Go.RowKit
theorem isD_in (c : UInt8) : decide ((48 : Int) ≤ (c.toNat : Int) ∧ (c.toNat : Int) ≤ 57) = isD c := by
  unfold isD; rw [decide_eq_decide]; omega
set_option maxRecDepth 100000 in
theorem l4digits_any (l : List UInt8) (i : Nat) (w : World) (hi : i ≤ l.length) (hl : l.length ≤ 1048576) : Calls Tryz.prog 184 #[.string ⟨l.toArray⟩, .int .i64 i] w fun e w' => e = .returned (.int .i64 (dEnd l i)) ∧ w = w' := by
  have hL : (l.length : Int) ≤ 1048576 := by omega
  have hI : (i : Int) ≤ l.length := by omega
  go_enter Tryz.func184, Tryz.ntmps184
  go_wp2
  go_loop [1] (fun t => ∃ k : Nat, t = .int .i64 k ∧ Hid (dEnd l k = dEnd l i) ∧ (k : Int) ≤ l.length) (fun t => l.length - (intOf t).toNat)
  case atStart => exact ⟨i, rfl, Lib.hid rfl, hI⟩
  case round =>
    obtain ⟨k, rfl, he, hk⟩ := hrel
    by_cases hlt : (k : Int) < l.length
    · have hkl : k < l.length := by omega
      have ix := fun W1 => str_index l k hkl W1
      have hx : decide ((48 : Int) ≤ ((l[k]).toNat : Int) ∧ ((l[k]).toNat : Int) ≤ 57) = atD l k := by rw [isD_in, atD_get hkl]
      have hx2 : ((l[k]).toNat : Int) ≤ 255 := by have := (l[k]).toNat_lt; omega
      generalize (l[k]).toNat = x at *
      have ci := fun w1 => in_any (x : Int) 48 57 w1
      rw [hx] at ci
      clear hx
      cases hd : atD l k
      · rw [hd] at ci
        have hE : Hid (k = dEnd l i) := Lib.hid (by rw [← he.out, dEnd_stop hd])
        clear he hd
        go_wp2_with (go_at_call 97; refine (ci _).mono ?_; rintro e w' ⟨rfl, rfl⟩)
        go_ret
        exact ⟨by rw [← hE.out]; rfl, rfl⟩
      · rw [hd] at ci
        have he2 : Hid (dEnd l (k + 1) = dEnd l i) := Lib.hid (by rw [← he.out, dEnd_step hd])
        clear he hd
        go_wp2_with (go_at_call 97; refine (ci _).mono ?_; rintro e w' ⟨rfl, rfl⟩)
        go_round
        case rel => exact ⟨k + 1, by go_num, he2, by omega⟩
        case measure => simp [intOf]; omega
    · have hE : Hid (k = dEnd l i) := Lib.hid (by rw [← he.out, dEnd_stop (atD_out (by omega))])
      clear he
      go_wp2
      go_ret
      exact ⟨by rw [← hE.out]; rfl, rfl⟩
theorem lead_snoc (t : List UInt8) (c : UInt8) : lead (t ++ [c]) = if lead t = [] ∧ c = 48 then [] else lead t ++ [c] := by
  induction t with
  | nil =>
    unfold lead
    by_cases h : c = 48
    · subst h; rfl
    · rw [if_neg (by intro e; exact h e.2)]
      show List.dropWhile (· == 48) [c] = [] ++ [c]
      rw [List.dropWhile_cons, if_neg (by simpa using h)]; rfl
  | cons d r ih =>
    by_cases h : d = 48
    · subst h; exact ih
    · have e1 : lead (d :: r ++ [c]) = d :: r ++ [c] := by unfold lead; rw [List.cons_append, List.dropWhile_cons, if_neg (by simpa using h)]
      have e2 : lead (d :: r) = d :: r := by unfold lead; rw [List.dropWhile_cons, if_neg (by simpa using h)]
      rw [e1, e2, if_neg (by intro e; cases e.1)]
theorem lead_take (l : List UInt8) (k : Nat) : (lead (l.take k)).length ≤ (lead l).length := by
  induction l generalizing k with
  | nil => rw [List.take_nil]; exact Nat.le_refl _
  | cons c r ih =>
    cases k with
    | zero => exact Nat.zero_le _
    | succ k =>
      rw [List.take_succ_cons]
      by_cases h : c = 48
      · subst h; exact ih k
      · have e2 : ∀ s, lead (c :: s) = c :: s := fun s => by unfold lead; rw [List.dropWhile_cons, if_neg (by simpa using h)]
        rw [e2, e2]; simp; omega
def l4V (l : List UInt8) (most : Nat) : Value := if (lead l).length ≤ most then .tuple #[.int .i64 (decVal 0 l), .bool true] else .tuple #[.int .i64 0, .bool false]
theorem l4V_no {l : List UInt8} {m : Nat} (h : ¬ (lead l).length ≤ m) : l4V l m = .tuple #[.int .i64 0, .bool false] := by unfold l4V; rw [if_neg h]
theorem l4V_yes {l : List UInt8} {m : Nat} (h : (lead l).length ≤ m) : l4V l m = .tuple #[.int .i64 (decVal 0 l), .bool true] := by unfold l4V; rw [if_pos h]
theorem lead_val {l : List UInt8} (hd : ∀ c ∈ l, isD c = true) (h : (lead l).length ≤ 17) : decVal 0 l < 100000000000000000 := by
  rw [← decVal_lead]; exact val_lt17 (lead_mem hd) h
set_option maxRecDepth 100000 in
set_option maxHeartbeats 1000000 in
theorem l4value_any (l : List UInt8) (most : Nat) (w : World) (hd : ∀ c ∈ l, isD c = true) (hm : most ≤ 17) (hl : l.length ≤ 2097152) : Calls Tryz.prog 185 #[.string ⟨l.toArray⟩, .int .i64 most] w fun e w' => e = .returned (l4V l most) ∧ w = w' := by
  have hL : (l.length : Int) ≤ 2097152 := by omega
  have hM : (most : Int) ≤ 17 := by omega
  have HD := Lib.hid hd
  clear hd hl
  go_enter Tryz.func185, Tryz.ntmps185
  go_wp2
  go_loop [6, 7, 8] (fun a b t => ∃ n k i : Nat, a = .int .i64 n ∧ b = .int .i64 k ∧ t = .int .i64 i ∧ (i : Int) ≤ l.length ∧ (k : Int) ≤ most ∧ Hid (n = decVal 0 (l.take i) ∧ k = (lead (l.take i)).length)) (fun _ _ t => l.length - (intOf t).toNat)
  case atStart => exact ⟨0, 0, 0, rfl, rfl, rfl, by omega, by omega, Lib.hid ⟨rfl, rfl⟩⟩
  case round =>
    obtain ⟨n, k, i, rfl, rfl, rfl, hi, hk, hr⟩ := hrel
    by_cases hlt : (i : Int) < l.length
    · have hil : i < l.length := by omega
      obtain ⟨h1, h2⟩ := hr.out
      have hnb := lead_val (l := l.take i) (fun c hc => HD.out c (List.mem_of_mem_take hc)) (by omega)
      rw [← h1] at hnb
      have hv := val_take hil
      rw [← h1] at hv
      have hs := lead_snoc (l.take i) l[i]
      rw [← List.take_succ_eq_append_getElem hil] at hs
      have hx := isD_iff (HD.out l[i] (List.getElem_mem hil))
      unfold isDig at hx
      have ix := fun W1 => str_index l i hil W1
      obtain ⟨x, hxe⟩ : ∃ x : Nat, x = (l[i]).toNat := ⟨_, rfl⟩
      have h48 : l[i] = 48 ↔ x = 48 := by
        rw [hxe]; constructor
        · intro e; rw [e]; rfl
        · intro e; exact UInt8.toNat_inj.1 e
      rw [← hxe] at hx ix hv
      have x0 : (48 : Int) ≤ x := by omega
      have x1 : (x : Int) ≤ 57 := by omega
      have hn0 : (n : Int) ≤ 100000000000000000 := by omega
      have wu : IntKind.u8.wrap ((x : Int) - 48) = (x : Int) - 48 := IntWalk.u8_in _ (by omega)
      by_cases hz : x = 48 ∧ k = 0
      · obtain ⟨hz1, hz2⟩ := hz
        have hnew : Hid (n * 10 + (x - 48) = decVal 0 (l.take (i + 1)) ∧ k = (lead (l.take (i + 1))).length) := Lib.hid ⟨hv.symm, by rw [hs, if_pos ⟨List.length_eq_zero_iff.1 (by omega), h48.2 hz1⟩]; exact hz2⟩
        have b1 : ((x : Int) != 48) = false := by rw [hz1]; rfl
        have b2 : ¬ (0 : Int) < k := by omega
        clear hx h1 h2 hr hv hs h48 hnb hxe hm hil hz1 hz2
        go_wp2
        go_round
        case rel => exact ⟨n * 10 + (x - 48), k, i + 1, by congr 1; omega, rfl, by go_num, by omega, hk, hnew⟩
        case measure => simp [intOf]; omega
      · have hlen : (lead (l.take (i + 1))).length = k + 1 := by
          rw [hs, if_neg (by intro e; exact hz ⟨h48.1 e.2, by rw [h2, e.1]; rfl⟩), List.length_append, ← h2]; rfl
        by_cases hkm : (k : Int) + 1 ≤ most
        · have hnew : Hid (n * 10 + (x - 48) = decVal 0 (l.take (i + 1)) ∧ k + 1 = (lead (l.take (i + 1))).length) := Lib.hid ⟨hv.symm, hlen.symm⟩
          clear hx h1 h2 hr hv hs h48 hnb hxe hlen hm hil
          by_cases hx48 : x = 48
          · have b1 : ((x : Int) != 48) = false := by rw [hx48]; rfl
            have b2 : (0 : Int) < k := by omega
            clear hz
            go_wp2
            go_round
            case rel => exact ⟨n * 10 + (x - 48), k + 1, i + 1, by congr 1; omega, by go_num, by go_num, by omega, by omega, hnew⟩
            case measure => simp [intOf]; omega
          · have b1 : ((x : Int) != 48) = true := by simp; omega
            clear hz
            go_wp2
            go_round
            case rel => exact ⟨n * 10 + (x - 48), k + 1, i + 1, by congr 1; omega, by go_num, by go_num, by omega, by omega, hnew⟩
            case measure => simp [intOf]; omega
        · have hno : Hid (l4V l most = .tuple #[.int .i64 0, .bool false]) := Lib.hid (l4V_no (by have := lead_take l (i + 1); omega))
          clear hx h1 h2 hr hv hs h48 hnb hxe hlen hm hil
          by_cases hx48 : x = 48
          · have b1 : ((x : Int) != 48) = false := by rw [hx48]; rfl
            have b2 : (0 : Int) < k := by omega
            clear hz
            go_wp2
            go_ret2
            exact ⟨by rw [hno.out]; rfl, rfl⟩
          · have b1 : ((x : Int) != 48) = true := by simp; omega
            clear hz
            go_wp2
            go_ret2
            exact ⟨by rw [hno.out]; rfl, rfl⟩
    · have hyes : Hid (l4V l most = .tuple #[.int .i64 n, .bool true]) := Lib.hid (by
        obtain ⟨h1, h2⟩ := hr.out
        rw [List.take_of_length_le (by omega)] at h1 h2
        rw [l4V_yes (by omega), h1])
      clear hr
      go_wp2
      go_ret2
      exact ⟨by rw [hyes.out]; rfl, rfl⟩
end Go.Proofs.YtnikcgmbkmbloaaGreatDoor
