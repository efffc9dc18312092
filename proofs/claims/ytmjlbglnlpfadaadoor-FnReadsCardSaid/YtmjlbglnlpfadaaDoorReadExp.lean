/- The model's ReadNumber, from the exponent on. -/
import Derived.Test.YtmjlbglnlpfadaaDoorReadEnd
namespace Go.Proofs.YtmjlbglnlpfadaaDoor
open Go.RowKit
set_option maxRecDepth 100000 in
set_option maxHeartbeats 8000000 in
theorem read_exp (l : List UInt8) (i : Nat) (m : Num) (w : World) (c : Nat) (neg : Bool) (W F T : List UInt8) (sg : Int) (hl : l.length ≤ 1048576) (HM : Hid (m = readN l i)) (hsg : Hid (sg = if neg = true then -1 else 1))
    (hcL : (c : Int) ≤ l.length) (hTL : (T.length : Int) ≤ 2097152) (hFL : (F.length : Int) ≤ l.length) (hp3 : Hid (parts l i = partsE l neg W F c ∧ T = W ++ F ∧ ∀ x ∈ T, isD x = true))
    (a : Act) (ha : a = rdF (slot a)) (h0 : slot a 0 = .string ⟨l.toArray⟩) (h1 : slot a 1 = .int .i64 c) (h8 : slot a 8 = .int .i64 sg) (h10 : slot a 10 = .string ⟨T.toArray⟩) (h11 : slot a 11 = .int .i64 F.length) (h13 : slot a 13 = .int .i64 0) (h14 : slot a 14 = .bool true) :
    (tailOf 13 Tryd.f18).wp Tryd.prog (bodyPost Tryd.prog Tryd.f18 (fun e w' => e = .returned (numT m) ∧ w = w')) a w := by
  have hL : (l.length : Int) ≤ 1048576 := by omega
  rw [tail_13 (fn := Tryd.f18) rfl]
  generalize slot a = f at *
  subst ha
  unfold rdF
  dsimp only
  rw [h0, h1, h8, h10, h11, h13, h14]
  clear h0 h1 h8 h10 h11 h13 h14
  go_upto_region 24 with fail
  go_cut [105] from 20 (fun v wx => v = .bool (atC l c 101 || atC l c 69) ∧ w = wx)
  case first =>
    by_cases h : (c : Int) < l.length
    · have hn : c < l.length := by omega
      have ix := fun W1 => str_indexZ l (c) ((c : Int)) (by omega) hn W1
      have hb0 := atC_bool hn 101 101 rfl
      have hb1 := atC_bool hn 69 69 rfl
      cases q0 : atC l (c) 101
      · rw [q0] at hb0
        go_wp2
        go_meet
        case rel => exact ⟨by first | rfl | exact bool_v (by simp [hb1, q0]), rfl⟩
      · rw [q0] at hb0
        go_wp2
        go_meet
        case rel => exact ⟨by first | rfl | exact bool_v (by simp [q0]), rfl⟩
    · have hb0 := atC_out (l := l) (i := c) (c := 101) (by omega)
      have hb1 := atC_out (l := l) (i := c) (c := 69) (by omega)
      go_wp2
      go_meet
      case rel => exact ⟨bool_v (by rw [hb0, hb1]; rfl), rfl⟩
  case rest =>
    obtain ⟨rfl, rfl⟩ := hcut
    have hcN : c ≤ l.length := by omega
    go_upto_if 105 with fail
    go_cut [1, 13, 14] from 20 (fun v1 v13 v14 wx => ∃ (d : Nat) (eneg : Bool) (E : List UInt8) (x : Int) (fits : Bool), v1 = .int .i64 d ∧ v13 = .int .i64 x ∧ v14 = .bool fits ∧ (d : Int) ≤ l.length ∧ -1000000 ≤ x ∧ x ≤ 1000000 ∧
        Hid (ExpOk l i neg eneg W F E d x fits) ∧ w = wx)
    case first =>
      cases hc : (atC l c 101 || atC l c 69)
      · have hp4 : Hid (ExpOk l i neg false W F [] c 0 true) := Lib.hid ⟨by rw [hp3.out.1]; unfold partsE; rw [hc]; rfl, rfl, fun _ => rfl⟩
        clear hp3
        go_wp2
        go_meet
        case rel => exact ⟨c, false, [], 0, true, rfl, rfl, rfl, hcL, by omega, by omega, hp4, rfl⟩
      · have hlt : c + 1 ≤ l.length := by
          rw [Bool.or_eq_true] at hc
          rcases hc with hc | hc <;> exact atC_lt hc
        have hltI : (c : Int) + 1 ≤ l.length := by omega
        have hp4 := hp3.out.1
        unfold partsE at hp4
        rw [hc, if_pos rfl] at hp4
        simp only at hp4
        have HP4 := Lib.hid hp4
        clear hp4 hp3 hc
        go_upto_region 26 with fail
        go_cut [16] from 20 (fun v wx => v = .bool (atC l (c + 1) 45) ∧ w = wx)
        case first =>
          by_cases h : (c : Int) + 1 < l.length
          · have hn : c + 1 < l.length := by omega
            have ix := fun W1 => str_indexZ l (c + 1) ((c : Int) + 1) (by omega) hn W1
            have hb0 := atC_bool hn 45 45 rfl
            go_wp2
            go_meet
            case rel => exact ⟨by first | rfl | exact bool_v (by simp [hb0]), rfl⟩
          · have hb0 := atC_out (l := l) (i := c + 1) (c := 45) (by omega)
            go_wp2
            go_meet
            case rel => exact ⟨bool_v hb0.symm, rfl⟩
        case rest =>
          obtain ⟨rfl, rfl⟩ := hcut
          go_upto_region 27 with fail
          go_cut [16, 133] from 20 (fun v16 v wx => v16 = .bool (atC l (c + 1) 45) ∧ v = .bool (atC l (c + 1) 45 || atC l (c + 1) 43) ∧ w = wx)
          case first =>
            by_cases h : (c : Int) + 1 < l.length
            · have hn : c + 1 < l.length := by omega
              have ix := fun W1 => str_indexZ l (c + 1) ((c : Int) + 1) (by omega) hn W1
              have hb0 := atC_bool hn 45 45 rfl
              have hb1 := atC_bool hn 43 43 rfl
              cases q0 : atC l (c + 1) 45
              · rw [q0] at hb0
                go_wp2
                go_meet
                case rel => exact ⟨by first | rfl | exact bool_v q0.symm, by first | rfl | exact bool_v (by simp [hb1, q0]), rfl⟩
              · rw [q0] at hb0
                go_wp2
                go_meet
                case rel => exact ⟨by first | rfl | exact bool_v q0.symm, by first | rfl | exact bool_v (by simp [q0]), rfl⟩
            · have hb0 := atC_out (l := l) (i := c + 1) (c := 45) (by omega)
              have hb1 := atC_out (l := l) (i := c + 1) (c := 43) (by omega)
              go_wp2
              go_meet
              case rel => exact ⟨by first | rfl | exact bool_v hb0.symm, bool_v (by rw [hb0, hb1]; rfl), rfl⟩
          case rest =>
            obtain ⟨rfl, rfl, rfl⟩ := hcut
            go_upto_if 133 with fail
            go_cut [15, 16] from 20 (fun v15 v16 wx => ∃ j : Nat, v15 = .int .i64 j ∧ v16 = .bool (atC l (c + 1) 45) ∧ (j : Int) ≤ l.length ∧ Hid (parts l i = if atD l j = true then ⟨neg, atC l (c + 1) 45, W, F, cut l j (dEnd l j), dEnd l j, true⟩ else noParts j) ∧ w = wx)
            case first =>
              cases hs : (atC l (c + 1) 45 || atC l (c + 1) 43)
              · have hj : Hid (parts l i = if atD l (c + 1) = true then ⟨neg, atC l (c + 1) 45, W, F, cut l (c + 1) (dEnd l (c + 1)), dEnd l (c + 1), true⟩ else noParts (c + 1)) := Lib.hid (by rw [HP4.out, Bool.or_comm, hs]; rfl)
                clear HP4
                go_wp2
                go_meet
                case rel => exact ⟨c + 1, by go_num, by first | rfl | exact bool_v (by rw [Bool.or_eq_false_iff] at hs; rw [hs.1]), by omega, hj, rfl⟩
              · have hlt2 : (c : Int) + 2 ≤ l.length := by
                  have : c + 1 < l.length := by
                    rw [Bool.or_eq_true] at hs
                    rcases hs with hs | hs <;> exact atC_lt hs
                  omega
                have hj : Hid (parts l i = if atD l (c + 2) = true then ⟨neg, atC l (c + 1) 45, W, F, cut l (c + 2) (dEnd l (c + 2)), dEnd l (c + 2), true⟩ else noParts (c + 2)) := Lib.hid (by rw [HP4.out, Bool.or_comm, hs]; rfl)
                clear HP4
                go_wp2
                go_meet
                case rel => exact ⟨c + 2, by go_num, rfl, by omega, hj, rfl⟩
            case rest =>
              obtain ⟨j, rfl, rfl, hjL, hj, rfl⟩ := hcut
              clear HP4
              generalize atC l (c + 1) 45 = eneg at *
              have hjN : j ≤ l.length := by omega
              have cd := fun W1 => l4digits_any l j W1 hjN hl
              cases hd : atD l j
              · have hno := Lib.hid (num_no HM.out (by rw [hj.out, hd]; rfl : parts l i = noParts j))
                rw [dEnd_stop hd] at cd
                clear hj hd
                go_wp2_with (go_at_call 38; refine (cd _).mono ?_; rintro e w' ⟨rfl, rfl⟩)
                refine bodyPost_ret (results_tmp4 rfl _ _ _) rfl ?_
                exact ⟨num_v hno.out, rfl⟩
              · obtain ⟨d, hde⟩ : ∃ d, d = dEnd l j := ⟨_, rfl⟩
                have hdj : j < d := by have := dEnd_ge l (j + 1); have := dEnd_step hd; omega
                have hdl := dEnd_le hjN
                rw [← hde] at cd hdl
                have hq : Hid (parts l i = ⟨neg, eneg, W, F, cut l j d, d, true⟩) := Lib.hid (by rw [hj.out, hd, hde]; rfl)
                have hED : ∀ x ∈ cut l j d, isD x = true := by rw [hde]; exact cut_digs
                have hEl := cut_len (l := l) (i := j) (j := d) (by omega) hdl
                have ec := ext_cut l j d
                obtain ⟨E, hE⟩ : ∃ E, E = cut l j d := ⟨_, rfl⟩
                have ec2 : (ByteArray.mk l.toArray).extract j d = ⟨E.toArray⟩ := by rw [ec, hE]; rfl
                rw [← hE] at hq hED hEl
                have hdL : (d : Int) ≤ l.length := by omega
                have hdj2 : (j : Int) ≤ d := by omega
                have hne : ((d : Int) == j) = false := by simp; omega
                by_cases h3 : (d : Int) - j ≤ 3
                · have hE3 : E.length ≤ 3 := by omega
                  have cv := fun W1 => l4value_any E 3 W1 hED (by omega) (by omega)
                  rw [l4V_yes (Nat.le_trans (lead_len E) hE3)] at cv
                  have hev : (decVal 0 E : Int) ≤ 1000000 := by
                    have h1 := decVal_lt E (fun c hc => isD_iff (hED c hc)) 0
                    have h2 : 10 ^ E.length ≤ 10 ^ 3 := Nat.pow_le_pow_right (by decide) hE3
                    omega
                  cases eneg
                  · have hfin : Hid (ExpOk l i neg false W F E d (decVal 0 E : Int) true) := Lib.hid ⟨hq.out, (decide_eq_true hE3).symm, fun _ => rfl⟩
                    clear hj hd hde hdj hdl hq hED hEl ec hE hE3
                    generalize decVal 0 E = ev at *
                    go_wp2_with (first | (go_at_call 38; refine (cd _).mono ?_; rintro e w' ⟨rfl, rfl⟩) | (go_at_call 39; refine (cv _).mono ?_; rintro e w' ⟨rfl, rfl⟩))
                    go_meet
                    case rel => exact ⟨d, false, E, ev, true, rfl, rfl, rfl, hdL, by omega, hev, hfin, rfl⟩
                  · have hfin : Hid (ExpOk l i neg true W F E d (-(decVal 0 E : Int)) true) := Lib.hid ⟨hq.out, (decide_eq_true hE3).symm, fun _ => rfl⟩
                    clear hj hd hde hdj hdl hq hED hEl ec hE hE3
                    generalize decVal 0 E = ev at *
                    go_wp2_with (first | (go_at_call 38; refine (cd _).mono ?_; rintro e w' ⟨rfl, rfl⟩) | (go_at_call 39; refine (cv _).mono ?_; rintro e w' ⟨rfl, rfl⟩))
                    go_meet
                    case rel => exact ⟨d, true, E, -(ev : Int), true, rfl, rfl, rfl, hdL, by omega, by omega, hfin, rfl⟩
                · have hE3 : ¬ E.length ≤ 3 := by omega
                  have hfin : Hid (ExpOk l i neg eneg W F E d 0 false) := Lib.hid ⟨hq.out, (decide_eq_false hE3).symm, fun h => by cases h⟩
                  clear hj hd hde hdj hdl hq hED hEl ec hE hE3
                  cases eneg
                  · go_wp2_with (go_at_call 38; refine (cd _).mono ?_; rintro e w' ⟨rfl, rfl⟩)
                    go_meet
                    case rel => exact ⟨d, false, E, 0, false, rfl, rfl, by first | rfl | exact bool_v (decide_eq_false (by omega)), hdL, by omega, by omega, hfin, rfl⟩
                  · go_wp2_with (go_at_call 38; refine (cd _).mono ?_; rintro e w' ⟨rfl, rfl⟩)
                    go_meet
                    case rel => exact ⟨d, true, E, 0, false, rfl, rfl, by first | rfl | exact bool_v (decide_eq_false (by omega)), hdL, by omega, by omega, hfin, rfl⟩
    case rest =>
      rename ∀ (a : Act) (w : World), Code.wp _ _ _ a w → _ => hK
      obtain ⟨d, eneg, E, x, fits, rfl, rfl, rfl, hdL, hx0, hx1, hp4, rfl⟩ := hcut
      refine hK _ _ ?_
      have hend := read_end l i m w d neg eneg W F E T x sg fits hl HM hsg hdL hx0 hx1 hTL hFL (Lib.hid hp3.out.2) hp4
      rw [tail_14 (fn := Tryd.f18) rfl] at hend
      exact hend _ rfl rfl rfl rfl rfl rfl rfl rfl
end Go.Proofs.YtmjlbglnlpfadaaDoor
