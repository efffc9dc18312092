import Derived.Test.YtnikcgmbkmbloaaGreatDoorG14
import Derived.Deep.Cut
import Derived.Deep.DeepCutAuto
/- The model's ReadNumber, its last statements: the number of the digits, the limits. -/
namespace Go.Proofs.YtnikcgmbkmbloaaGreatDoor
open Go.RowKit
theorem byte_beq (c d : UInt8) (n : Int) (hn : n = d.toNat) : ((c.toNat : Int) == n) = (c == d) := by
  subst hn
  rw [Bool.eq_iff_iff, beq_iff_eq, beq_iff_eq]
  constructor
  · intro h; exact UInt8.toNat_inj.1 (by omega)
  · intro h; subst h; rfl
/-- A byte at a place that is there, as the walk reads it. -/
theorem atC_bool {l : List UInt8} {i : Nat} (h : i < l.length) (d : UInt8) (n : Int) (hn : n = d.toNat) : (((l[i]).toNat : Int) == n) = atC l i d := by
  rw [byte_beq _ d n hn, atC_get h]
def ExpOk (l : List UInt8) (i : Nat) (neg eneg : Bool) (W F E : List UInt8) (d : Nat) (x : Int) (fits : Bool) : Prop := parts l i = ⟨neg, eneg, W, F, E, d, true⟩ ∧ fits = decide (E.length ≤ 3) ∧ (fits = true → x = sgnV eneg (decVal 0 E))
theorem wEnd_digs {l : List UInt8} {a : Nat} : ∀ c ∈ cut l a (wEnd l a), isD c = true := by
  unfold wEnd
  by_cases hz : atC l a 48 = true
  · rw [if_pos hz, cut_zero hz]; intro c hc; rw [List.mem_singleton] at hc; rw [hc]; decide
  · rw [if_neg hz]; exact cut_digs
theorem num_no {l : List UInt8} {i j : Nat} {m : Num} (hm : m = readN l i) (h : parts l i = noParts j) : m = ⟨0, 0, j, 1⟩ := by rw [hm]; unfold readN; rw [h]; rfl
theorem num_ok {l : List UInt8} {i : Nat} {m : Num} {p : Parts} (hm : m = readN l i) (h : parts l i = p) : m = numOf p := by rw [hm]; unfold readN; rw [h]
theorem bool_v {a b : Bool} (h : a = b) : Value.bool a = .bool b := by rw [h]
theorem int_v {k : IntKind} {a b : Int} (h : a = b) : Value.int k a = .int k b := by rw [h]
theorem num_v {m : Num} {n x : Int} {j c : Nat} (h : m = ⟨n, x, j, c⟩) : Ending.returned (.tuple #[.int .i64 n, .int .i64 x, .int .i64 j, .int .i64 c]) = .returned (numT m) := by rw [h]; rfl
/-- The body's statements from number k on. -/
def tailC : Nat → Code → Code
  | 0, c => c
  | n + 1, .seq _ b => tailC n b
  | _, c => c
def tailOf (k : Nat) (fn : Func) : Code := tailC k (fn.body.getD .skip)
theorem tail_9 {fn : Func} {a0 a1 a2 a3 a4 a5 a6 a7 a8 t : Code} (h : fn.body = some (.seq a0 (.seq a1 (.seq a2 (.seq a3 (.seq a4 (.seq a5 (.seq a6 (.seq a7 (.seq a8 t)))))))))) : tailOf 9 fn = t := by unfold tailOf; rw [h]; rfl
theorem tail_13 {fn : Func} {a0 a1 a2 a3 a4 a5 a6 a7 a8 a9 a10 a11 a12 t : Code} (h : fn.body = some (.seq a0 (.seq a1 (.seq a2 (.seq a3 (.seq a4 (.seq a5 (.seq a6 (.seq a7 (.seq a8 (.seq a9 (.seq a10 (.seq a11 (.seq a12 t)))))))))))))) : tailOf 13 fn = t := by unfold tailOf; rw [h]; rfl
theorem tail_14 {fn : Func} {a0 a1 a2 a3 a4 a5 a6 a7 a8 a9 a10 a11 a12 a13 t : Code} (h : fn.body = some (.seq a0 (.seq a1 (.seq a2 (.seq a3 (.seq a4 (.seq a5 (.seq a6 (.seq a7 (.seq a8 (.seq a9 (.seq a10 (.seq a11 (.seq a12 (.seq a13 t))))))))))))))) : tailOf 14 fn = t := by unfold tailOf; rw [h]; rfl
/-- The frame of ReadNumber's walk. -/
def rdF (f : Nat → Value) : Act := ⟨#[f 0, f 1, f 2, f 3, f 4, f 5, f 6, f 7, f 8, f 9, f 10, f 11, f 12, f 13, f 14, f 15, f 16, f 17, f 18, f 19, f 20, f 21, f 22, f 23, f 24, f 25, f 26, f 27, f 28, f 29, f 30, f 31, f 32, f 33, f 34, f 35, f 36, f 37, f 38, f 39, f 40, f 41, f 42, f 43, f 44, f 45, f 46, f 47, f 48, f 49, f 50, f 51, f 52, f 53, f 54, f 55, f 56, f 57, f 58, f 59, f 60, f 61, f 62, f 63, f 64, f 65, f 66, f 67, f 68, f 69, f 70, f 71, f 72, f 73, f 74, f 75, f 76, f 77, f 78, f 79, f 80, f 81, f 82, f 83, f 84, f 85, f 86, f 87, f 88, f 89, f 90, f 91, f 92, f 93, f 94, f 95, f 96, f 97, f 98, f 99, f 100, f 101, f 102, f 103, f 104, f 105, f 106, f 107, f 108, f 109, f 110, f 111, f 112, f 113, f 114, f 115, f 116, f 117, f 118, f 119, f 120, f 121, f 122, f 123, f 124, f 125, f 126, f 127, f 128, f 129, f 130, f 131, f 132, f 133, f 134, f 135, f 136, f 137, f 138, f 139, f 140, f 141, f 142, f 143, f 144, f 145, f 146, f 147, f 148, f 149, f 150, f 151, f 152, f 153, f 154, f 155, f 156, f 157, f 158, f 159, f 160, f 161, f 162, f 163, f 164, f 165, f 166, f 167, f 168, f 169, f 170, f 171, f 172, f 173, f 174, f 175, f 176, f 177, f 178], []⟩
def slot (a : Act) (k : Nat) : Value := a.tmps.getD k undef
set_option maxRecDepth 100000 in
set_option maxHeartbeats 8000000 in
theorem read_end (l : List UInt8) (i : Nat) (m : Num) (w : World) (d : Nat) (neg eneg : Bool) (W F E T : List UInt8) (x sg : Int) (fits : Bool) (hl : l.length ≤ 1048576) (HM : Hid (m = readN l i)) (hsg : Hid (sg = if neg = true then -1 else 1))
    (hdL : (d : Int) ≤ l.length) (hx0 : -1000000 ≤ x) (hx1 : x ≤ 1000000) (hTL : (T.length : Int) ≤ 2097152) (hFL : (F.length : Int) ≤ l.length) (hT : Hid (T = W ++ F ∧ ∀ c ∈ T, isD c = true)) (hp : Hid (ExpOk l i neg eneg W F E d x fits))
    (a : Act) (ha : a = rdF (slot a)) (h0 : slot a 0 = .string ⟨l.toArray⟩) (h1 : slot a 1 = .int .i64 d) (h8 : slot a 8 = .int .i64 sg) (h10 : slot a 10 = .string ⟨T.toArray⟩) (h11 : slot a 11 = .int .i64 F.length) (h13 : slot a 13 = .int .i64 x) (h14 : slot a 14 = .bool fits) :
    (tailOf 14 Tryz.f150).wp Tryz.prog (bodyPost Tryz.prog Tryz.f150 (fun e w' => e = .returned (numT m) ∧ w = w')) a w := by
  have cv := fun W1 => l4value_any T 17 W1 hT.out.2 (by omega) (by omega)
  rw [tail_14 (fn := Tryz.f150) rfl]
  generalize slot a = f at *
  subst ha
  unfold rdF
  dsimp only
  rw [h0, h1, h8, h10, h11, h13, h14]
  clear h0 h1 h8 h10 h11 h13 h14
  obtain ⟨e1, e2, e3⟩ := hp.out
  obtain ⟨t1, t2⟩ := hT.out
  by_cases h17 : (lead T).length ≤ 17
  · rw [l4V_yes h17] at cv
    have hv := lead_val t2 h17
    cases fits
    · have hfin : Hid (m = ⟨0, 0, d, 2⟩) := Lib.hid (by
        rw [num_ok HM.out e1]; unfold numOf
        rw [if_pos rfl, if_neg (by intro h; exact absurd (decide_eq_true h.2) (by rw [← e2]; decide))])
      have hv2 : (decVal 0 T : Int) ≤ 100000000000000000 := by omega
      clear hp hT e1 e2 e3 t1 t2 h17 hv HM hsg hl
      generalize decVal 0 T = tv at *
      go_wp2_with (go_at_call 185; refine (cv _).mono ?_; rintro e w' ⟨rfl, rfl⟩)
      refine bodyPost_ret (results_tmp4 rfl _ _ _) rfl ?_
      exact ⟨num_v hfin.out, rfl⟩
    · have hfin : Hid (m = ⟨sgnV neg (decVal 0 T), x - F.length, d, 0⟩) := Lib.hid (by
        rw [num_ok HM.out e1]; unfold numOf
        rw [if_pos rfl, if_pos ⟨by rw [← t1]; exact h17, of_decide_eq_true e2.symm⟩, ← t1, e3 rfl])
      have hv2 : (decVal 0 T : Int) ≤ 100000000000000000 := by omega
      have hFI : (F.length : Int) ≤ 1048576 := by omega
      clear hp hT e1 e2 e3 t1 t2 h17 hv HM hFL
      generalize decVal 0 T = tv at *
      cases neg
      · have hs1 : sg = 1 := by rw [hsg.out, if_neg (by decide)]
        subst hs1
        clear hsg hl
        go_wp2_with (go_at_call 185; refine (cv _).mono ?_; rintro e w' ⟨rfl, rfl⟩)
        refine bodyPost_ret (results_tmp4 rfl _ _ _) rfl ?_
        exact ⟨num_v (by rw [hfin.out]; congr 1), rfl⟩
      · have hs1 : sg = -1 := by rw [hsg.out, if_pos rfl]
        subst hs1
        clear hsg hl
        go_wp2_with (go_at_call 185; refine (cv _).mono ?_; rintro e w' ⟨rfl, rfl⟩)
        refine bodyPost_ret (results_tmp4 rfl _ _ _) rfl ?_
        exact ⟨num_v (by rw [hfin.out]; congr 1), rfl⟩
  · rw [l4V_no h17] at cv
    have hfin : Hid (m = ⟨0, 0, d, 2⟩) := Lib.hid (by
      rw [num_ok HM.out e1]; unfold numOf
      rw [if_pos rfl, if_neg (by intro h; exact h17 (by rw [t1]; exact h.1))])
    clear hp hT e1 e2 e3 t1 t2 h17 HM hsg hl
    go_wp2_with (go_at_call 185; refine (cv _).mono ?_; rintro e w' ⟨rfl, rfl⟩)
    refine bodyPost_ret (results_tmp4 rfl _ _ _) rfl ?_
    exact ⟨num_v hfin.out, rfl⟩
end Go.Proofs.YtnikcgmbkmbloaaGreatDoor
/- The model's ReadNumber, from the exponent on. -/
namespace Go.Proofs.YtnikcgmbkmbloaaGreatDoor
open Go.RowKit
set_option maxRecDepth 100000 in
set_option maxHeartbeats 8000000 in
theorem read_exp (l : List UInt8) (i : Nat) (m : Num) (w : World) (c : Nat) (neg : Bool) (W F T : List UInt8) (sg : Int) (hl : l.length ≤ 1048576) (HM : Hid (m = readN l i)) (hsg : Hid (sg = if neg = true then -1 else 1))
    (hcL : (c : Int) ≤ l.length) (hTL : (T.length : Int) ≤ 2097152) (hFL : (F.length : Int) ≤ l.length) (hp3 : Hid (parts l i = partsE l neg W F c ∧ T = W ++ F ∧ ∀ x ∈ T, isD x = true))
    (a : Act) (ha : a = rdF (slot a)) (h0 : slot a 0 = .string ⟨l.toArray⟩) (h1 : slot a 1 = .int .i64 c) (h8 : slot a 8 = .int .i64 sg) (h10 : slot a 10 = .string ⟨T.toArray⟩) (h11 : slot a 11 = .int .i64 F.length) (h13 : slot a 13 = .int .i64 0) (h14 : slot a 14 = .bool true) :
    (tailOf 13 Tryz.f150).wp Tryz.prog (bodyPost Tryz.prog Tryz.f150 (fun e w' => e = .returned (numT m) ∧ w = w')) a w := by
  have hL : (l.length : Int) ≤ 1048576 := by omega
  rw [tail_13 (fn := Tryz.f150) rfl]
  generalize slot a = f at *
  subst ha
  unfold rdF
  dsimp only
  rw [h0, h1, h8, h10, h11, h13, h14]
  clear h0 h1 h8 h10 h11 h13 h14
  go_upto_region 24 with fail
  go_cut [105] from 20 (fun v wx => v = .bool (atC l c 101 || atC l c 69) ∧ w = wx)
  case first =>
    by_cases h : (c : Int) < l.length
    · have hn : c < l.length := by omega
      have ix := fun W1 => str_indexZ l (c) ((c : Int)) (by omega) hn W1
      have hb0 := atC_bool hn 101 101 rfl
      have hb1 := atC_bool hn 69 69 rfl
      cases q0 : atC l (c) 101
      · rw [q0] at hb0
        go_wp2
        go_meet
        case rel => exact ⟨by first | rfl | exact bool_v (by simp [hb1, q0]), rfl⟩
      · rw [q0] at hb0
        go_wp2
        go_meet
        case rel => exact ⟨by first | rfl | exact bool_v (by simp [q0]), rfl⟩
    · have hb0 := atC_out (l := l) (i := c) (c := 101) (by omega)
      have hb1 := atC_out (l := l) (i := c) (c := 69) (by omega)
      go_wp2
      go_meet
      case rel => exact ⟨bool_v (by rw [hb0, hb1]; rfl), rfl⟩
  case rest =>
    obtain ⟨rfl, rfl⟩ := hcut
    have hcN : c ≤ l.length := by omega
    go_upto_if 105 with fail
    go_cut [1, 13, 14] from 20 (fun v1 v13 v14 wx => ∃ (d : Nat) (eneg : Bool) (E : List UInt8) (x : Int) (fits : Bool), v1 = .int .i64 d ∧ v13 = .int .i64 x ∧ v14 = .bool fits ∧ (d : Int) ≤ l.length ∧ -1000000 ≤ x ∧ x ≤ 1000000 ∧
        Hid (ExpOk l i neg eneg W F E d x fits) ∧ w = wx)
    case first =>
      cases hc : (atC l c 101 || atC l c 69)
      · have hp4 : Hid (ExpOk l i neg false W F [] c 0 true) := Lib.hid ⟨by rw [hp3.out.1]; unfold partsE; rw [hc]; rfl, rfl, fun _ => rfl⟩
        clear hp3
        go_wp2
        go_meet
        case rel => exact ⟨c, false, [], 0, true, rfl, rfl, rfl, hcL, by omega, by omega, hp4, rfl⟩
      · have hlt : c + 1 ≤ l.length := by
          rw [Bool.or_eq_true] at hc
          rcases hc with hc | hc <;> exact atC_lt hc
        have hltI : (c : Int) + 1 ≤ l.length := by omega
        have hp4 := hp3.out.1
        unfold partsE at hp4
        rw [hc, if_pos rfl] at hp4
        simp only at hp4
        have HP4 := Lib.hid hp4
        clear hp4 hp3 hc
        go_upto_region 26 with fail
        go_cut [16] from 20 (fun v wx => v = .bool (atC l (c + 1) 45) ∧ w = wx)
        case first =>
          by_cases h : (c : Int) + 1 < l.length
          · have hn : c + 1 < l.length := by omega
            have ix := fun W1 => str_indexZ l (c + 1) ((c : Int) + 1) (by omega) hn W1
            have hb0 := atC_bool hn 45 45 rfl
            go_wp2
            go_meet
            case rel => exact ⟨by first | rfl | exact bool_v (by simp [hb0]), rfl⟩
          · have hb0 := atC_out (l := l) (i := c + 1) (c := 45) (by omega)
            go_wp2
            go_meet
            case rel => exact ⟨bool_v hb0.symm, rfl⟩
        case rest =>
          obtain ⟨rfl, rfl⟩ := hcut
          go_upto_region 27 with fail
          go_cut [16, 133] from 20 (fun v16 v wx => v16 = .bool (atC l (c + 1) 45) ∧ v = .bool (atC l (c + 1) 45 || atC l (c + 1) 43) ∧ w = wx)
          case first =>
            by_cases h : (c : Int) + 1 < l.length
            · have hn : c + 1 < l.length := by omega
              have ix := fun W1 => str_indexZ l (c + 1) ((c : Int) + 1) (by omega) hn W1
              have hb0 := atC_bool hn 45 45 rfl
              have hb1 := atC_bool hn 43 43 rfl
              cases q0 : atC l (c + 1) 45
              · rw [q0] at hb0
                go_wp2
                go_meet
                case rel => exact ⟨by first | rfl | exact bool_v q0.symm, by first | rfl | exact bool_v (by simp [hb1, q0]), rfl⟩
              · rw [q0] at hb0
                go_wp2
                go_meet
                case rel => exact ⟨by first | rfl | exact bool_v q0.symm, by first | rfl | exact bool_v (by simp [q0]), rfl⟩
            · have hb0 := atC_out (l := l) (i := c + 1) (c := 45) (by omega)
              have hb1 := atC_out (l := l) (i := c + 1) (c := 43) (by omega)
              go_wp2
              go_meet
              case rel => exact ⟨by first | rfl | exact bool_v hb0.symm, bool_v (by rw [hb0, hb1]; rfl), rfl⟩
          case rest =>
            obtain ⟨rfl, rfl, rfl⟩ := hcut
            go_upto_if 133 with fail
            go_cut [15, 16] from 20 (fun v15 v16 wx => ∃ j : Nat, v15 = .int .i64 j ∧ v16 = .bool (atC l (c + 1) 45) ∧ (j : Int) ≤ l.length ∧ Hid (parts l i = if atD l j = true then ⟨neg, atC l (c + 1) 45, W, F, cut l j (dEnd l j), dEnd l j, true⟩ else noParts j) ∧ w = wx)
            case first =>
              cases hs : (atC l (c + 1) 45 || atC l (c + 1) 43)
              · have hj : Hid (parts l i = if atD l (c + 1) = true then ⟨neg, atC l (c + 1) 45, W, F, cut l (c + 1) (dEnd l (c + 1)), dEnd l (c + 1), true⟩ else noParts (c + 1)) := Lib.hid (by rw [HP4.out, Bool.or_comm, hs]; rfl)
                clear HP4
                go_wp2
                go_meet
                case rel => exact ⟨c + 1, by go_num, by first | rfl | exact bool_v (by rw [Bool.or_eq_false_iff] at hs; rw [hs.1]), by omega, hj, rfl⟩
              · have hlt2 : (c : Int) + 2 ≤ l.length := by
                  have : c + 1 < l.length := by
                    rw [Bool.or_eq_true] at hs
                    rcases hs with hs | hs <;> exact atC_lt hs
                  omega
                have hj : Hid (parts l i = if atD l (c + 2) = true then ⟨neg, atC l (c + 1) 45, W, F, cut l (c + 2) (dEnd l (c + 2)), dEnd l (c + 2), true⟩ else noParts (c + 2)) := Lib.hid (by rw [HP4.out, Bool.or_comm, hs]; rfl)
                clear HP4
                go_wp2
                go_meet
                case rel => exact ⟨c + 2, by go_num, rfl, by omega, hj, rfl⟩
            case rest =>
              obtain ⟨j, rfl, rfl, hjL, hj, rfl⟩ := hcut
              clear HP4
              generalize atC l (c + 1) 45 = eneg at *
              have hjN : j ≤ l.length := by omega
              have cd := fun W1 => l4digits_any l j W1 hjN hl
              cases hd : atD l j
              · have hno := Lib.hid (num_no HM.out (by rw [hj.out, hd]; rfl : parts l i = noParts j))
                rw [dEnd_stop hd] at cd
                clear hj hd
                go_wp2_with (go_at_call 184; refine (cd _).mono ?_; rintro e w' ⟨rfl, rfl⟩)
                refine bodyPost_ret (results_tmp4 rfl _ _ _) rfl ?_
                exact ⟨num_v hno.out, rfl⟩
              · obtain ⟨d, hde⟩ : ∃ d, d = dEnd l j := ⟨_, rfl⟩
                have hdj : j < d := by have := dEnd_ge l (j + 1); have := dEnd_step hd; omega
                have hdl := dEnd_le hjN
                rw [← hde] at cd hdl
                have hq : Hid (parts l i = ⟨neg, eneg, W, F, cut l j d, d, true⟩) := Lib.hid (by rw [hj.out, hd, hde]; rfl)
                have hED : ∀ x ∈ cut l j d, isD x = true := by rw [hde]; exact cut_digs
                have hEl := cut_len (l := l) (i := j) (j := d) (by omega) hdl
                have ec := ext_cut l j d
                obtain ⟨E, hE⟩ : ∃ E, E = cut l j d := ⟨_, rfl⟩
                have ec2 : (ByteArray.mk l.toArray).extract j d = ⟨E.toArray⟩ := by rw [ec, hE]; rfl
                rw [← hE] at hq hED hEl
                have hdL : (d : Int) ≤ l.length := by omega
                have hdj2 : (j : Int) ≤ d := by omega
                have hne : ((d : Int) == j) = false := by simp; omega
                by_cases h3 : (d : Int) - j ≤ 3
                · have hE3 : E.length ≤ 3 := by omega
                  have cv := fun W1 => l4value_any E 3 W1 hED (by omega) (by omega)
                  rw [l4V_yes (Nat.le_trans (lead_len E) hE3)] at cv
                  have hev : (decVal 0 E : Int) ≤ 1000000 := by
                    have h1 := decVal_lt E (fun c hc => isD_iff (hED c hc)) 0
                    have h2 : 10 ^ E.length ≤ 10 ^ 3 := Nat.pow_le_pow_right (by decide) hE3
                    omega
                  cases eneg
                  · have hfin : Hid (ExpOk l i neg false W F E d (decVal 0 E : Int) true) := Lib.hid ⟨hq.out, (decide_eq_true hE3).symm, fun _ => rfl⟩
                    clear hj hd hde hdj hdl hq hED hEl ec hE hE3
                    generalize decVal 0 E = ev at *
                    go_wp2_with (first | (go_at_call 184; refine (cd _).mono ?_; rintro e w' ⟨rfl, rfl⟩) | (go_at_call 185; refine (cv _).mono ?_; rintro e w' ⟨rfl, rfl⟩))
                    go_meet
                    case rel => exact ⟨d, false, E, ev, true, rfl, rfl, rfl, hdL, by omega, hev, hfin, rfl⟩
                  · have hfin : Hid (ExpOk l i neg true W F E d (-(decVal 0 E : Int)) true) := Lib.hid ⟨hq.out, (decide_eq_true hE3).symm, fun _ => rfl⟩
                    clear hj hd hde hdj hdl hq hED hEl ec hE hE3
                    generalize decVal 0 E = ev at *
                    go_wp2_with (first | (go_at_call 184; refine (cd _).mono ?_; rintro e w' ⟨rfl, rfl⟩) | (go_at_call 185; refine (cv _).mono ?_; rintro e w' ⟨rfl, rfl⟩))
                    go_meet
                    case rel => exact ⟨d, true, E, -(ev : Int), true, rfl, rfl, rfl, hdL, by omega, by omega, hfin, rfl⟩
                · have hE3 : ¬ E.length ≤ 3 := by omega
                  have hfin : Hid (ExpOk l i neg eneg W F E d 0 false) := Lib.hid ⟨hq.out, (decide_eq_false hE3).symm, fun h => by cases h⟩
                  clear hj hd hde hdj hdl hq hED hEl ec hE hE3
                  cases eneg
                  · go_wp2_with (go_at_call 184; refine (cd _).mono ?_; rintro e w' ⟨rfl, rfl⟩)
                    go_meet
                    case rel => exact ⟨d, false, E, 0, false, rfl, rfl, by first | rfl | exact bool_v (decide_eq_false (by omega)), hdL, by omega, by omega, hfin, rfl⟩
                  · go_wp2_with (go_at_call 184; refine (cd _).mono ?_; rintro e w' ⟨rfl, rfl⟩)
                    go_meet
                    case rel => exact ⟨d, true, E, 0, false, rfl, rfl, by first | rfl | exact bool_v (decide_eq_false (by omega)), hdL, by omega, by omega, hfin, rfl⟩
    case rest =>
      rename ∀ (a : Act) (w : World), Code.wp _ _ _ a w → _ => hK
      obtain ⟨d, eneg, E, x, fits, rfl, rfl, rfl, hdL, hx0, hx1, hp4, rfl⟩ := hcut
      refine hK _ _ ?_
      have hend := read_end l i m w d neg eneg W F E T x sg fits hl HM hsg hdL hx0 hx1 hTL hFL (Lib.hid hp3.out.2) hp4
      rw [tail_14 (fn := Tryz.f150) rfl] at hend
      exact hend _ rfl rfl rfl rfl rfl rfl rfl rfl
end Go.Proofs.YtnikcgmbkmbloaaGreatDoor
/- The model's ReadNumber, from the point on. -/
namespace Go.Proofs.YtnikcgmbkmbloaaGreatDoor
open Go.RowKit
set_option maxRecDepth 100000 in
set_option maxHeartbeats 8000000 in
theorem read_point (l : List UInt8) (i : Nat) (m : Num) (w : World) (b : Nat) (neg : Bool) (W : List UInt8) (sg : Int) (hl : l.length ≤ 1048576) (HM : Hid (m = readN l i)) (hsg : Hid (sg = if neg = true then -1 else 1))
    (hbL : (b : Int) ≤ l.length) (hWI : (W.length : Int) ≤ l.length) (hp2 : Hid (parts l i = partsF l neg W b)) (hwd : Hid (∀ c ∈ W, isD c = true))
    (a : Act) (ha : a = rdF (slot a)) (h0 : slot a 0 = .string ⟨l.toArray⟩) (h1 : slot a 1 = .int .i64 b) (h8 : slot a 8 = .int .i64 sg) (h10 : slot a 10 = .string ⟨W.toArray⟩) :
    (tailOf 9 Tryz.f150).wp Tryz.prog (bodyPost Tryz.prog Tryz.f150 (fun e w' => e = .returned (numT m) ∧ w = w')) a w := by
  have hL : (l.length : Int) ≤ 1048576 := by omega
  rw [tail_9 (fn := Tryz.f150) rfl]
  generalize slot a = f at *
  subst ha
  unfold rdF
  dsimp only
  rw [h0, h1, h8, h10]
  clear h0 h1 h8 h10
  go_upto_region 15 with fail
  go_cut [68] from 20 (fun v wx => v = .bool (atC l b 46) ∧ w = wx)
  case first =>
    by_cases h : (b : Int) < l.length
    · have hn : b < l.length := by omega
      have ix := fun W1 => str_indexZ l (b) ((b : Int)) (by omega) hn W1
      have hb0 := atC_bool hn 46 46 rfl
      go_wp2
      go_meet
      case rel => exact ⟨by first | rfl | exact bool_v (by simp [hb0]), rfl⟩
    · have hb0 := atC_out (l := l) (i := b) (c := 46) (by omega)
      go_wp2
      go_meet
      case rel => exact ⟨bool_v hb0.symm, rfl⟩
  case rest =>
    obtain ⟨rfl, rfl⟩ := hcut
    have hbN : b ≤ l.length := by omega
    go_upto_if 68 with fail
    go_cut [1, 10, 11] from 20 (fun v1 v10 v11 wx => ∃ (c : Nat) (F T : List UInt8), v1 = .int .i64 c ∧ v10 = .string ⟨T.toArray⟩ ∧ v11 = .int .i64 F.length ∧ (c : Int) ≤ l.length ∧ (T.length : Int) ≤ 2097152 ∧ (F.length : Int) ≤ l.length ∧ Hid (parts l i = partsE l neg W F c ∧ T = W ++ F ∧ ∀ x ∈ T, isD x = true) ∧ w = wx)
    case first =>
      cases hc : atC l b 46
      · have hp3 : Hid (parts l i = partsE l neg W [] b ∧ W = W ++ [] ∧ ∀ x ∈ W, isD x = true) := Lib.hid ⟨by rw [hp2.out]; unfold partsF; rw [hc]; rfl, by simp, hwd.out⟩
        clear hp2 hwd
        go_wp2
        go_meet
        case rel => exact ⟨b, [], W, rfl, rfl, rfl, hbL, by omega, by simp, hp3, rfl⟩
      · have hlt : b + 1 ≤ l.length := atC_lt hc
        have hltI : (b : Int) + 1 ≤ l.length := by omega
        have cd := fun W1 => l4digits_any l (b + 1) W1 hlt hl
        rw [show ((b + 1 : Nat) : Int) = (b : Int) + 1 by omega] at cd
        cases hd : atD l (b + 1)
        · have hno := Lib.hid (num_no HM.out (by rw [hp2.out]; unfold partsF; rw [hc, hd]; rfl : parts l i = noParts (b + 1)))
          rw [dEnd_stop hd, show ((b + 1 : Nat) : Int) = (b : Int) + 1 by omega] at cd
          clear hp2 hd hc hwd
          go_wp2_with (go_at_call 184; refine (cd _).mono ?_; rintro e w' ⟨rfl, rfl⟩)
          refine bodyPost_ret (results_tmp4 rfl _ _ _) rfl ?_
          exact ⟨num_v hno.out, rfl⟩
        · obtain ⟨c, hce⟩ : ∃ c, c = dEnd l (b + 1) := ⟨_, rfl⟩
          have hcb : b + 1 < c := by have := dEnd_ge l (b + 1 + 1); have := dEnd_step hd; omega
          have hcl := dEnd_le hlt
          rw [← hce] at cd hcl
          have hp3 : Hid (parts l i = partsE l neg W (cut l (b + 1) c) c) := Lib.hid (by rw [hp2.out, hce]; unfold partsF; rw [hc, hd]; rfl)
          have hfd : ∀ x ∈ cut l (b + 1) c, isD x = true := by rw [hce]; exact cut_digs
          have hfl := cut_len (l := l) (i := b + 1) (j := c) (by omega) hcl
          have ec := ext_cut l (b + 1) c
          obtain ⟨F, hF⟩ : ∃ F, F = cut l (b + 1) c := ⟨_, rfl⟩
          have ec2 : (ByteArray.mk l.toArray).extract (b + 1) c = ⟨F.toArray⟩ := by rw [ec, hF]; rfl
          rw [← hF] at hp3 hfd hfl
          have hcat := cat_eq W F
          obtain ⟨T, hT⟩ : ∃ T, T = W ++ F := ⟨_, rfl⟩
          have hp4 : Hid (parts l i = partsE l neg W F c ∧ T = W ++ F ∧ ∀ x ∈ T, isD x = true) := Lib.hid ⟨hp3.out, hT, fun x hx => by
            rw [hT, List.mem_append] at hx
            rcases hx with hx | hx
            · exact hwd.out x hx
            · exact hfd x hx⟩
          have hTl : (T.length : Int) ≤ 2097152 := by rw [hT]; simp; omega
          rw [← hT] at hcat
          have hcL : (c : Int) ≤ l.length := by omega
          have hcb2 : (b : Int) + 1 ≤ c := by omega
          have hne : ((c : Int) == (b : Int) + 1) = false := by simp; omega
          have hFl2 : (c : Int) - b - 1 = F.length := by omega
          have tn : ((b : Int) + 1).toNat = b + 1 := by omega
          have tp : (0 : Int) ≤ (b : Int) + 1 := by omega
          have hFI : (F.length : Int) ≤ l.length := by omega
          clear hp2 hp3 hc hd hce hcb hcl hfd hfl ec hF hT hwd hlt
          go_wp2_with (go_at_call 184; refine (cd _).mono ?_; rintro e w' ⟨rfl, rfl⟩)
          go_meet
          case rel => exact ⟨c, F, T, rfl, rfl, by first | rfl | exact int_v hFl2, hcL, hTl, hFI, hp4, rfl⟩
    case rest =>
      obtain ⟨c, F, T, rfl, rfl, rfl, hcL, hTL, hFL, hp3, rfl⟩ := hcut
      rename ∀ (a : Act) (w : World), Code.wp _ _ _ a w → _ => hK
      have hend := read_exp l i m w c neg W F T sg hl HM hsg hcL hTL hFL hp3
      rw [tail_13 (fn := Tryz.f150) rfl] at hend
      have HE := Lib.hid hend
      clear hend
      refine hK _ _ ?_
      refine wp_seq_k (fun K1 hK1 => ?_)
      have HK1 := Lib.hid hK1
      clear hK1 hK
      go_wp2
      refine HK1.out _ _ ?_
      refine wp_seq_k (fun K2 hK2 => ?_)
      have HK2 := Lib.hid hK2
      clear hK2 HK1
      go_wp2
      refine HK2.out _ _ ?_
      exact HE.out _ rfl rfl rfl rfl rfl rfl rfl rfl
end Go.Proofs.YtnikcgmbkmbloaaGreatDoor
/- What the model's ReadNumber returns. -/
namespace Go.Proofs.YtnikcgmbkmbloaaGreatDoor
open Go.RowKit
set_option maxRecDepth 100000 in
set_option maxHeartbeats 8000000 in
theorem readnum_spec (l : List UInt8) (z : Int) (w : World) (hl : l.length ≤ 1048576) : Calls Tryz.prog 150 #[.string ⟨l.toArray⟩, .int .i64 z] w fun e w' => e = .returned (readT l z) ∧ w = w' := by
  have hL : (l.length : Int) ≤ 1048576 := by omega
  by_cases hz : z < 0
  · rw [readT_out (.inl hz)]
    go_enter Tryz.func150, Tryz.ntmps150
    go_wp2
    refine bodyPost_ret (results_tmp4 rfl _ _ _) rfl ?_
    exact ⟨rfl, rfl⟩
  · by_cases hz2 : (l.length : Int) < z
    · rw [readT_out (.inr hz2)]
      go_enter Tryz.func150, Tryz.ntmps150
      go_wp2
      refine bodyPost_ret (results_tmp4 rfl _ _ _) rfl ?_
      exact ⟨rfl, rfl⟩
    · obtain ⟨i, rfl⟩ : ∃ i : Nat, z = i := ⟨z.toNat, by omega⟩
      have hi : i ≤ l.length := by omega
      have hI : (i : Int) ≤ l.length := by omega
      rw [readT_in hi]
      obtain ⟨m, hm⟩ : ∃ m, m = readN l i := ⟨_, rfl⟩
      rw [← hm]
      have HM := Lib.hid hm
      clear hm hz hz2
      go_enter Tryz.func150, Tryz.ntmps150
      go_upto_region 4 with fail
      go_cut [38] from 20 (fun v wx => v = .bool (atC l i 45) ∧ w = wx)
      case first =>
        by_cases h : (i : Int) < l.length
        · have hn : i < l.length := by omega
          have ix := fun W1 => str_indexZ l (i) ((i : Int)) (by omega) hn W1
          have hb0 := atC_bool hn 45 45 rfl
          go_wp2
          go_meet
          case rel => exact ⟨by first | rfl | exact bool_v (by simp [hb0]), rfl⟩
        · have hb0 := atC_out (l := l) (i := i) (c := 45) (by omega)
          go_wp2
          go_meet
          case rel => exact ⟨bool_v hb0.symm, rfl⟩
      case rest =>
        obtain ⟨rfl, rfl⟩ := hcut
        go_upto_if 38 with fail
        go_cut [1, 8] from 20 (fun v1 v8 wx => ∃ (a : Nat) (neg : Bool) (sg : Int), v1 = .int .i64 a ∧ v8 = .int .i64 sg ∧ Hid (sg = if neg = true then -1 else 1) ∧ (a : Int) ≤ l.length ∧ Hid (parts l i = partsW l neg a) ∧ w = wx)
        case first =>
          cases hc : atC l i 45
          · have hp : Hid (parts l i = partsW l false i) := Lib.hid (by unfold parts; rw [hc]; rfl)
            go_wp2
            go_meet
            case rel => exact ⟨i, false, _, rfl, rfl, Lib.hid rfl, hI, hp, rfl⟩
          · have hp : Hid (parts l i = partsW l true (i + 1)) := Lib.hid (by unfold parts; rw [hc]; rfl)
            have hlt : (i : Int) + 1 ≤ l.length := by have := atC_lt hc; omega
            go_wp2
            go_meet
            case rel => exact ⟨i + 1, true, _, by go_num, rfl, Lib.hid rfl, by omega, hp, rfl⟩
        case rest =>
          obtain ⟨a, neg, sg, rfl, rfl, hsg, ha, hp, rfl⟩ := hcut
          have haN : a ≤ l.length := by omega
          have cd := fun W1 => l4digits_any l a W1 haN hl
          cases hd : atD l a
          · have hno := Lib.hid (num_no HM.out (by rw [hp.out]; unfold partsW; rw [hd]; rfl : parts l i = noParts a))
            rw [dEnd_stop hd] at cd
            clear hp hd
            go_wp2_with (go_at_call 184; refine (cd _).mono ?_; rintro e w' ⟨rfl, rfl⟩)
            refine bodyPost_ret (results_tmp4 rfl _ _ _) rfl ?_
            exact ⟨num_v hno.out, rfl⟩
          · have hp2 : Hid (parts l i = partsF l neg (cut l a (wEnd l a)) (wEnd l a)) := Lib.hid (by rw [hp.out]; unfold partsW; rw [hd]; rfl)
            have hlt : a < l.length := atD_lt hd
            have hwd : Hid (∀ c ∈ cut l a (wEnd l a), isD c = true) := Lib.hid wEnd_digs
            have hwl := wEnd_le haN
            have hwg := wEnd_gt hd
            obtain ⟨q, hq⟩ : ∃ q, q = dEnd l a := ⟨_, rfl⟩
            have hw1 : Hid (wEnd l a = if atC l a 48 = true then a + 1 else q) := Lib.hid (by rw [hq]; rfl)
            have hqa : a < q := by have := dEnd_ge l (a + 1); have := dEnd_step hd; omega
            have hql := dEnd_le haN
            rw [← hq] at cd hql
            have hqb : ((q : Int) == a) = false := by simp; omega
            have ix := fun W1 => str_index l a hlt W1
            have hb0 := atC_bool hlt 48 48 rfl
            obtain ⟨b, hbe⟩ : ∃ b, b = wEnd l a := ⟨_, rfl⟩
            rw [← hbe] at hp2 hwd hwl hwg hw1
            have hbL : (b : Int) ≤ l.length := by omega
            have hab : (a : Int) ≤ b := by omega
            have haI : (a : Int) + 1 ≤ l.length := by omega
            have hW1 : (cut l a b).length ≤ l.length := by unfold cut; simp; omega
            have ec := ext_cut l a b
            obtain ⟨W, hW⟩ : ∃ W, W = cut l a b := ⟨_, rfl⟩
            have ec2 : (ByteArray.mk l.toArray).extract a b = ⟨W.toArray⟩ := by rw [ec, hW]; rfl
            rw [← hW] at hp2 hwd hW1
            have hWI : (W.length : Int) ≤ l.length := by omega
            clear hp hd hq hbe hwl hwg hqa hql hW hW1 ec
            go_upto_if 52 with (go_at_call 184; refine (cd _).mono ?_; rintro e w' ⟨rfl, rfl⟩)
            go_cut [1] from 20 (fun v1 wx => v1 = .int .i64 b ∧ w = wx)
            case first =>
              cases hc : atC l a 48
              · have hw2 := hw1.out
                rw [hc, if_neg (by decide)] at hw2
                have hw3 : (b : Int) = q := by omega
                clear hw2
                go_wp2
                go_meet
                case rel => exact ⟨int_v hw3.symm, rfl⟩
              · have hw2 := hw1.out
                rw [hc, if_pos rfl] at hw2
                have hw3 : (b : Int) = a + 1 := by omega
                clear hw2
                go_wp2
                go_meet
                case rel => exact ⟨int_v hw3.symm, rfl⟩
            case rest =>
              obtain ⟨rfl, rfl⟩ := hcut
              clear hw1 hqb ix hb0 cd haI ha hlt
              rename ∀ (a : Act) (w : World), Code.wp _ _ _ a w → _ => hK
              have hend := read_point l i m w b neg W sg hl HM hsg hbL hWI hp2 hwd
              rw [tail_9 (fn := Tryz.f150) rfl] at hend
              have HE := Lib.hid hend
              clear hend
              refine hK _ _ ?_
              refine wp_seq_k (fun K1 hK1 => ?_)
              have HK1 := Lib.hid hK1
              clear hK1 hK
              go_wp2
              refine HK1.out _ _ ?_
              exact HE.out _ rfl rfl rfl rfl rfl
end Go.Proofs.YtnikcgmbkmbloaaGreatDoor
/- ReadToken: the program's and the model's answers. -/
namespace Go.Proofs.YtnikcgmbkmbloaaGreatDoor
open Go.RowKit
set_option maxRecDepth 100000
def readTokV (l : List UInt8) (a : Int) : Value := if 0 ≤ a ∧ a ≤ (l.length : Int) then (readTok l a.toNat).val else (badR 1).val
theorem readTokV_out {l : List UInt8} {a : Int} (h : a < 0 ∨ (l.length : Int) < a) : readTokV l a = (badR 1).val := by unfold readTokV; rw [if_neg (by omega)]
theorem readTokV_in {l : List UInt8} {i : Nat} (h : i ≤ l.length) : readTokV l i = (readTok l i).val := by unfold readTokV; rw [if_pos (by omega)]; rfl
theorem inS_at {l : List UInt8} {i : Nat} {c : UInt8} (h : l[i]? = some c) (set : List UInt8) : inS l set i = set.contains c := by unfold inS; rw [h]
theorem num_starts (c : UInt8) : ([45, 48, 49, 50, 51, 52, 53, 54, 55, 56, 57] : List UInt8).contains c = (c == 45 || isD c) := by
  rw [List.contains_cons, isD_list]
theorem one_q (c : UInt8) : ([34] : List UInt8).contains c = decide (c = 34) := by
  simp only [List.contains_cons, List.contains_nil, Bool.or_false]
  rw [Bool.eq_iff_iff, beq_iff_eq, decide_eq_true_eq]
theorem cut_one {l : List UInt8} {j : Nat} {c : UInt8} (h : l[j]? = some c) : cut l j (j + 1) = [c] := by
  obtain ⟨hj, e⟩ := List.getElem?_eq_some_iff.1 h
  unfold cut
  rw [List.drop_eq_getElem_cons hj, e, Nat.add_sub_cancel_left]; rfl
theorem tokAt_some {l : List UInt8} {j : Nat} {c : UInt8} (h : l[j]? = some c) : tokAt l j = charR l j c := by unfold tokAt; rw [h]
theorem tokAt_none {l : List UInt8} {j : Nat} (h : l[j]? = none) : tokAt l j = ⟨tok0, j, 0⟩ := by unfold tokAt; rw [h]
theorem tokR_eta (r : TokR) : ∃ (k n x : Int) (s : List UInt8) (nx cd : Nat), r = ⟨⟨k, s, n, x⟩, nx, cd⟩ := ⟨r.t.k, r.t.n, r.t.x, r.t.s, r.next, r.code, rfl⟩
set_option maxHeartbeats 4000000 in
theorem readtok_impl (l : List UInt8) (a : Int) (w : World) (hl : l.length ≤ 1048576) (h1 : a ≤ 9223372036854775807) (hE : Env w) :
    Calls Tryz.prog 90 #[.string ⟨l.toArray⟩, .int .i64 a] w fun e w' => e = .returned (readTokV l a) ∧ Below w.heap.size w w' := by
  have hsz := size_l l
  have HBX := Lib.hid (vbox w (.cells #[.int .i64 0, .string ⟨#[]⟩, .int .i64 0, .int .i64 0] 76))
  obtain ⟨z0, z1, z2, z3, zf⟩ := zt_new w 76
  by_cases hout : a < 0 ∨ (l.length : Int) < a
  · rw [readTokV_out hout]
    clear hE
    generalize (ByteArray.mk l.toArray) = s at *
    rcases hout with hout | hout
    · go_enter Tryz.func90, Tryz.ntmps90
      (go_upto_region 1 with fail)
      generalize w.alloc (.cells #[.int .i64 0, .string ⟨#[]⟩, .int .i64 0, .int .i64 0] 76) = w1 at *
      go_wp2
      exact bodyPost_ret (v := (badR 1).val) (by simp [results, Tryz.results90, go_sem, z0, z1, z2, z3, badR, tok0]) rfl ⟨rfl, tk_below HBX.out (Nat.le_refl _) _ _ _ _⟩
    · have h0 : ¬ a < 0 := by omega
      go_enter Tryz.func90, Tryz.ntmps90
      (go_upto_region 1 with fail)
      generalize w.alloc (.cells #[.int .i64 0, .string ⟨#[]⟩, .int .i64 0, .int .i64 0] 76) = w1 at *
      go_wp2
      exact bodyPost_ret (v := (badR 1).val) (by simp [results, Tryz.results90, go_sem, z0, z1, z2, z3, badR, tok0]) rfl ⟨rfl, tk_below HBX.out (Nat.le_refl _) _ _ _ _⟩
  obtain ⟨i, rfl⟩ : ∃ i : Nat, a = i := ⟨a.toNat, by omega⟩
  have hi : i ≤ l.length := by omega
  have hi' : ¬ ((i : Int) < 0) := by omega
  have hi2 : (i : Int) ≤ l.length := by omega
  rw [readTokV_in hi]
  have CS := Lib.hid (fun w => skip_impl l i w (by omega) h1)
  have CS' := CS.out
  rw [skT_nat] at CS'
  have cs := CS' (w.alloc (.cells #[.int .i64 0, .string ⟨#[]⟩, .int .i64 0, .int .i64 0] 76))
  unfold readTok
  have hj := skE_le hi
  generalize skE l i = j at *
  clear CS CS' hout h1
  have hj2 : (j : Int) ≤ 1048576 := by omega
  have CB := Lib.hid (fun set => bytein_any l set j (w.alloc (.cells #[.int .i64 0, .string ⟨#[]⟩, .int .i64 0, .int .i64 0] 76)) (by omega))
  have CT := Lib.hid (readtext_impl l j (w.alloc (.cells #[.int .i64 0, .string ⟨#[]⟩, .int .i64 0, .int .i64 0] 76)) hl hj (hE.below (vbox _ _)))
  have CN := Lib.hid (readnumt_impl l j (w.alloc (.cells #[.int .i64 0, .string ⟨#[]⟩, .int .i64 0, .int .i64 0] 76)) hl hj)
  have CW := Lib.hid (readword_impl l j (w.alloc (.cells #[.int .i64 0, .string ⟨#[]⟩, .int .i64 0, .int .i64 0] 76)) hl hj)
  have HZ := Lib.hid (fun (w1 : World) hb => (zt_new w 76).blw (w' := w1) hb)
  have HT := Lib.hid (fun (w1 : World) hb => vbox_tr (w := w) (w1 := w1) (o := .cells #[.int .i64 0, .string ⟨#[]⟩, .int .i64 0, .int .i64 0] 76) hb)
  clear hE
  by_cases hend : j = l.length
  · rw [tokAt_none (List.getElem?_eq_none (by omega))]
    have hjl : ((j : Int) == l.length) = true := by simp [hend]
    generalize (ByteArray.mk l.toArray) = s at *
    clear hend hj hi hl
    go_enter Tryz.func90, Tryz.ntmps90
    (go_upto_region 1 with fail)
    generalize w.alloc (.cells #[.int .i64 0, .string ⟨#[]⟩, .int .i64 0, .int .i64 0] 76) = w1 at *
    go_wp2_with fail
    refine cs.mono ?_
    rintro e w' ⟨rfl, rfl⟩
    go_wp2
    exact bodyPost_ret (v := (TokR.mk tok0 j 0).val) (by simp [results, Tryz.results90, go_sem, z0, z1, z2, z3, tok0]) rfl ⟨rfl, tk_below HBX.out (Nat.le_refl _) _ _ _ _⟩
  have hjlt : j < l.length := by omega
  obtain ⟨c, hc⟩ : ∃ c, l[j]? = some c := ⟨_, List.getElem?_eq_getElem hjlt⟩
  rw [tokAt_some hc]
  have hjl : ((j : Int) == l.length) = false := by simp; omega
  have c1 := CB.out [123, 125, 91, 93, 58, 44]
  have c2 := CB.out [34]
  have c3 := CB.out [45, 48, 49, 50, 51, 52, 53, 54, 55, 56, 57]
  rw [inS_at hc] at c1 c2 c3
  rw [show ([123, 125, 91, 93, 58, 44] : List UInt8).contains c = isSg c from rfl] at c1
  rw [one_q] at c2
  rw [num_starts] at c3
  have cu := str_cutO l j (j + 1) j ((j : Int) + 1) rfl (by omega) (by omega) (by omega)
  rw [cut_one hc] at cu
  unfold charR
  have hj1 : (j : Int) + 1 ≤ l.length := by omega
  generalize (ByteArray.mk l.toArray) = s at *
  clear hc hj hi hl hend hjlt CB
  by_cases hsg : isSg c = true
  · rw [if_pos hsg]
    rw [hsg] at c1
    clear c2 c3 hsg
    go_enter Tryz.func90, Tryz.ntmps90
    (go_upto_region 1 with fail)
    generalize w.alloc (.cells #[.int .i64 0, .string ⟨#[]⟩, .int .i64 0, .int .i64 0] 76) = w1 at *
    go_wp2_with fail
    refine cs.mono ?_
    rintro e w' ⟨rfl, rfl⟩
    go_wp2_with fail
    refine c1.mono ?_
    rintro e w' ⟨rfl, rfl⟩
    go_wp2
    exact bodyPost_ret (v := (TokR.mk ⟨1, [c], 0, 0⟩ (j + 1) 0).val) (by simp [results, Tryz.results90, go_sem, z0, z1, z2, z3]) rfl ⟨rfl, tk_below HBX.out (Nat.le_refl _) _ _ _ _⟩
  rw [if_neg hsg]
  rw [show isSg c = false by simpa using hsg] at c1
  clear cu hsg
  by_cases hq : c = 34
  · rw [if_pos hq]
    rw [decide_eq_true hq] at c2
    clear c3 hq
    have ct := CT.out
    obtain ⟨k, n, x, st, nx, cd, hr⟩ := tokR_eta (textR l j)
    rw [hr] at ct ⊢
    clear hr CT CN CW
    go_enter Tryz.func90, Tryz.ntmps90
    (go_upto_region 1 with fail)
    generalize w.alloc (.cells #[.int .i64 0, .string ⟨#[]⟩, .int .i64 0, .int .i64 0] 76) = w1 at *
    go_wp2_with fail
    refine cs.mono ?_
    rintro e w' ⟨rfl, rfl⟩
    go_wp2_with fail
    refine c1.mono ?_
    rintro e w' ⟨rfl, rfl⟩
    go_wp2_with fail
    refine c2.mono ?_
    rintro e w' ⟨rfl, rfl⟩
    go_wp2_with fail
    refine ct.mono ?_
    rintro e w2 ⟨rfl, hb⟩
    obtain ⟨y0, y1, y2, y3, yf⟩ := HZ.out _ hb
    have HB := Lib.hid (HT.out _ hb)
    clear hb cs c1 c2 z0 z1 z2 z3 zf ct
    go_wp2
    exact bodyPost_ret (v := (TokR.mk ⟨k, st, n, x⟩ nx cd).val) (by simp [results, Tryz.results90, go_sem, y0, y1, y2, y3]) rfl ⟨rfl, tk_below HB.out (Nat.le_refl _) _ _ _ _⟩
  rw [if_neg hq]
  rw [decide_eq_false hq] at c2
  clear hq CT
  by_cases hn : (c == 45 || isD c) = true
  · rw [if_pos hn]
    rw [hn] at c3
    clear hn CW
    have ct := CN.out
    obtain ⟨k, n, x, st, nx, cd, hr⟩ := tokR_eta (numR l j)
    rw [hr] at ct ⊢
    clear hr CN
    go_enter Tryz.func90, Tryz.ntmps90
    (go_upto_region 1 with fail)
    generalize w.alloc (.cells #[.int .i64 0, .string ⟨#[]⟩, .int .i64 0, .int .i64 0] 76) = w1 at *
    go_wp2_with fail
    refine cs.mono ?_
    rintro e w' ⟨rfl, rfl⟩
    go_wp2_with fail
    refine c1.mono ?_
    rintro e w' ⟨rfl, rfl⟩
    go_wp2_with fail
    refine c2.mono ?_
    rintro e w' ⟨rfl, rfl⟩
    go_wp2_with fail
    refine c3.mono ?_
    rintro e w' ⟨rfl, rfl⟩
    go_wp2_with fail
    refine ct.mono ?_
    rintro e w2 ⟨rfl, hb⟩
    obtain ⟨y0, y1, y2, y3, yf⟩ := HZ.out _ hb
    have HB := Lib.hid (HT.out _ hb)
    clear hb cs c1 c2 z0 z1 z2 z3 zf ct
    go_wp2
    exact bodyPost_ret (v := (TokR.mk ⟨k, st, n, x⟩ nx cd).val) (by simp [results, Tryz.results90, go_sem, y0, y1, y2, y3]) rfl ⟨rfl, tk_below HB.out (Nat.le_refl _) _ _ _ _⟩
  rw [if_neg hn]
  rw [show (c == 45 || isD c) = false by simpa using hn] at c3
  clear hn CN
  have ct := CW.out
  obtain ⟨k, n, x, st, nx, cd, hr⟩ := tokR_eta (wordR l j)
  rw [hr] at ct ⊢
  clear hr CW
  go_enter Tryz.func90, Tryz.ntmps90
  (go_upto_region 1 with fail)
  generalize w.alloc (.cells #[.int .i64 0, .string ⟨#[]⟩, .int .i64 0, .int .i64 0] 76) = w1 at *
  go_wp2_with fail
  refine cs.mono ?_
  rintro e w' ⟨rfl, rfl⟩
  go_wp2_with fail
  refine c1.mono ?_
  rintro e w' ⟨rfl, rfl⟩
  go_wp2_with fail
  refine c2.mono ?_
  rintro e w' ⟨rfl, rfl⟩
  go_wp2_with fail
  refine c3.mono ?_
  rintro e w' ⟨rfl, rfl⟩
  go_wp2_with fail
  refine ct.mono ?_
  rintro e w2 ⟨rfl, hb⟩
  obtain ⟨y0, y1, y2, y3, yf⟩ := HZ.out _ hb
  have HB := Lib.hid (HT.out _ hb)
  clear hb cs c1 c2 z0 z1 z2 z3 zf ct
  go_wp2
  exact bodyPost_ret (v := (TokR.mk ⟨k, st, n, x⟩ nx cd).val) (by simp [results, Tryz.results90, go_sem, y0, y1, y2, y3]) rfl ⟨rfl, tk_below HB.out (Nat.le_refl _) _ _ _ _⟩
end Go.Proofs.YtnikcgmbkmbloaaGreatDoor
