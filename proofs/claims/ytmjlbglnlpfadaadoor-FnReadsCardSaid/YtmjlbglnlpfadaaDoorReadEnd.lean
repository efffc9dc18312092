/- The model's ReadNumber, its last statements: the number of the digits, the limits. -/
import Derived.Test.YtmjlbglnlpfadaaDoorReadSpec
import Derived.Deep.Cut
import Derived.Deep.DeepCutAuto
namespace Go.Proofs.YtmjlbglnlpfadaaDoor
open Go.RowKit
theorem byte_beq (c d : UInt8) (n : Int) (hn : n = d.toNat) : ((c.toNat : Int) == n) = (c == d) := by
  subst hn
  rw [Bool.eq_iff_iff, beq_iff_eq, beq_iff_eq]
  constructor
  · intro h; exact UInt8.toNat_inj.1 (by omega)
  · intro h; subst h; rfl
/-- A byte at a place that is there, as the walk reads it. -/
theorem atC_bool {l : List UInt8} {i : Nat} (h : i < l.length) (d : UInt8) (n : Int) (hn : n = d.toNat) : (((l[i]).toNat : Int) == n) = atC l i d := by
  rw [byte_beq _ d n hn, atC_get h]
def ExpOk (l : List UInt8) (i : Nat) (neg eneg : Bool) (W F E : List UInt8) (d : Nat) (x : Int) (fits : Bool) : Prop := parts l i = ⟨neg, eneg, W, F, E, d, true⟩ ∧ fits = decide (E.length ≤ 3) ∧ (fits = true → x = sgnV eneg (decVal 0 E))
theorem wEnd_digs {l : List UInt8} {a : Nat} : ∀ c ∈ cut l a (wEnd l a), isD c = true := by
  unfold wEnd
  by_cases hz : atC l a 48 = true
  · rw [if_pos hz, cut_zero hz]; intro c hc; rw [List.mem_singleton] at hc; rw [hc]; decide
  · rw [if_neg hz]; exact cut_digs
theorem num_no {l : List UInt8} {i j : Nat} {m : Num} (hm : m = readN l i) (h : parts l i = noParts j) : m = ⟨0, 0, j, 1⟩ := by rw [hm]; unfold readN; rw [h]; rfl
theorem num_ok {l : List UInt8} {i : Nat} {m : Num} {p : Parts} (hm : m = readN l i) (h : parts l i = p) : m = numOf p := by rw [hm]; unfold readN; rw [h]
theorem bool_v {a b : Bool} (h : a = b) : Value.bool a = .bool b := by rw [h]
theorem int_v {k : IntKind} {a b : Int} (h : a = b) : Value.int k a = .int k b := by rw [h]
theorem num_v {m : Num} {n x : Int} {j c : Nat} (h : m = ⟨n, x, j, c⟩) : Ending.returned (.tuple #[.int .i64 n, .int .i64 x, .int .i64 j, .int .i64 c]) = .returned (numT m) := by rw [h]; rfl
/-- The body's statements from number k on. -/
def tailC : Nat → Code → Code
  | 0, c => c
  | n + 1, .seq _ b => tailC n b
  | _, c => c
def tailOf (k : Nat) (fn : Func) : Code := tailC k (fn.body.getD .skip)
theorem tail_9 {fn : Func} {a0 a1 a2 a3 a4 a5 a6 a7 a8 t : Code} (h : fn.body = some (.seq a0 (.seq a1 (.seq a2 (.seq a3 (.seq a4 (.seq a5 (.seq a6 (.seq a7 (.seq a8 t)))))))))) : tailOf 9 fn = t := by unfold tailOf; rw [h]; rfl
theorem tail_13 {fn : Func} {a0 a1 a2 a3 a4 a5 a6 a7 a8 a9 a10 a11 a12 t : Code} (h : fn.body = some (.seq a0 (.seq a1 (.seq a2 (.seq a3 (.seq a4 (.seq a5 (.seq a6 (.seq a7 (.seq a8 (.seq a9 (.seq a10 (.seq a11 (.seq a12 t)))))))))))))) : tailOf 13 fn = t := by unfold tailOf; rw [h]; rfl
theorem tail_14 {fn : Func} {a0 a1 a2 a3 a4 a5 a6 a7 a8 a9 a10 a11 a12 a13 t : Code} (h : fn.body = some (.seq a0 (.seq a1 (.seq a2 (.seq a3 (.seq a4 (.seq a5 (.seq a6 (.seq a7 (.seq a8 (.seq a9 (.seq a10 (.seq a11 (.seq a12 (.seq a13 t))))))))))))))) : tailOf 14 fn = t := by unfold tailOf; rw [h]; rfl
/-- The frame of ReadNumber's walk. -/
def rdF (f : Nat → Value) : Act := ⟨#[f 0, f 1, f 2, f 3, f 4, f 5, f 6, f 7, f 8, f 9, f 10, f 11, f 12, f 13, f 14, f 15, f 16, f 17, f 18, f 19, f 20, f 21, f 22, f 23, f 24, f 25, f 26, f 27, f 28, f 29, f 30, f 31, f 32, f 33, f 34, f 35, f 36, f 37, f 38, f 39, f 40, f 41, f 42, f 43, f 44, f 45, f 46, f 47, f 48, f 49, f 50, f 51, f 52, f 53, f 54, f 55, f 56, f 57, f 58, f 59, f 60, f 61, f 62, f 63, f 64, f 65, f 66, f 67, f 68, f 69, f 70, f 71, f 72, f 73, f 74, f 75, f 76, f 77, f 78, f 79, f 80, f 81, f 82, f 83, f 84, f 85, f 86, f 87, f 88, f 89, f 90, f 91, f 92, f 93, f 94, f 95, f 96, f 97, f 98, f 99, f 100, f 101, f 102, f 103, f 104, f 105, f 106, f 107, f 108, f 109, f 110, f 111, f 112, f 113, f 114, f 115, f 116, f 117, f 118, f 119, f 120, f 121, f 122, f 123, f 124, f 125, f 126, f 127, f 128, f 129, f 130, f 131, f 132, f 133, f 134, f 135, f 136, f 137, f 138, f 139, f 140, f 141, f 142, f 143, f 144, f 145, f 146, f 147, f 148, f 149, f 150, f 151, f 152, f 153, f 154, f 155, f 156, f 157, f 158, f 159, f 160, f 161, f 162, f 163, f 164, f 165, f 166, f 167, f 168, f 169, f 170, f 171, f 172, f 173, f 174, f 175, f 176, f 177, f 178], []⟩
def slot (a : Act) (k : Nat) : Value := a.tmps.getD k undef
set_option maxRecDepth 100000 in
set_option maxHeartbeats 8000000 in
theorem read_end (l : List UInt8) (i : Nat) (m : Num) (w : World) (d : Nat) (neg eneg : Bool) (W F E T : List UInt8) (x sg : Int) (fits : Bool) (hl : l.length ≤ 1048576) (HM : Hid (m = readN l i)) (hsg : Hid (sg = if neg = true then -1 else 1))
    (hdL : (d : Int) ≤ l.length) (hx0 : -1000000 ≤ x) (hx1 : x ≤ 1000000) (hTL : (T.length : Int) ≤ 2097152) (hFL : (F.length : Int) ≤ l.length) (hT : Hid (T = W ++ F ∧ ∀ c ∈ T, isD c = true)) (hp : Hid (ExpOk l i neg eneg W F E d x fits))
    (a : Act) (ha : a = rdF (slot a)) (h0 : slot a 0 = .string ⟨l.toArray⟩) (h1 : slot a 1 = .int .i64 d) (h8 : slot a 8 = .int .i64 sg) (h10 : slot a 10 = .string ⟨T.toArray⟩) (h11 : slot a 11 = .int .i64 F.length) (h13 : slot a 13 = .int .i64 x) (h14 : slot a 14 = .bool fits) :
    (tailOf 14 Tryd.f18).wp Tryd.prog (bodyPost Tryd.prog Tryd.f18 (fun e w' => e = .returned (numT m) ∧ w = w')) a w := by
  have cv := fun W1 => l4value_any T 17 W1 hT.out.2 (by omega) (by omega)
  rw [tail_14 (fn := Tryd.f18) rfl]
  generalize slot a = f at *
  subst ha
  unfold rdF
  dsimp only
  rw [h0, h1, h8, h10, h11, h13, h14]
  clear h0 h1 h8 h10 h11 h13 h14
  obtain ⟨e1, e2, e3⟩ := hp.out
  obtain ⟨t1, t2⟩ := hT.out
  by_cases h17 : (lead T).length ≤ 17
  · rw [l4V_yes h17] at cv
    have hv := lead_val t2 h17
    cases fits
    · have hfin : Hid (m = ⟨0, 0, d, 2⟩) := Lib.hid (by
        rw [num_ok HM.out e1]; unfold numOf
        rw [if_pos rfl, if_neg (by intro h; exact absurd (decide_eq_true h.2) (by rw [← e2]; decide))])
      have hv2 : (decVal 0 T : Int) ≤ 100000000000000000 := by omega
      clear hp hT e1 e2 e3 t1 t2 h17 hv HM hsg hl
      generalize decVal 0 T = tv at *
      go_wp2_with (go_at_call 39; refine (cv _).mono ?_; rintro e w' ⟨rfl, rfl⟩)
      refine bodyPost_ret (results_tmp4 rfl _ _ _) rfl ?_
      exact ⟨num_v hfin.out, rfl⟩
    · have hfin : Hid (m = ⟨sgnV neg (decVal 0 T), x - F.length, d, 0⟩) := Lib.hid (by
        rw [num_ok HM.out e1]; unfold numOf
        rw [if_pos rfl, if_pos ⟨by rw [← t1]; exact h17, of_decide_eq_true e2.symm⟩, ← t1, e3 rfl])
      have hv2 : (decVal 0 T : Int) ≤ 100000000000000000 := by omega
      have hFI : (F.length : Int) ≤ 1048576 := by omega
      clear hp hT e1 e2 e3 t1 t2 h17 hv HM hFL
      generalize decVal 0 T = tv at *
      cases neg
      · have hs1 : sg = 1 := by rw [hsg.out, if_neg (by decide)]
        subst hs1
        clear hsg hl
        go_wp2_with (go_at_call 39; refine (cv _).mono ?_; rintro e w' ⟨rfl, rfl⟩)
        refine bodyPost_ret (results_tmp4 rfl _ _ _) rfl ?_
        exact ⟨num_v (by rw [hfin.out]; congr 1), rfl⟩
      · have hs1 : sg = -1 := by rw [hsg.out, if_pos rfl]
        subst hs1
        clear hsg hl
        go_wp2_with (go_at_call 39; refine (cv _).mono ?_; rintro e w' ⟨rfl, rfl⟩)
        refine bodyPost_ret (results_tmp4 rfl _ _ _) rfl ?_
        exact ⟨num_v (by rw [hfin.out]; congr 1), rfl⟩
  · rw [l4V_no h17] at cv
    have hfin : Hid (m = ⟨0, 0, d, 2⟩) := Lib.hid (by
      rw [num_ok HM.out e1]; unfold numOf
      rw [if_pos rfl, if_neg (by intro h; exact h17 (by rw [t1]; exact h.1))])
    clear hp hT e1 e2 e3 t1 t2 h17 HM hsg hl
    go_wp2_with (go_at_call 39; refine (cv _).mono ?_; rintro e w' ⟨rfl, rfl⟩)
    refine bodyPost_ret (results_tmp4 rfl _ _ _) rfl ?_
    exact ⟨num_v hfin.out, rfl⟩
end Go.Proofs.YtmjlbglnlpfadaaDoor
