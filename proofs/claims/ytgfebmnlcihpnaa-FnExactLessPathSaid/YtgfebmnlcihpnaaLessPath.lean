/- LessPath of the model and of the program. -/
import Derived.Test.YtgfebmnlcihpnaaStepLaw
import Derived.Test.YtgfebmnlcihpnaaCmpFn
import Derived.Laws.StructEq
import Derived.StillTailTactics
namespace Go.Proofs.Ytgfebmnlcihpnaa
open Go.RowKit
set_option maxRecDepth 100000
def lessP : List St → List St → Bool
  | [], [] => false
  | [], _ :: _ => true
  | _ :: _, [] => false
  | s :: l, t :: m => if s = t then lessP l m else decide (s.1 < t.1) || (s.1 == t.1 && s.2)
def cmpSt (s t : St) : Int := if s.1 ≠ t.1 then cmpI s.1 t.1 else if s.2 = t.2 then 0 else if s.2 = true then -1 else 1
def cmpP : List St → List St → Int
  | [], [] => 0
  | [], _ :: _ => -1
  | _ :: _, [] => 1
  | s :: l, t :: m => if cmpSt s t = 0 then cmpP l m else cmpSt s t
theorem cmpSt_zero {s t : St} : cmpSt s t = 0 ↔ s = t := by
  unfold cmpSt
  constructor
  · intro h
    by_cases h1 : s.1 = t.1
    · rw [if_neg (by simpa using h1)] at h
      by_cases h2 : s.2 = t.2
      · exact Prod.ext h1 h2
      · rw [if_neg h2] at h; split at h <;> omega
    · rw [if_pos h1] at h
      exact absurd (cmpI_zero.1 h) h1
  · rintro rfl
    simp
theorem cmpSt_neg {s t : St} (h : s ≠ t) : decide (cmpSt s t < 0) = (decide (s.1 < t.1) || (s.1 == t.1 && s.2)) := by
  unfold cmpSt
  by_cases h1 : s.1 = t.1
  · rw [if_neg (by simpa using h1)]
    have h2 : s.2 ≠ t.2 := fun e => h (Prod.ext h1 e)
    rw [if_neg h2]
    have h3 : ¬ s.1 < t.1 := by omega
    cases hs : s.2 <;> simp [h1]
  · rw [if_pos h1]
    have h4 : (s.1 == t.1) = false := by simpa using h1
    unfold cmpI
    by_cases h5 : s.1 < t.1
    · simp [h5]
    · rw [if_neg h5]
      by_cases h6 : t.1 < s.1
      · simp [h5, h6, h4]
      · omega
theorem cmpP_less : ∀ (l m : List St), decide (cmpP l m < 0) = lessP l m
  | [], [] => rfl
  | [], _ :: _ => rfl
  | _ :: _, [] => rfl
  | s :: l, t :: m => by
    by_cases h : s = t
    · have e1 : cmpP (s :: l) (t :: m) = cmpP l m := if_pos (cmpSt_zero.2 h)
      have e2 : lessP (s :: l) (t :: m) = lessP l m := if_pos h
      rw [e1, e2, cmpP_less l m]
    · have e1 : cmpP (s :: l) (t :: m) = cmpSt s t := if_neg (fun e => h (cmpSt_zero.1 e))
      have e2 : lessP (s :: l) (t :: m) = (decide (s.1 < t.1) || (s.1 == t.1 && s.2)) := if_neg h
      rw [e1, e2, cmpSt_neg h]
theorem step_equal (n N : Int) (b B : Bool) (w : World) : (Op.equalIn 10000 65 (.agg #[.int .i64 n, .bool b]) (.agg #[.int .i64 N, .bool B])).run Try.prog w = .ok (n == N && b == B) w := by
  rw [show (10000 : Nat) = 9998 + 1 + 1 from rfl, run_equalIn_agg w (9998 + 1) 65 _ _ (by kernel_rfl) (by kernel_rfl)]
  simp [Op.eqFields, Program.fieldsOf, Try.underlying65, Try.underlying3, Try.underlying4, go_sem]
  by_cases h : n = N <;> by_cases k : b = B <;> simp [h, k]
theorem step_neq (n N : Int) (b B : Bool) (w : World) : (binOp .neq 65 (.agg #[.int .i64 n, .bool b]) (.agg #[.int .i64 N, .bool B])).run Try.prog w = .ok (.bool (!(n == N && b == B))) w := by
  rw [run_neq_struct, step_equal]; rfl
theorem two_steps (w : World) (s t : St) (y : TypeId) : let W := (w.alloc (.cells #[.int .i64 s.1, .bool s.2] y)).alloc (.cells #[.int .i64 t.1, .bool t.2] y)
    W.cell? ⟨w.heap.size, 0, none⟩ = some (.int .i64 s.1) ∧ W.cell? ⟨w.heap.size, 1, none⟩ = some (.bool s.2) ∧ W.cell? ⟨w.heap.size + 1, 0, none⟩ = some (.int .i64 t.1) ∧ W.cell? ⟨w.heap.size + 1, 1, none⟩ = some (.bool t.2) ∧ Below w.heap.size w W := by
  refine ⟨?_, ?_, ?_, ?_, boxes2 _ _ _⟩ <;> simp [go_sem]
theorem cmpsteps (s t : St) (w : World) : Calls Try.prog 135 #[s.val, t.val] w fun e w' => e = .returned (.int .i64 (cmpSt s t)) ∧ Below w.heap.size w w' := by
  obtain ⟨n, b⟩ := s
  obtain ⟨N, B⟩ := t
  have hc := fun W => compare_int n N W
  show Calls Try.prog 135 #[.agg #[.int .i64 n, .bool b], .agg #[.int .i64 N, .bool B]] w _
  have hb2 : Below w.heap.size w ((w.alloc (.cells #[.int .i64 n, .bool b] 65)).alloc (.cells #[.int .i64 N, .bool B] 65)) := boxes2 _ _ _
  have HB2 := Lib.hid hb2
  clear hb2
  by_cases h1 : n = N
  · subst h1
    have hv : cmpSt (n, b) (n, B) = if b = B then 0 else if b = true then -1 else 1 := by simp [cmpSt]
    have e1 : (n != n) = false := by simp
    by_cases h2 : b = B
    · subst h2
      rw [hv, if_pos rfl]
      have e2 : (b == b) = true := by simp
      clear hv hc
      go_enter Try.func135, Try.ntmps135
      go_wp2
      go_ret
      exact ⟨rfl, HB2.out⟩
    · rw [hv, if_neg h2]
      have e2 : (b == B) = false := by simpa using h2
      clear hv hc
      cases b
      · go_enter Try.func135, Try.ntmps135
        go_wp2
        go_ret
        exact ⟨rfl, HB2.out⟩
      · go_enter Try.func135, Try.ntmps135
        go_wp2
        go_ret
        exact ⟨rfl, HB2.out⟩
  · have hv : cmpSt (n, b) (N, B) = cmpI n N := by unfold cmpSt; rw [if_pos h1]
    rw [hv]
    have e1 : (n != N) = true := by simpa using h1
    clear hv
    generalize cmpI n N = c at *
    go_enter Try.func135, Try.ntmps135
    go_wp2_with (go_at_call 157; refine (hc _).mono ?_; rintro e w' ⟨rfl, rfl⟩)
    go_ret
    exact ⟨rfl, HB2.out⟩
theorem cmpP_drop {l m : List St} {i : Nat} (h1 : i < l.length) (h2 : i < m.length) : cmpP (l.drop i) (m.drop i) = if cmpSt l[i] m[i] = 0 then cmpP (l.drop (i + 1)) (m.drop (i + 1)) else cmpSt l[i] m[i] := by
  rw [List.drop_eq_getElem_cons h1, List.drop_eq_getElem_cons h2]; rfl
theorem lessP_drop {l m : List St} {i : Nat} (h1 : i < l.length) (h2 : i < m.length) : lessP (l.drop i) (m.drop i) = if l[i] = m[i] then lessP (l.drop (i + 1)) (m.drop (i + 1)) else decide ((l[i]).1 < (m[i]).1) || ((l[i]).1 == (m[i]).1 && (l[i]).2) := by
  rw [List.drop_eq_getElem_cons h1, List.drop_eq_getElem_cons h2]; rfl
theorem cmpP_end1 {l m : List St} {i : Nat} (h1 : l.length ≤ i) (h2 : i < m.length) : cmpP (l.drop i) (m.drop i) = -1 := by
  rw [List.drop_eq_nil_of_le h1, List.drop_eq_getElem_cons h2]; rfl
theorem cmpP_end2 {l m : List St} {i : Nat} (h1 : i < l.length) (h2 : m.length ≤ i) : cmpP (l.drop i) (m.drop i) = 1 := by
  rw [List.drop_eq_nil_of_le h2, List.drop_eq_getElem_cons h1]; rfl
theorem cmpP_end3 {l m : List St} {i : Nat} (h1 : l.length ≤ i) (h2 : m.length ≤ i) : cmpP (l.drop i) (m.drop i) = 0 := by
  rw [List.drop_eq_nil_of_le h1, List.drop_eq_nil_of_le h2]; rfl
theorem lessP_end {l m : List St} {i : Nat} (h : l.length ≤ i ∨ m.length ≤ i) (hi : i ≤ l.length) (hj : i ≤ m.length) : lessP (l.drop i) (m.drop i) = decide (l.length < m.length) := by
  by_cases h1 : i < l.length
  · have h2 : m.length ≤ i := by omega
    rw [List.drop_eq_nil_of_le h2, List.drop_eq_getElem_cons h1]
    exact (decide_eq_false (by omega)).symm
  · rw [List.drop_eq_nil_of_le (by omega : l.length ≤ i)]
    by_cases h2 : i < m.length
    · rw [List.drop_eq_getElem_cons h2]; exact (decide_eq_true (by omega)).symm
    · rw [List.drop_eq_nil_of_le (by omega : m.length ≤ i)]; exact (decide_eq_false (by omega)).symm
set_option maxHeartbeats 2000000 in
theorem lesspath_spec (l m : List St) (w : World) (N : Nat) (a b : Option Addr) (cap cap2 : Nat) (h : SAt w N a cap l) (h2 : SAt w N b cap2 m) (hN : N ≤ w.heap.size) (hl : l.length ≤ 1048576) (hm : m.length ≤ 1048576) :
    Calls Try.prog 76 #[.slice a l.length cap, .slice b m.length cap2] w fun e w' => e = .returned (.bool (lessP l m)) ∧ Below w.heap.size w w' := by
  have H := Lib.hid h
  have H2 := Lib.hid h2
  clear h h2
  obtain ⟨r, hr⟩ : ∃ r, r = lessP l m := ⟨_, rfl⟩
  rw [← hr]
  have HR := Lib.hid hr
  clear hr
  go_enter Try.func76, Try.ntmps76
  go_wp2
  go_loopw [5] (fun i wr => ∃ i' : Nat, i = .int .i64 i' ∧ i' ≤ l.length ∧ i' ≤ m.length ∧ Hid (r = lessP (l.drop i') (m.drop i')) ∧ Below w.heap.size w wr) (fun i _ => l.length - (intOf i).toNat)
  case atStart => exact ⟨0, rfl, Nat.zero_le _, Nat.zero_le _, HR, Below.refl _ _⟩
  case round =>
    obtain ⟨i', rfl, hi', hj', HRi, hb⟩ := hrel
    have HB := Lib.hid hb
    by_cases hlt : i' < l.length ∧ i' < m.length
    · obtain ⟨hlt1, hlt2⟩ := hlt
      obtain ⟨g, o, rfl, hgN, c0, c1⟩ := H.out.cell i' hlt1
      obtain ⟨g2, o2, rfl, hgN2, d0, d1⟩ := H2.out.cell i' hlt2
      replace c0 := (hb.cell (p := ⟨g, o + i' * 2, none⟩) (by show g < w.heap.size; omega)).trans c0
      replace c1 := (hb.cell (p := ⟨g, o + i' * 2 + 1, none⟩) (by show g < w.heap.size; omega)).trans c1
      replace d0 := (hb.cell (p := ⟨g2, o2 + i' * 2, none⟩) (by show g2 < w.heap.size; omega)).trans d0
      replace d1 := (hb.cell (p := ⟨g2, o2 + i' * 2 + 1, none⟩) (by show g2 < w.heap.size; omega)).trans d1
      have HD := Lib.hid (HRi.out.trans (lessP_drop hlt1 hlt2))
      obtain ⟨⟨n, q⟩, hs⟩ : ∃ s : St, s = l[i'] := ⟨_, rfl⟩
      obtain ⟨⟨n2, q2⟩, hs2⟩ : ∃ s : St, s = m[i'] := ⟨_, rfl⟩
      rw [← hs] at c0 c1 HD
      rw [← hs2] at d0 d1 HD
      clear hs hs2 hb HRi
      have hg := fun x y xs ys w => run_eqGuard_agg (P := Try.prog) w .neq 65 x y xs ys (by kernel_rfl)
      by_cases he : ((n, q) : St) = (n2, q2)
      · have HD2 : Hid (r = lessP (l.drop (i' + 1)) (m.drop (i' + 1))) := Lib.hid (by rw [HD.out, if_pos he])
        obtain ⟨rfl, rfl⟩ := Prod.mk.inj he
        have hneq : ∀ W, (binOp .neq 65 (.agg #[.int .i64 n, .bool q]) (.agg #[.int .i64 n, .bool q])).run Try.prog W = .ok (.bool false) W := fun W => by rw [step_neq]; simp
        clear he HD
        go_wp2_with fail
        go_quiet (fail)
        go_wp2
        go_roundw
        case rel => exact ⟨i' + 1, by go_num, by omega, by omega, HD2, below_drewN HB.out _⟩
        case measure => simp [intOf]; omega
      · have hr : r = (decide (n < n2) || (n == n2 && q)) := by rw [HD.out, if_neg he]
        have hneq : ∀ W, (binOp .neq 65 (.agg #[.int .i64 n, .bool q]) (.agg #[.int .i64 n2, .bool q2])).run Try.prog W = .ok (.bool true) W := fun W => by
          rw [step_neq, show (n == n2 && q == q2) = false by
            rw [Bool.and_eq_false_iff]; by_cases h1 : n = n2
            · right; simpa using fun h2 => he (Prod.ext h1 h2)
            · left; simpa using h1]; rfl
        clear he HD
        by_cases h1 : n < n2
        · have hrt : r = true := by rw [hr]; simp [h1]
          have HR2 := Lib.hid hrt
          have hd : decide (n < n2) = true := by simpa using h1
          clear hr hrt
          go_wp2_with fail
          go_quiet (fail)
          go_wp2
          go_quiet (fail)
          go_wp2
          go_ret
          exact ⟨by rw [HR2.out]; rfl, below_drewN (below_drewN HB.out _) _⟩
        · have hd : decide (n < n2) = false := by simpa using h1
          by_cases h2 : n = n2
          · have hrt : r = q := by rw [hr]; simp [h2]
            have HR2 := Lib.hid hrt
            have hd2 : (n == n2) = true := by simpa using h2
            clear hr hrt h2
            go_wp2_with fail
            go_quiet (fail)
            go_wp2
            go_quiet (fail)
            go_wp2
            go_ret
            exact ⟨by rw [HR2.out]; rfl, below_drewN (below_drewN HB.out _) _⟩
          · have hrt : r = false := by rw [hr]; simp [h1, h2]
            have HR2 := Lib.hid hrt
            have hd2 : (n == n2) = false := by simpa using h2
            clear hr hrt
            go_wp2_with fail
            go_quiet (fail)
            go_wp2
            go_quiet (fail)
            go_wp2
            go_ret
            exact ⟨by rw [HR2.out]; rfl, below_drewN (below_drewN HB.out _) _⟩
    · have HE := Lib.hid (HRi.out.trans (lessP_end (by omega) hi' hj'))
      go_wp2
      all_goals
        go_ret
        exact ⟨by rw [HE.out]; rfl, HB.out⟩
set_option maxHeartbeats 2000000 in
theorem cmppath_impl (l m : List St) (w : World) (N : Nat) (a b : Option Addr) (cap cap2 : Nat) (h : SAt w N a cap l) (h2 : SAt w N b cap2 m) (hN : N ≤ w.heap.size) (hl : l.length ≤ 1048576) (hm : m.length ≤ 1048576) :
    Calls Try.prog 134 #[.slice a l.length cap, .slice b m.length cap2, .func (.func 135) #[] #[]] w fun e w' => e = .returned (.int .i64 (cmpP l m)) ∧ Below w.heap.size w w' := by
  have H := Lib.hid h
  have H2 := Lib.hid h2
  clear h h2
  obtain ⟨r, hr⟩ : ∃ r, r = cmpP l m := ⟨_, rfl⟩
  rw [← hr]
  have HR := Lib.hid hr
  clear hr
  go_enter Try.func134, Try.ntmps134
  go_wp2
  go_loopw [13] (fun i wr => ∃ i' : Nat, i = .int .i64 i' ∧ i' ≤ l.length ∧ i' ≤ m.length ∧ Hid (r = cmpP (l.drop i') (m.drop i')) ∧ Below w.heap.size w wr) (fun i _ => l.length - (intOf i).toNat)
  case atStart => exact ⟨0, rfl, Nat.zero_le _, Nat.zero_le _, HR, Below.refl _ _⟩
  case round =>
    obtain ⟨i', rfl, hi', hj', HRi, hb⟩ := hrel
    have HB := Lib.hid hb
    by_cases hlt1 : i' < l.length
    · obtain ⟨g, o, rfl, hgN, c0, c1⟩ := H.out.cell i' hlt1
      replace c0 := (hb.cell (p := ⟨g, o + i' * 2, none⟩) (by show g < w.heap.size; omega)).trans c0
      replace c1 := (hb.cell (p := ⟨g, o + i' * 2 + 1, none⟩) (by show g < w.heap.size; omega)).trans c1
      by_cases hlt2 : i' < m.length
      · obtain ⟨g2, o2, rfl, hgN2, d0, d1⟩ := H2.out.cell i' hlt2
        replace d0 := (hb.cell (p := ⟨g2, o2 + i' * 2, none⟩) (by show g2 < w.heap.size; omega)).trans d0
        replace d1 := (hb.cell (p := ⟨g2, o2 + i' * 2 + 1, none⟩) (by show g2 < w.heap.size; omega)).trans d1
        have HD := Lib.hid (HRi.out.trans (cmpP_drop hlt1 hlt2))
        obtain ⟨⟨n, q⟩, hs⟩ : ∃ s : St, s = l[i'] := ⟨_, rfl⟩
        obtain ⟨⟨n2, q2⟩, hs2⟩ : ∃ s : St, s = m[i'] := ⟨_, rfl⟩
        rw [← hs] at c0 c1 HD
        rw [← hs2] at d0 d1 HD
        have f0 := fun o => keep_below (vbox wr o) d0
        have f1 := fun o => keep_below (vbox wr o) d1
        have hcs := fun W => cmpsteps (n, q) (n2, q2) W
        obtain ⟨c, hc⟩ : ∃ c, c = cmpSt (n, q) (n2, q2) := ⟨_, rfl⟩
        rw [← hc] at HD hcs
        have HC := Lib.hid hcs
        clear hs hs2 hb HRi hc hcs
        by_cases hc0 : c = 0
        · subst hc0
          have HD2 : Hid (r = cmpP (l.drop (i' + 1)) (m.drop (i' + 1))) := Lib.hid (by rw [HD.out, if_pos rfl])
          go_wp2_with fail
          refine (HC.out _).mono ?_
          rintro e w2 ⟨rfl, hb2⟩
          have HB2 := Lib.hid (HB.out.trans (((boxes2 wr _ _).trans (hb2.mono (by simp; omega))).mono HB.out.size))
          clear hb2
          go_wp2
          go_roundw
          case rel => exact ⟨i' + 1, by go_num, by omega, by omega, HD2, HB2.out⟩
          case measure => simp [intOf]; omega
        · have HD2 : Hid (r = c) := Lib.hid (by rw [HD.out, if_neg hc0])
          have hcb : (c != 0) = true := by simpa using hc0
          go_wp2_with fail
          refine (HC.out _).mono ?_
          rintro e w2 ⟨rfl, hb2⟩
          have HB2 := Lib.hid (HB.out.trans (((boxes2 wr _ _).trans (hb2.mono (by simp; omega))).mono HB.out.size))
          clear hb2
          go_wp2
          go_ret
          exact ⟨by rw [HD2.out]; rfl, HB2.out⟩
      · have HD := Lib.hid (HRi.out.trans (cmpP_end2 hlt1 (by omega)))
        go_wp2
        go_ret
        exact ⟨by rw [HD.out]; rfl, HB.out.alloc HB.out.size _⟩
    · by_cases hlt2 : i' < m.length
      · have HD := Lib.hid (HRi.out.trans (cmpP_end1 (by omega) hlt2))
        have hll : l.length < m.length := by omega
        go_wp2
        go_ret
        exact ⟨by rw [HD.out]; rfl, HB.out⟩
      · have HD := Lib.hid (HRi.out.trans (cmpP_end3 (by omega) (by omega)))
        have hll : ¬ l.length < m.length := by omega
        go_wp2
        go_ret
        exact ⟨by rw [HD.out]; rfl, HB.out⟩
theorem lesspath_impl (l m : List St) (w : World) (N : Nat) (a b : Option Addr) (cap cap2 : Nat) (h : SAt w N a cap l) (h2 : SAt w N b cap2 m) (hN : N ≤ w.heap.size) (hl : l.length ≤ 1048576) (hm : m.length ≤ 1048576) :
    Calls Try.prog 77 #[.slice a l.length cap, .slice b m.length cap2] w fun e w' => e = .returned (.bool (lessP l m)) ∧ Below w.heap.size w w' := by
  have hc := cmppath_impl l m w N a b cap cap2 h h2 hN hl hm
  rw [← cmpP_less]
  clear h h2
  generalize cmpP l m = r at *
  have HC := Lib.hid hc
  clear hc
  go_enter Try.func77, Try.ntmps77
  go_wp2_with fail
  refine HC.out.mono ?_
  rintro e w2 ⟨rfl, hb⟩
  go_wp2
  go_ret
  exact ⟨rfl, hb⟩
end Go.Proofs.Ytgfebmnlcihpnaa
