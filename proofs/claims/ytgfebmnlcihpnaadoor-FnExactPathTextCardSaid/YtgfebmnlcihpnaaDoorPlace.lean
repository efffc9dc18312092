/- The place that a step leads to: l8Place of the model, elementAt of the program. -/
import Derived.Test.YtgfebmnlcihpnaaDoorPathMath
import Derived.Test.YtgfebmnlcihpnaaDoorStepLaw
import Derived.Laws.Cover1
namespace Go.Proofs.YtgfebmnlcihpnaaDoor
open Go.RowKit
set_option maxRecDepth 100000
theorem plI_yes {k : Int} {len : Nat} {s : St} {j : Int} (hj : 0 ≤ j) (h : plc k len s = some j.toNat) : plI k len s = j := by unfold plI; rw [h]; show ((j.toNat : Nat) : Int) = j; omega
theorem plI_no {k : Int} {len : Nat} {s : St} (h : plc k len s = none) : plI k len s = -1 := by unfold plI; rw [h]
set_option maxHeartbeats 2000000 in
theorem place_spec (T : AT) (s : St) (w : World) (hl : T.l.length ≤ 1048576) : Calls Tryd.prog 38 #[T.val, s.val] w fun e w' => e = .returned (.int .i64 (plI T.k T.l.length s)) ∧ Below w.heap.size w w' := by
  obtain ⟨k, n, x, S, a, cap, l⟩ := T
  obtain ⟨i, b⟩ := s
  obtain ⟨len, hlen⟩ : ∃ len, len = l.length := ⟨_, rfl⟩
  show Calls Tryd.prog 38 #[.agg #[.int .i64 k, .int .i64 n, .int .i64 x, .string ⟨S.toArray⟩, .slice a l.length cap], .agg #[.int .i64 i, .bool b]] w fun e w' => e = .returned (.int .i64 (plI k l.length (i, b))) ∧ Below w.heap.size w w'
  replace hl : l.length ≤ 1048576 := hl
  rw [← hlen] at hl ⊢
  clear hlen
  have hw1 : IntKind.i64.wrap ((len : Int) - 1) = (len : Int) - 1 := IntWalk.i64_in _ (by omega)
  have hb2 : Below w.heap.size w ((w.alloc (.cells #[.int .i64 k, .int .i64 n, .int .i64 x, .string ⟨S.toArray⟩, .slice a len cap] 26)).alloc (.cells #[.int .i64 i, .bool b] 34)) := boxes2 _ _ _
  have HB2 := Lib.hid hb2
  clear hb2
  by_cases hk : k = 10
  · have hkb : (k == 10) = true := by simpa using hk
    by_cases h0 : i < 0
    · have hp : plI k len (i, b) = -1 := plI_no (by rw [plc_map hk, if_neg (by simp only; omega)])
      rw [hp]
      clear hp hk
      go_enter Tryd.func38, Tryd.ntmps38
      go_wp2
      go_ret
      exact ⟨rfl, HB2.out⟩
    · by_cases h1 : (len : Int) < i
      · have hp : plI k len (i, b) = -1 := plI_no (by have := mapOff_bd (i, b); rw [plc_map hk, if_neg (by simp only at this ⊢; omega)])
        rw [hp]
        clear hp hk
        go_enter Tryd.func38, Tryd.ntmps38
        go_wp2
        go_ret
        exact ⟨rfl, HB2.out⟩
      · have hw2 : IntKind.i64.wrap (2 * i) = 2 * i := IntWalk.i64_in _ (by omega)
        have hw3 : IntKind.i64.wrap (2 * i + 1) = 2 * i + 1 := IntWalk.i64_in _ (by omega)
        cases b
        · by_cases h2 : 2 * i + 1 < (len : Int)
          · have hp : plI k len (i, false) = 2 * i + 1 := plI_yes (by omega) (by rw [plc_map hk, if_pos (by simp only [mapOff]; simp; omega)]; simp [mapOff])
            rw [hp]
            have hin := fun W => in_yes (2 * i + 1) 0 ((len : Int) - 1) W (by omega) (by omega)
            clear hp hk
            go_enter Tryd.func38, Tryd.ntmps38
            go_wp2_with (first | (go_at_call 59; refine (hin _).mono ?_; rintro e w' ⟨rfl, rfl⟩) | fail)
            go_ret
            exact ⟨rfl, HB2.out⟩
          · have hp : plI k len (i, false) = -1 := plI_no (by rw [plc_map hk, if_neg (by simp only [mapOff]; simp; omega)])
            rw [hp]
            have hin := fun W => in_no (2 * i + 1) 0 ((len : Int) - 1) W (by omega)
            clear hp hk
            go_enter Tryd.func38, Tryd.ntmps38
            go_wp2_with (first | (go_at_call 59; refine (hin _).mono ?_; rintro e w' ⟨rfl, rfl⟩) | fail)
            go_ret
            exact ⟨rfl, HB2.out⟩
        · by_cases h2 : 2 * i < (len : Int)
          · have hp : plI k len (i, true) = 2 * i := plI_yes (by omega) (by rw [plc_map hk, if_pos (by simp only [mapOff]; simp; omega)]; simp [mapOff])
            rw [hp]
            have hin := fun W => in_yes (2 * i) 0 ((len : Int) - 1) W (by omega) (by omega)
            clear hp hk
            go_enter Tryd.func38, Tryd.ntmps38
            go_wp2_with (first | (go_at_call 59; refine (hin _).mono ?_; rintro e w' ⟨rfl, rfl⟩) | fail)
            go_ret
            exact ⟨rfl, HB2.out⟩
          · have hp : plI k len (i, true) = -1 := plI_no (by rw [plc_map hk, if_neg (by simp only [mapOff]; simp; omega)])
            rw [hp]
            have hin := fun W => in_no (2 * i) 0 ((len : Int) - 1) W (by omega)
            clear hp hk
            go_enter Tryd.func38, Tryd.ntmps38
            go_wp2_with (first | (go_at_call 59; refine (hin _).mono ?_; rintro e w' ⟨rfl, rfl⟩) | fail)
            go_ret
            exact ⟨rfl, HB2.out⟩
  · have hkb : (k == 10) = false := by simpa using hk
    cases b
    · by_cases h2 : 0 ≤ i ∧ i < (len : Int)
      · have hp : plI k len (i, false) = i := plI_yes h2.1 (by rw [plc_else hk, if_pos ⟨rfl, h2⟩])
        rw [hp]
        have hin := fun W => in_yes i 0 ((len : Int) - 1) W h2.1 (by omega)
        clear hp hk
        go_enter Tryd.func38, Tryd.ntmps38
        go_wp2_with (first | (go_at_call 59; refine (hin _).mono ?_; rintro e w' ⟨rfl, rfl⟩) | fail)
        go_ret
        exact ⟨rfl, HB2.out⟩
      · have hp : plI k len (i, false) = -1 := plI_no (by rw [plc_else hk, if_neg (fun h => h2 h.2)])
        rw [hp]
        have hin := fun W => in_no i 0 ((len : Int) - 1) W (by omega)
        clear hp hk
        go_enter Tryd.func38, Tryd.ntmps38
        go_wp2_with (first | (go_at_call 59; refine (hin _).mono ?_; rintro e w' ⟨rfl, rfl⟩) | fail)
        go_ret
        exact ⟨rfl, HB2.out⟩
    · have hp : plI k len (i, true) = -1 := plI_no (by rw [plc_else hk, if_neg (fun h => by cases h.1)])
      rw [hp]
      clear hp hk
      go_enter Tryd.func38, Tryd.ntmps38
      go_wp2
      go_ret
      exact ⟨rfl, HB2.out⟩
def plV (k : Int) (len : Nat) (s : St) : Value := match plc k len s with | some j => .tuple #[.int .i64 (j : Int), .bool true] | none => .tuple #[.int .i64 0, .bool false]
theorem plV_yes {k : Int} {len : Nat} {s : St} {j : Int} (hj : 0 ≤ j) (h : plc k len s = some j.toNat) : plV k len s = .tuple #[.int .i64 j, .bool true] := by unfold plV; rw [h]; show Value.tuple #[.int .i64 ((j.toNat : Nat) : Int), .bool true] = _; rw [show ((j.toNat : Nat) : Int) = j by omega]
theorem plV_no {k : Int} {len : Nat} {s : St} (h : plc k len s = none) : plV k len s = .tuple #[.int .i64 0, .bool false] := by unfold plV; rw [h]
set_option maxHeartbeats 2000000 in
theorem element_impl (T : AT) (s : St) (w : World) (hl : T.l.length ≤ 1048576) : Calls Tryd.prog 34 #[T.val, s.val] w fun e w' => e = .returned (plV T.k T.l.length s) ∧ Below w.heap.size w w' := by
  obtain ⟨k, n, x, S, a, cap, l⟩ := T
  obtain ⟨i, b⟩ := s
  obtain ⟨len, hlen⟩ : ∃ len, len = l.length := ⟨_, rfl⟩
  show Calls Tryd.prog 34 #[.agg #[.int .i64 k, .int .i64 n, .int .i64 x, .string ⟨S.toArray⟩, .slice a l.length cap], .agg #[.int .i64 i, .bool b]] w fun e w' => e = .returned (plV k l.length (i, b)) ∧ Below w.heap.size w w'
  replace hl : l.length ≤ 1048576 := hl
  rw [← hlen] at hl ⊢
  clear hlen
  have hb2 : Below w.heap.size w ((w.alloc (.cells #[.int .i64 k, .int .i64 n, .int .i64 x, .string ⟨S.toArray⟩, .slice a len cap] 26)).alloc (.cells #[.int .i64 i, .bool b] 34)) := boxes2 _ _ _
  have HB2 := Lib.hid hb2
  clear hb2
  by_cases h0 : i < 0
  · have hp : plV k len (i, b) = .tuple #[.int .i64 0, .bool false] := plV_no (by
      by_cases hk : k = 10
      · rw [plc_map hk, if_neg (by simp only; omega)]
      · rw [plc_else hk, if_neg (by simp only; omega)])
    rw [hp]
    clear hp
    go_enter Tryd.func34, Tryd.ntmps34
    go_wp2
    go_ret2
    exact ⟨rfl, HB2.out⟩
  · by_cases h1 : (len : Int) ≤ i
    · have hp : plV k len (i, b) = .tuple #[.int .i64 0, .bool false] := plV_no (by
        by_cases hk : k = 10
        · have := mapOff_bd (i, b)
          rw [plc_map hk, if_neg (by simp only at this ⊢; omega)]
        · rw [plc_else hk, if_neg (by simp only; omega)])
      rw [hp]
      clear hp
      go_enter Tryd.func34, Tryd.ntmps34
      go_wp2
      go_ret2
      exact ⟨rfl, HB2.out⟩
    · have hw2 : IntKind.i64.wrap (i * 2) = i * 2 := IntWalk.i64_in _ (by omega)
      have hw3 : IntKind.i64.wrap (i * 2 + 1) = i * 2 + 1 := IntWalk.i64_in _ (by omega)
      by_cases hk : k = 10
      · have hkb : (k == 10) = true := by simpa using hk
        have hkn : (k != 10) = false := by simpa using hk
        cases b
        · by_cases h2 : i * 2 + 1 < (len : Int)
          · have hp : plV k len (i, false) = .tuple #[.int .i64 (i * 2 + 1), .bool true] := plV_yes (by omega) (by rw [plc_map hk, if_pos (by simp only [mapOff]; simp; omega)]; simp [mapOff]; omega)
            rw [hp]
            have h3 : ¬ (len : Int) ≤ i * 2 + 1 := by omega
            clear hp hk
            go_enter Tryd.func34, Tryd.ntmps34
            go_wp2
            go_ret2
            exact ⟨rfl, HB2.out⟩
          · have hp : plV k len (i, false) = .tuple #[.int .i64 0, .bool false] := plV_no (by rw [plc_map hk, if_neg (by simp only [mapOff]; simp; omega)])
            rw [hp]
            have h3 : (len : Int) ≤ i * 2 + 1 := by omega
            clear hp hk
            go_enter Tryd.func34, Tryd.ntmps34
            go_wp2
            go_ret2
            exact ⟨rfl, HB2.out⟩
        · by_cases h2 : i * 2 < (len : Int)
          · have hp : plV k len (i, true) = .tuple #[.int .i64 (i * 2), .bool true] := plV_yes (by omega) (by rw [plc_map hk, if_pos (by simp only [mapOff]; simp; omega)]; simp [mapOff]; omega)
            rw [hp]
            have h3 : ¬ (len : Int) ≤ i * 2 := by omega
            clear hp hk
            go_enter Tryd.func34, Tryd.ntmps34
            go_wp2
            go_ret2
            exact ⟨rfl, HB2.out⟩
          · have hp : plV k len (i, true) = .tuple #[.int .i64 0, .bool false] := plV_no (by rw [plc_map hk, if_neg (by simp only [mapOff]; simp; omega)])
            rw [hp]
            have h3 : (len : Int) ≤ i * 2 := by omega
            clear hp hk
            go_enter Tryd.func34, Tryd.ntmps34
            go_wp2
            go_ret2
            exact ⟨rfl, HB2.out⟩
      · have hkb : (k == 10) = false := by simpa using hk
        have hkn : (k != 10) = true := by simpa using hk
        cases b
        · have hp : plV k len (i, false) = .tuple #[.int .i64 i, .bool true] := plV_yes (by omega) (by rw [plc_else hk, if_pos ⟨rfl, by simp only; omega⟩])
          rw [hp]
          clear hp hk
          go_enter Tryd.func34, Tryd.ntmps34
          go_wp2
          go_ret2
          exact ⟨rfl, HB2.out⟩
        · have hp : plV k len (i, true) = .tuple #[.int .i64 0, .bool false] := plV_no (by rw [plc_else hk, if_neg (fun h => by cases h.1)])
          rw [hp]
          clear hp hk
          go_enter Tryd.func34, Tryd.ntmps34
          go_wp2
          go_ret2
          exact ⟨rfl, HB2.out⟩
end Go.Proofs.YtgfebmnlcihpnaaDoor
