import Derived.Test.YtnikcgmbkmbloaaGreatDoorG8
import Derived.Test.YtnikcgmbkmbloaaGreatDoorG4
import Derived.Test.YtnikcgmbkmbloaaGreatDoorG10
import Derived.Test.YtnikcgmbkmbloaaGreatDoorG9
import Derived.Test.YtnikcgmbkmbloaaGreatDoorRows
import Derived.Scope
import Derived.WalkKit
import Derived.WalkMore
/- What stands behind a backslash: the model's answers. -/
namespace Go.Proofs.YtnikcgmbkmbloaaGreatDoor
open Go.RowKit
set_option maxRecDepth 100000
theorem str_indexO (l : List UInt8) (i : Nat) (z : Int) (c : UInt8) (k : Int) (hz : z = i) (h : l[i]? = some c) (hk : (c.toNat : Int) = k) (w : World) : (Instr.index 9 (.string ⟨l.toArray⟩) (.int .i64 z)).run Tryz.prog w = .ok (.int .u8 k) w := by
  obtain ⟨hi, e⟩ := List.getElem?_eq_some_iff.1 h
  rw [hx_indexZ l i z hz hi w, e, hk]
theorem unB_cases (c : UInt8) : (c = 34 ∧ unB c = some 34) ∨ (c = 92 ∧ unB c = some 92) ∨ (c = 47 ∧ unB c = some 47) ∨ (c = 98 ∧ unB c = some 8) ∨ (c = 116 ∧ unB c = some 9) ∨ (c = 110 ∧ unB c = some 10) ∨ (c = 102 ∧ unB c = some 12) ∨ (c = 114 ∧ unB c = some 13) ∨ (c = 117 ∧ unB c = none)
    ∨ (((c.toNat : Int) == 34) = false ∧ ((c.toNat : Int) == 92) = false ∧ ((c.toNat : Int) == 47) = false ∧ ((c.toNat : Int) == 98) = false ∧ ((c.toNat : Int) == 116) = false ∧ ((c.toNat : Int) == 110) = false ∧ ((c.toNat : Int) == 102) = false ∧ ((c.toNat : Int) == 114) = false ∧ ((c.toNat : Int) == 117) = false ∧ unB c = none ∧ c ≠ 117) := by
  by_cases h1 : c = 34
  · subst h1; exact .inl ⟨rfl, rfl⟩
  by_cases h2 : c = 92
  · subst h2; exact .inr (.inl ⟨rfl, rfl⟩)
  by_cases h3 : c = 47
  · subst h3; exact .inr (.inr (.inl ⟨rfl, rfl⟩))
  by_cases h4 : c = 98
  · subst h4; exact .inr (.inr (.inr (.inl ⟨rfl, rfl⟩)))
  by_cases h5 : c = 116
  · subst h5; exact .inr (.inr (.inr (.inr (.inl ⟨rfl, rfl⟩))))
  by_cases h6 : c = 110
  · subst h6; exact .inr (.inr (.inr (.inr (.inr (.inl ⟨rfl, rfl⟩)))))
  by_cases h7 : c = 102
  · subst h7; exact .inr (.inr (.inr (.inr (.inr (.inr (.inl ⟨rfl, rfl⟩))))))
  by_cases h8 : c = 114
  · subst h8; exact .inr (.inr (.inr (.inr (.inr (.inr (.inr (.inl ⟨rfl, rfl⟩)))))))
  by_cases h9 : c = 117
  · subst h9; exact .inr (.inr (.inr (.inr (.inr (.inr (.inr (.inr (.inl ⟨rfl, rfl⟩))))))))
  have key : ∀ d : UInt8, c ≠ d → ((c.toNat : Int) == (d.toNat : Int)) = false := by
    intro d hd
    have : c.toNat ≠ d.toNat := fun e => hd (UInt8.toNat_inj.1 e)
    simp; omega
  refine .inr (.inr (.inr (.inr (.inr (.inr (.inr (.inr (.inr ⟨key 34 h1, key 92 h2, key 47 h3, key 98 h4, key 116 h5, key 110 h6, key 102 h7, key 114 h8, key 117 h9, ?_, h9⟩))))))))
  unfold unB
  rw [if_neg h1, if_neg h2, if_neg h3, if_neg h4, if_neg h5, if_neg h6, if_neg h7, if_neg h8]
def charW (c : Option (Int × Nat)) : Value := match c with
  | none => .tuple #[.int .i64 0, .int .i64 0, .bool false]
  | some (n, j) => .tuple #[.int .i64 n, .int .i64 j, .bool true]
set_option maxHeartbeats 4000000 in
/-- what comes of the letter u: the numbered escape -/
theorem unum_spec (l : List UInt8) (i : Nat) (w : World) (hl : l.length ≤ 1099511627776) (h7 : l[i]? = some 117) :
    Calls Tryz.prog 183 #[.string ⟨l.toArray⟩, .int .i64 i] w fun e w' => e = .returned (charW (numAt l i)) ∧ w = w' := by
  have hsz := size_l l
  have hil : i < l.length := by
    rcases Nat.lt_or_ge i l.length with h | h
    · exact h
    · rw [List.getElem?_eq_none h] at h7; cases h7
  have hil' : (i : Int) < l.length := by omega
  have hlz : (l.length : Int) ≤ 1099511627776 := by omega
  have ix := str_indexO l i i 117 117 rfl h7 rfl w
  have cf := readfour_spec l ((i : Int) + 1) w hl (by omega) (by omega)
  have hv : fourV l ((i : Int) + 1) = match fourAt l (i + 1) with | none => .tuple #[.int .i64 0, .bool false] | some n => .tuple #[.int .i64 n, .bool true] := by
    have := fourV_in (l := l) (i := i + 1); exact this
  rw [hv] at cf
  have cf7 := readfour_spec l ((i : Int) + 7) w hl (by omega) (by omega)
  have hv7 : fourV l ((i : Int) + 7) = match fourAt l (i + 7) with | none => .tuple #[.int .i64 0, .bool false] | some n => .tuple #[.int .i64 n, .bool true] := by
    have := fourV_in (l := l) (i := i + 7); exact this
  rw [hv7] at cf7
  clear hv hv7
  cases h4 : fourAt l (i + 1) with
  | none =>
    rw [num_four h4]
    rw [h4] at cf
    clear h4 cf7 h7 hil
    generalize (ByteArray.mk l.toArray) = s at *
    go_enter Tryz.func183, Tryz.ntmps183
    go_wp2_with fail
    refine cf.mono ?_
    rintro e w1 ⟨rfl, rfl⟩
    go_wp2
    go_ret3
    exact ⟨rfl, rfl⟩
  | some n =>
    have hr := fourAt_range h4
    have hn0 := hr.1
    have hn1 := hr.2.1
    rw [h4] at cf
    simp only at cf
    by_cases hlow : 56320 ≤ n ∧ n ≤ 57343
    · rw [num_low h4 hlow.1 hlow.2]
      have ci := in_yes n 56320 57343 w hlow.1 hlow.2
      clear h4 cf7 h7 hil hr hlow
      generalize (ByteArray.mk l.toArray) = s at *
      go_enter Tryz.func183, Tryz.ntmps183
      go_wp2_with fail
      refine cf.mono ?_
      rintro e w1 ⟨rfl, rfl⟩
      go_wp2_with fail
      refine ci.mono ?_
      rintro e w1 ⟨rfl, rfl⟩
      go_wp2
      go_ret3
      exact ⟨rfl, rfl⟩
    have ci := in_no n 56320 57343 w (by omega)
    by_cases hsur : 55296 ≤ n ∧ n ≤ 56319
    rotate_left
    · rw [num_one h4 (by omega)]
      have cj := in_no n 55296 56319 w (by omega)
      clear h4 cf7 h7 hr hlow hsur
      generalize (ByteArray.mk l.toArray) = s at *
      go_enter Tryz.func183, Tryz.ntmps183
      go_wp2_with fail
      refine cf.mono ?_
      rintro e w1 ⟨rfl, rfl⟩
      go_wp2_with fail
      refine ci.mono ?_
      rintro e w1 ⟨rfl, rfl⟩
      go_wp2_with fail
      refine cj.mono ?_
      rintro e w1 ⟨rfl, rfl⟩
      go_wp2
      go_ret3
      exact ⟨rfl, rfl⟩
    obtain ⟨hs1, hs2⟩ := hsur
    have cj := in_yes n 55296 56319 w hs1 hs2
    by_cases hend : i + 6 < l.length
    rotate_left
    · rw [num_alone h4 hs1 (by omega) (fun g => by have e6 : l[i + 6]? = none := List.getElem?_eq_none (by omega); rw [e6] at g; cases g.2)]
      have hend' : (l.length : Int) ≤ (i : Int) + 6 := by omega
      clear h4 cf7 h7 hr hlow hend
      generalize (ByteArray.mk l.toArray) = s at *
      go_enter Tryz.func183, Tryz.ntmps183
      go_wp2_with fail
      refine cf.mono ?_
      rintro e w1 ⟨rfl, rfl⟩
      go_wp2_with fail
      refine ci.mono ?_
      rintro e w1 ⟨rfl, rfl⟩
      go_wp2_with fail
      refine cj.mono ?_
      rintro e w1 ⟨rfl, rfl⟩
      go_wp2
      go_ret3
      exact ⟨rfl, rfl⟩
    have hend' : (i : Int) + 6 < l.length := by omega
    have g5 : l[i + 5]? = some (l[i + 5]) := List.getElem?_eq_getElem (by omega)
    have g6 : l[i + 6]? = some (l[i + 6]) := List.getElem?_eq_getElem hend
    have ix5 := str_indexO l (i + 5) ((i : Int) + 5) _ _ (by omega) g5 rfl w
    have ix6 := str_indexO l (i + 6) ((i : Int) + 6) _ _ (by omega) g6 rfl w
    have hb5 : (l[i + 5]).toNat < 256 := UInt8.toNat_lt _
    have hb6 : (l[i + 6]).toNat < 256 := UInt8.toNat_lt _
    generalize l[i + 5] = c5 at *
    generalize l[i + 6] = c6 at *
    by_cases h5 : c5 = 92
    rotate_left
    · rw [num_alone h4 hs1 (by omega) (fun g => by rw [g5] at g; exact h5 (Option.some.inj g.1))]
      have h5' : ((c5.toNat : Int) != 92) = true := by
        have : c5.toNat ≠ (92 : UInt8).toNat := fun e => h5 (UInt8.toNat_inj.1 e)
        have h92 : (92 : UInt8).toNat = 92 := rfl
        simp; omega
      generalize c5.toNat = x5 at *
      clear h4 cf7 h7 hr hlow hend h5 g5 g6 ix6 hb6
      generalize (ByteArray.mk l.toArray) = s at *
      go_enter Tryz.func183, Tryz.ntmps183
      go_wp2_with fail
      refine cf.mono ?_
      rintro e w1 ⟨rfl, rfl⟩
      go_wp2_with fail
      refine ci.mono ?_
      rintro e w1 ⟨rfl, rfl⟩
      go_wp2_with fail
      refine cj.mono ?_
      rintro e w1 ⟨rfl, rfl⟩
      go_wp2
      go_ret3
      exact ⟨rfl, rfl⟩
    subst h5
    have ix5' : (Instr.index 9 (.string ⟨l.toArray⟩) (.int .i64 ((i : Int) + 5))).run Tryz.prog w = .ok (.int .u8 92) w := ix5
    clear ix5 hb5
    by_cases h6 : c6 = 117
    rotate_left
    · rw [num_alone h4 hs1 (by omega) (fun g => by rw [g6] at g; exact h6 (Option.some.inj g.2))]
      have h6' : ((c6.toNat : Int) != 117) = true := by
        have : c6.toNat ≠ (117 : UInt8).toNat := fun e => h6 (UInt8.toNat_inj.1 e)
        have h92 : (117 : UInt8).toNat = 117 := rfl
        simp; omega
      generalize c6.toNat = x6 at *
      clear h4 cf7 h7 hr hlow hend h6 g5 g6
      generalize (ByteArray.mk l.toArray) = s at *
      go_enter Tryz.func183, Tryz.ntmps183
      go_wp2_with fail
      refine cf.mono ?_
      rintro e w1 ⟨rfl, rfl⟩
      go_wp2_with fail
      refine ci.mono ?_
      rintro e w1 ⟨rfl, rfl⟩
      go_wp2_with fail
      refine cj.mono ?_
      rintro e w1 ⟨rfl, rfl⟩
      go_wp2
      go_ret3
      exact ⟨rfl, rfl⟩
    subst h6
    have ix6' : (Instr.index 9 (.string ⟨l.toArray⟩) (.int .i64 ((i : Int) + 6))).run Tryz.prog w = .ok (.int .u8 117) w := ix6
    clear ix6 hb6
    cases h8 : fourAt l (i + 7) with
    | none =>
      rw [num_pair_none h4 hs1 (by omega) g5 g6 h8]
      rw [h8] at cf7
      simp only at cf7
      clear h4 h7 hr hlow hend g5 g6 h8
      generalize (ByteArray.mk l.toArray) = s at *
      go_enter Tryz.func183, Tryz.ntmps183
      go_wp2_with fail
      refine cf.mono ?_
      rintro e w1 ⟨rfl, rfl⟩
      go_wp2_with fail
      refine ci.mono ?_
      rintro e w1 ⟨rfl, rfl⟩
      go_wp2_with fail
      refine cj.mono ?_
      rintro e w1 ⟨rfl, rfl⟩
      go_wp2_with fail
      refine cf7.mono ?_
      rintro e w1 ⟨rfl, rfl⟩
      go_wp2
      go_ret3
      exact ⟨rfl, rfl⟩
    | some m =>
      rw [h8] at cf7
      simp only at cf7
      have hr7 := fourAt_range h8
      have hm0 := hr7.1
      have hm1 := hr7.2.1
      by_cases hm : 56320 ≤ m ∧ m ≤ 57343
      · rw [num_pair_good h4 hs1 (by omega) g5 g6 h8 hm]
        have ck := in_yes m 56320 57343 w hm.1 hm.2
        obtain ⟨hm2, hm3⟩ := hm
        clear h4 h7 hr hlow hend g5 g6 h8 hr7
        generalize (ByteArray.mk l.toArray) = s at *
        go_enter Tryz.func183, Tryz.ntmps183
        go_wp2_with fail
        refine cf.mono ?_
        rintro e w1 ⟨rfl, rfl⟩
        go_wp2_with fail
        refine ci.mono ?_
        rintro e w1 ⟨rfl, rfl⟩
        go_wp2_with fail
        refine cj.mono ?_
        rintro e w1 ⟨rfl, rfl⟩
        go_wp2_with fail
        refine cf7.mono ?_
        rintro e w1 ⟨rfl, rfl⟩
        go_wp2_with fail
        refine ck.mono ?_
        rintro e w1 ⟨rfl, rfl⟩
        go_wp2
        go_ret3
        refine ⟨?_, rfl⟩
        show Ending.returned (.tuple #[.int .i64 (65536 + 1024 * (n - 55296) + m - 56320), _, _]) = .returned (.tuple #[.int .i64 (65536 + 1024 * (n - 55296) + (m - 56320)), _, _])
        rw [show 65536 + 1024 * (n - 55296) + m - 56320 = 65536 + 1024 * (n - 55296) + (m - 56320) by omega]
        rfl
      · rw [num_pair_bad h4 hs1 (by omega) g5 g6 h8 hm]
        have ck := in_no m 56320 57343 w (by omega)
        clear h4 h7 hr hlow hend g5 g6 h8 hr7 hm
        generalize (ByteArray.mk l.toArray) = s at *
        go_enter Tryz.func183, Tryz.ntmps183
        go_wp2_with fail
        refine cf.mono ?_
        rintro e w1 ⟨rfl, rfl⟩
        go_wp2_with fail
        refine ci.mono ?_
        rintro e w1 ⟨rfl, rfl⟩
        go_wp2_with fail
        refine cj.mono ?_
        rintro e w1 ⟨rfl, rfl⟩
        go_wp2_with fail
        refine cf7.mono ?_
        rintro e w1 ⟨rfl, rfl⟩
        go_wp2_with fail
        refine ck.mono ?_
        rintro e w1 ⟨rfl, rfl⟩
        go_wp2
        go_ret3
        exact ⟨rfl, rfl⟩
set_option maxHeartbeats 4000000 in
theorem escape_spec (l : List UInt8) (i : Nat) (w : World) (hl : l.length ≤ 1099511627776) (hi : i ≤ l.length) :
    Calls Tryz.prog 183 #[.string ⟨l.toArray⟩, .int .i64 i] w fun e w' => e = .returned (charW (escAt l i)) ∧ w = w' := by
  have hsz := size_l l
  by_cases hil : i < l.length
  rotate_left
  · rw [esc_end (by omega)]
    have hil' : (l.length : Int) ≤ i := by omega
    generalize (ByteArray.mk l.toArray) = s at *
    clear hil
    go_enter Tryz.func183, Tryz.ntmps183
    go_wp2
    go_ret3
    exact ⟨rfl, rfl⟩
  have hil' : (i : Int) < l.length := by omega
  have hlz : (l.length : Int) ≤ 1099511627776 := by omega
  have g0 : l[i]? = some (l[i]) := List.getElem?_eq_getElem hil
  have ix := str_indexO l i i _ _ rfl g0 rfl w
  have hee := esc_at hil
  have cn := fun h => unum_spec l i w hl h
  have hb : (l[i]).toNat < 256 := UInt8.toNat_lt _
  generalize l[i] = c at *
  rcases unB_cases c with ⟨rfl, e⟩ | ⟨rfl, e⟩ | ⟨rfl, e⟩ | ⟨rfl, e⟩ | ⟨rfl, e⟩ | ⟨rfl, e⟩ | ⟨rfl, e⟩ | ⟨rfl, e⟩ | ⟨rfl, e⟩ | ⟨h1, h2, h3, h4, h5, h6, h7, h8, h9, e, hne⟩
  case' inr.inr.inr.inr.inr.inr.inr.inr.inl =>
    rw [hee, e]
    simp only [if_pos]
    exact cn g0
  case' inr.inr.inr.inr.inr.inr.inr.inr.inr =>
    rw [hee, e]
    simp only [if_neg hne]
    generalize c.toNat = x at *
    clear hee cn g0 e hne hil
    generalize (ByteArray.mk l.toArray) = s at *
    go_enter Tryz.func183, Tryz.ntmps183
    go_wp2
    go_ret3
    exact ⟨rfl, rfl⟩
  all_goals
    rw [hee, e]
    simp only [UInt8.reduceToNat] at ix
    clear hee cn g0 e hil hb
    generalize (ByteArray.mk l.toArray) = s at *
    go_enter Tryz.func183, Tryz.ntmps183
    go_wp2
    go_ret3
    exact ⟨rfl, rfl⟩
end Go.Proofs.YtnikcgmbkmbloaaGreatDoor
/- ReadQuoted: the program's and the model's answers. -/
namespace Go.Proofs.YtnikcgmbkmbloaaGreatDoor
open Go.RowKit Go.Maps
set_option maxRecDepth 100000
set_option maxHeartbeats 2000000 in
theorem readquoted_impl (l : List UInt8) (a : Int) (w : World) (hl : l.length ≤ 1073741824) (h0 : -9223372036854775808 ≤ a) (h1 : a ≤ 9223372036854775807) (hE : Env w) :
    Calls Tryz.prog 174 #[.string ⟨l.toArray⟩, .int .i64 a] w fun e w' => e = .returned (readV l a) ∧ Below w.heap.size w w' := by
  have hsz := size_l l
  by_cases ha : a < 0
  · rw [read_low ha]
    generalize (ByteArray.mk l.toArray) = s at *
    go_enter Tryz.func174, Tryz.ntmps174
    go_wp2
    go_ret3
    exact ⟨rfl, Below.refl _ _⟩
  obtain ⟨i0, rfl⟩ : ∃ i : Nat, a = i := ⟨a.toNat, by omega⟩
  have hn0 : ¬ ((i0 : Int) < 0) := by omega
  have cb := byte_is l 34 i0 w (by omega)
  by_cases hq : l[i0]? = some 34
  rotate_left
  · rw [read_no hq]
    rw [decide_eq_false hq] at cb
    generalize (ByteArray.mk l.toArray) = s at *
    clear hq ha hE
    go_enter Tryz.func174, Tryz.ntmps174
    go_wp2_with fail
    refine cb.mono ?_
    rintro e w1 ⟨rfl, rfl⟩
    go_wp2
    go_ret3
    exact ⟨rfl, Below.refl _ _⟩
  have hil : i0 < l.length := by
    rcases Nat.lt_or_ge i0 l.length with h | h
    · exact h
    · rw [List.getElem?_eq_none h] at hq; cases hq
  rw [decide_eq_true hq] at cb
  have hi' : (i0 : Int) ≤ 1073741824 := by omega
  obtain ⟨R, hR⟩ : ∃ R, R = readV l (i0 : Int) := ⟨_, rfl⟩
  rw [← hR]
  have HRN := Lib.hid (fun hr => hR.trans (readV_none hq hr))
  have HRS := Lib.hid (fun rs e hr => hR.trans (readV_some (rs := rs) (e := e) hq hr))
  have HIL := Lib.hid hil
  have HL := Lib.hid hl
  have CE := Lib.hid (fun w => escaped_impl w)
  have CB := Lib.hid (fun i w => byte_is l 34 i w (by omega))
  have CQ := Lib.hid (fun i b w hi hE hM => quotedchar_impl l i b w (by omega) hi hE hM)
  have HE := Lib.hid hE
  clear hR hq ha hE hil h0 h1
  generalize (ByteArray.mk l.toArray) = s at *
  go_enter Tryz.func174, Tryz.ntmps174
  go_wp2_with fail
  refine cb.mono ?_
  rintro e w1 ⟨rfl, rfl⟩
  clear cb
  go_wp2_with fail
  refine (CE.out w).mono ?_
  rintro e w2 ⟨bm, rfl, hbm, hM, b2⟩
  have HB := Lib.hid b2
  have HM := Lib.hid hM
  have HO := Lib.hid (own_base (World.ownsRow_made (e := 5) (size := 1) w2 #[] 0 (Nat.le_refl _) (by decide) rfl) b2.size)
  clear hM b2
  go_wp2
  generalize hW3 : w2.alloc (.cells #[] 5) = w3 at *
  have HB3 := Lib.hid (show Below w.heap.size w w3 by rw [← hW3]; exact HB.out.alloc HB.out.size _)
  have HM3 := Lib.hid (show MapU w3 bm by rw [← hW3]; exact HM.out.below (below_alloc w2 _) HM.out.lt)
  have HE3 := Lib.hid (HE.out.below HB3.out)
  clear HM HB hW3
  go_loopw [1, 8] (fun va vb wr => ∃ (i : Nat) (rs : List Int), va = .int .i64 i ∧ wr.ownsRow w.heap.size 5 1 vb (flat rs).length (bv (flat rs)) ∧ MapU wr bm ∧ Below w.heap.size w wr ∧ Env wr ∧ Far l (i0 + 1) i rs) (fun va _ _ => l.length - (intOf va).toNat)
  case atStart => exact ⟨i0 + 1, [], by go_num, HO.out, HM3.out, HB3.out, HE3.out, far_start HIL.out⟩
  case round =>
    obtain ⟨i, rs, rfl, hown, hM, hb, hE, hF⟩ := hrel
    have hil := hF.2.1
    have hrl := hF.2.2.1
    have hfl := flat_len rs
    have hi2 : (i : Int) ≤ 1073741824 := by have := HL.out; omega
    have hi3 : i ≤ 1073741824 := by have := HL.out; omega
    have cb := CB.out i wr
    by_cases hq : l[i]? = some 34
    · rw [decide_eq_true hq] at cb
      have hR := HRS.out _ _ (far_end hF hq)
      have hcv := conv_str wr _ _ (own_slc hown)
      have HR := Lib.hid hR
      have HBB := Lib.hid hb
      generalize hs : (ByteArray.mk (flat rs).toArray) = s2 at *
      have HS := Lib.hid hs
      clear hown hM hb hE hF hq hR hil hrl hfl hs
      go_wp2_with fail
      refine cb.mono ?_
      rintro e w' ⟨rfl, rfl⟩
      go_wp2
      go_ret3
      refine ⟨?_, HBB.out⟩
      rw [HR.out]
      first | rfl | trace_state
    · rw [decide_eq_false hq] at cb
      have cq := CQ.out i bm wr hil hE hM
      have HBB := Lib.hid hb
      cases hc : charAt l i with
      | none =>
        rw [hc] at cq
        have hR := HRN.out (far_bad hF hq hc)
        have HR := Lib.hid hR
        clear hown hM hb hE hF hq hR hil hrl hfl hc
        go_wp2_with fail
        refine cb.mono ?_
        rintro e w' ⟨rfl, rfl⟩
        go_wp2_with fail
        refine cq.mono ?_
        rintro e w4 ⟨rfl, b4⟩
        have B4 := Lib.hid (HBB.out.trans (b4.mono HBB.out.size))
        clear b4 cq cb
        simp only [charV]
        go_wp2
        go_ret3
        exact ⟨by rw [HR.out]; rfl, B4.out⟩
      | some p =>
        obtain ⟨n, j⟩ := p
        rw [hc] at cq
        have hk := charAt_ok hc
        have HF := Lib.hid (far_step hF hq hc)
        have HJ := Lib.hid hk
        have HOW := Lib.hid hown
        have HMM := Lib.hid hM
        have HEE := Lib.hid hE
        have CA := Lib.hid (fun w4 vb ho hB => append_grown w4 w.heap.size vb (flat rs) n ho hB (by omega))
        clear hown hM hb hE hF hq hil hrl hfl hc hk
        go_wp2_with fail
        refine cb.mono ?_
        rintro e w' ⟨rfl, rfl⟩
        go_wp2_with fail
        refine cq.mono ?_
        rintro e w4 ⟨rfl, b4⟩
        have B4 := Lib.hid (HBB.out.trans (b4.mono HBB.out.size))
        have O4 := Lib.hid (own_below HOW.out b4)
        have M4 := Lib.hid (HMM.out.below b4 HMM.out.lt)
        have E4 := Lib.hid (HEE.out.below b4)
        have ca := CA.out w4 _ O4.out B4.out.size
        clear b4 cq cb
        simp only [charV]
        go_wp2_with fail
        refine ca.mono ?_
        rintro e w5 ⟨v', rfl, hown5, hg⟩
        have B5 := Lib.hid (B4.out.trans (grown_belowN hg B4.out.size (fun k hk => (O4.out.lt k hk).1)))
        have M5 := Lib.hid (M4.out.kept hg (MapU.ne O4.out M4.out))
        have O5 := Lib.hid hown5
        clear hown5 hg ca
        go_wp2
        go_roundw
        case rel =>
          refine ⟨j, rs ++ [n], rfl, ?_, M5.out, B5.out, HE.out.below B5.out, HF.out⟩
          rw [flat_append, flat_one]
          exact O5.out
        case measure => have := HJ.out; simp [intOf]; omega
set_option maxHeartbeats 4000000 in
theorem readquoted_spec (l : List UInt8) (a : Int) (w : World) (hl : l.length ≤ 1073741824) (h0 : -9223372036854775808 ≤ a) (h1 : a ≤ 9223372036854775807) :
    Calls Tryz.prog 149 #[.string ⟨l.toArray⟩, .int .i64 a] w fun e w' => e = .returned (readV l a) ∧ Below w.heap.size w w' := by
  obtain ⟨j0, hi, hz0, hz1, hz2⟩ := info_parts intInfo'
  have hsz := size_l l
  have hlz : (l.length : Int) ≤ 1073741824 := by omega
  by_cases ha : a < 0
  · rw [read_low ha]
    generalize (ByteArray.mk l.toArray) = s at *
    go_enter Tryz.func149, Tryz.ntmps149
    go_wp2
    go_ret3
    exact ⟨rfl, Below.refl _ _⟩
  obtain ⟨i0, rfl⟩ : ∃ i : Nat, a = i := ⟨a.toNat, by omega⟩
  have hn0 : ¬ ((i0 : Int) < 0) := by omega
  by_cases hil : i0 < l.length
  rotate_left
  · rw [read_no (by rw [List.getElem?_eq_none (by omega)]; simp)]
    have hil' : (l.length : Int) ≤ i0 := by omega
    generalize (ByteArray.mk l.toArray) = s at *
    clear hil ha
    go_enter Tryz.func149, Tryz.ntmps149
    go_wp2
    go_ret3
    exact ⟨rfl, Below.refl _ _⟩
  have hil' : (i0 : Int) < l.length := by omega
  have g0 : l[i0]? = some (l[i0]) := List.getElem?_eq_getElem hil
  by_cases hq : l[i0] = 34
  rotate_left
  · rw [read_no (by rw [g0]; exact fun g => hq (Option.some.inj g))]
    have ix := str_indexO l i0 i0 _ _ rfl g0 rfl w
    have hb : (l[i0]).toNat < 256 := UInt8.toNat_lt _
    have hq' : (((l[i0]).toNat : Int) != 34) = true := by
      have : (l[i0]).toNat ≠ (34 : UInt8).toNat := fun e => hq (UInt8.toNat_inj.1 e)
      have h92 : (34 : UInt8).toNat = 34 := rfl
      simp; omega
    generalize (l[i0]).toNat = x at *
    generalize (ByteArray.mk l.toArray) = s at *
    clear hil ha hq g0
    go_enter Tryz.func149, Tryz.ntmps149
    go_wp2
    go_ret3
    exact ⟨rfl, Below.refl _ _⟩
  rw [hq] at g0
  have ix : (Instr.index 9 (.string ⟨l.toArray⟩) (.int .i64 (i0 : Int))).run Tryz.prog w = .ok (.int .u8 34) w := str_indexO l i0 i0 34 34 rfl g0 rfl w
  obtain ⟨R, hR⟩ : ∃ R, R = readV l (i0 : Int) := ⟨_, rfl⟩
  rw [← hR]
  have HRN := Lib.hid (fun hr => hR.trans (readV_none g0 hr))
  have HRS := Lib.hid (fun rs e hr => hR.trans (readV_some (rs := rs) (e := e) g0 hr))
  have HIL := Lib.hid hil
  have HL := Lib.hid hl
  obtain ⟨cap, w2, hcv, hRd, hb2, C0, fz0, hblk⟩ := conv_bytes (w.alloc (.cells #[] 3)) l
  have hsz1 : (w.alloc (.cells #[] 3)).heap.size = w.heap.size + 1 := by simp
  rw [hsz1] at hcv hRd hb2 hblk
  have CG := Lib.hid (fun w v a h => get_spec_any w v l a h (by omega))
  have CE := Lib.hid (fun i w hi => escape_spec l i w (by omega) hi)
  have IX := Lib.hid (fun i c k h hk w => str_indexO l i i c k rfl h hk w)
  have hwb : Below w.heap.size w w2 := (below_alloc w _).trans (hb2.mono (by omega))
  have hw2 : w.heap.size + 1 ≤ w2.heap.size := by have := hb2.size; simp at this; omega
  have hO : w2.ownsRow w.heap.size 3 1 (.slice (some ⟨w.heap.size, 0, none⟩) 0 0) 0 [] := own_below (own_new0 w 3) (by rw [hsz1]; exact hb2)
  have HO := Lib.hid hO
  have HWB := Lib.hid hwb
  have HRD := Lib.hid hRd
  have HBL := Lib.hid hblk
  have i0m : (i0 : Int) ≤ 1073741824 := by omega
  clear hR hq ha hil h0 h1 g0 hb2 hwb hO hRd hsz1 hblk
  generalize (ByteArray.mk l.toArray) = s at *
  go_enter Tryz.func149, Tryz.ntmps149
  go_wp2
  go_loopw [1, 7] (fun va vb wr => ∃ (i : Nat) (rs : List Int) (C : Array Value) (fz : Nat × Nat), va = .int .i64 i ∧ wr.ownsRow w.heap.size 3 1 vb rs.length (iv rs) ∧ Reads wr (.slice (some ⟨w.heap.size + 1, 0, none⟩) l.length cap) (bv l) ∧ wr.heap[w.heap.size + 1]? = some (.cells C 5 fz) ∧ Below w.heap.size w wr ∧ Far l (i0 + 1) i rs) (fun va _ _ => l.length - (intOf va).toNat)
  case atStart => exact ⟨i0 + 1, [], C0, fz0, by go_num, HO.out, HRD.out, HBL.out, HWB.out, far_start HIL.out⟩
  case round =>
    obtain ⟨i, rs, C, fz, rfl, hown, hrd, hblk, hb, hF⟩ := hrel
    have hil := hF.2.1
    have hrl := hF.2.2.1
    have hi2 : (i : Int) ≤ 1073741824 := by have := HL.out; omega
    have hi3 : i ≤ 1073741824 := by have := HL.out; omega
    have HBB := Lib.hid hb
    by_cases hlt : i < l.length
    rotate_left
    · have hnone : l[i]? = none := List.getElem?_eq_none (by omega)
      have hR := HRN.out (far_bad hF (by rw [hnone]; simp) (char_end (by omega)))
      have HR := Lib.hid hR
      have hlt' : ¬ ((i : Int) < l.length) := by omega
      clear hown hrd hblk hb hF hR hlt hnone hil hrl
      go_wp2
      go_ret3
      exact ⟨by rw [HR.out]; rfl, HBB.out⟩
    have hlt' : (i : Int) < l.length := by omega
    have g0 : l[i]? = some (l[i]) := List.getElem?_eq_getElem hlt
    have hc256 : (l[i]).toNat < 256 := UInt8.toNat_lt _
    generalize l[i] = c at *
    by_cases hq : c = 34
    · subst hq
      have ix := IX.out i 34 34 g0 rfl wr
      have hR := HRS.out _ _ (far_end hF g0)
      have HR := Lib.hid hR
      have cf := fromrunes_spec wr _ rs (own_reads hown) (by omega)
      generalize hs : (ByteArray.mk (flat rs).toArray) = s2 at *
      have HS := Lib.hid hs
      clear hown hrd hblk hb hF hR hlt hil hrl g0 hs hc256
      go_wp2_with fail
      refine cf.mono ?_
      rintro e w3 ⟨rfl, b3⟩
      have B3 := Lib.hid (HBB.out.trans (b3.mono HBB.out.size))
      clear b3 cf
      go_wp2
      go_ret3
      exact ⟨by rw [HR.out]; first | rfl | (rw [← HS.out]; rfl), B3.out⟩
    have hnq : ¬ l[i]? = some 34 := by rw [g0]; exact fun g => hq (Option.some.inj g)
    have hq1 : ((c.toNat : Int) == 34) = false := by
      have : c.toNat ≠ (34 : UInt8).toNat := fun e => hq (UInt8.toNat_inj.1 e)
      have h92 : (34 : UInt8).toNat = 34 := rfl
      simp; omega
    have cg := CG.out wr _ i hrd
    have HF := Lib.hid hF
    have HNQ := Lib.hid hnq
    have HLT := Lib.hid hlt
    have HOW := Lib.hid hown
    have HRDD := Lib.hid hrd
    have HBK := Lib.hid hblk
    have HRL := Lib.hid (show rs.length ≤ 1073741824 by omega)
    by_cases h92 : c = 92
    · subst h92
      have ix := IX.out i 92 92 g0 rfl wr
      have ce : Calls Tryz.prog 183 #[.string s, .int .i64 ((i : Int) + 1)] wr fun e w' => e = .returned (charW (escAt l (i + 1))) ∧ wr = w' := CE.out (i + 1) wr (by omega)
      have hch := char_esc g0
      obtain ⟨y1, y2, y3, hy⟩ : ∃ (y1 y2 : Int) (y3 : Bool), getV l (i : Int) = .tuple #[.int .i64 y1, .int .i64 y2, .bool y3] := by
        rcases getV_cases l i hlt with ⟨_, e⟩ | ⟨_, e⟩
        · exact ⟨_, _, _, e⟩
        · exact ⟨_, _, _, e⟩
      rw [hy] at cg
      cases hc : escAt l (i + 1) with
      | none =>
        rw [hc] at ce
        have hR := HRN.out (far_bad hF hnq (hch.trans hc))
        have HR := Lib.hid hR
        clear hown hrd hblk hb hF hR hlt hil hrl g0 hc256 hnq hc hch hy hq hq1
        go_wp2_with fail
        refine cg.mono ?_
        rintro e w' ⟨rfl, rfl⟩
        go_wp2_with fail
        refine ce.mono ?_
        rintro e w' ⟨rfl, rfl⟩
        simp only [charW]
        go_wp2
        go_ret3
        exact ⟨by rw [HR.out]; rfl, HBB.out⟩
      | some p =>
        obtain ⟨n, j⟩ := p
        rw [hc] at ce
        have hk := charAt_ok (hch.trans hc)
        have HF2 := Lib.hid (far_step hF hnq (hch.trans hc))
        have HJ := Lib.hid hk
        clear hown hrd hblk hb hF hlt hil hrl g0 hc256 hnq hc hch hy hq hq1 hk
        go_wp2_with fail
        refine cg.mono ?_
        rintro e w' ⟨rfl, rfl⟩
        go_wp2_with fail
        refine ce.mono ?_
        rintro e w' ⟨rfl, rfl⟩
        simp only [charW]
        go_wp2_with (at_builtin; refine wpList_append_own _ rfl _ _ 118 rfl w.heap.size 3 j0 (.int .i64 0) 1 8 Tryz.underlying118 hi hz0 hz1 hz2 rfl (by decide) _ _ _ rfl (HOW.out.alloc _) ⟨wr.heap.size, 0, none⟩ 1 1 [.int .i64 n] rfl rfl ?c1 ?c2 ?c3 ?c4 ?c5 ?_)
        case c1 => exact cell_one_new wr (.int .i64 n) 3
        case c2 => intro u hu; simp at hu; rcases hu with rfl; rfl
        case c3 => have := HRL.out; unfold maxLen; omega
        case c4 => have := HRL.out; omega
        case c5 => have := HBB.out.size; simp; omega
        intro v' w3 hown3 hgrow _
        have hne := own_ne_cells HOW.out HBK.out (by decide)
        have hkeep : w3.heap[w.heap.size + 1]? = some (.cells C 5 fz) := by
          have h1 : w.heap.size + 1 < wr.heap.size := (Array.getElem?_eq_some_iff.1 HBK.out).1
          rw [hgrow.block _ (by simp; omega) (fun e => hne e.symm)]
          exact (heap_alloc_old wr _ h1).trans HBK.out
        have HRD3 := Lib.hid (reads_block HRDD.out (hkeep.trans HBK.out.symm))
        have HB3 := Lib.hid (below_step HBB.out HBB.out.size HOW.out hgrow)
        have HK3 := Lib.hid hkeep
        have HO3 := Lib.hid hown3
        clear hown3 hgrow hne hkeep
        go_wp2
        go_roundw
        case rel =>
          refine ⟨j, rs ++ [n], C, fz, rfl, ?_, HRD3.out, HK3.out, HB3.out, HF2.out⟩
          rw [List.length_append, iv_append]
          exact HO3.out
        case measure => have := HJ.out; have := HLT.out; simp [intOf]; omega
    have h92n : ¬ l[i]? = some 92 := by rw [g0]; exact fun g => h92 (Option.some.inj g)
    have hq2 : ((c.toNat : Int) == 92) = false := by
      have : c.toNat ≠ (92 : UInt8).toNat := fun e => h92 (UInt8.toNat_inj.1 e)
      have h92 : (92 : UInt8).toNat = 92 := rfl
      simp; omega
    have ix := IX.out i c _ g0 rfl wr
    generalize c.toNat = x at *
    rcases getV_cases l i hlt with ⟨hbad, e⟩ | ⟨hgood, e⟩
    · rw [e] at cg
      have hR := HRN.out (far_bad hF hnq (char_bad h92n hbad))
      have HR := Lib.hid hR
      clear hown hrd hblk hb hF hR hlt hil hrl g0 hnq hq h92 h92n hbad e
      go_wp2_with fail
      refine cg.mono ?_
      rintro e w' ⟨rfl, rfl⟩
      go_wp2
      go_ret3
      exact ⟨by rw [HR.out]; rfl, HBB.out⟩
    · rw [e] at cg
      by_cases h32 : (dec l i).1 < 32
      · have hR := HRN.out (far_bad hF hnq (char_low h92n h32))
        have HR := Lib.hid hR
        have h32' : decide ((32 : Int) ≤ ((dec l i).1 : Int)) = false := by simp; omega
        generalize (dec l i).1 = d1 at *
        generalize (dec l i).2 = d2 at *
        clear hown hrd hblk hb hF hR hlt hil hrl g0 hnq hq h92 h92n hgood e h32
        go_wp2_with fail
        refine cg.mono ?_
        rintro e w' ⟨rfl, rfl⟩
        go_wp2
        go_ret3
        exact ⟨by rw [HR.out]; rfl, HBB.out⟩
      · have hch := char_plain hlt h92n hgood (by omega)
        have hk := charAt_ok hch
        have HF2 := Lib.hid (far_step hF hnq hch)
        have HJ := Lib.hid hk
        have h32' : decide ((32 : Int) ≤ ((dec l i).1 : Int)) = true := by simp; omega
        have hij : ((i + (dec l i).2 : Nat) : Int) = (i : Int) + ((dec l i).2 : Int) := by omega
        generalize (dec l i).1 = d1 at *
        generalize (dec l i).2 = d2 at *
        clear hown hrd hblk hb hF hlt hil hrl g0 hnq hq h92 h92n hgood e h32 hch hk hij
        go_wp2_with fail
        refine cg.mono ?_
        rintro e w' ⟨rfl, rfl⟩
        go_wp2_with (at_builtin; refine wpList_append_own _ rfl _ _ 118 rfl w.heap.size 3 j0 (.int .i64 0) 1 8 Tryz.underlying118 hi hz0 hz1 hz2 rfl (by decide) _ _ _ rfl (HOW.out.alloc _) ⟨wr.heap.size, 0, none⟩ 1 1 [.int .i64 (d1 : Int)] rfl rfl ?c1 ?c2 ?c3 ?c4 ?c5 ?_)
        case c1 => exact cell_one_new wr (.int .i64 (d1 : Int)) 3
        case c2 => intro u hu; simp at hu; rcases hu with rfl; rfl
        case c3 => have := HRL.out; unfold maxLen; omega
        case c4 => have := HRL.out; omega
        case c5 => have := HBB.out.size; simp; omega
        intro v' w3 hown3 hgrow _
        have hne := own_ne_cells HOW.out HBK.out (by decide)
        have hkeep : w3.heap[w.heap.size + 1]? = some (.cells C 5 fz) := by
          have h1 : w.heap.size + 1 < wr.heap.size := (Array.getElem?_eq_some_iff.1 HBK.out).1
          rw [hgrow.block _ (by simp; omega) (fun e => hne e.symm)]
          exact (heap_alloc_old wr _ h1).trans HBK.out
        have HRD3 := Lib.hid (reads_block HRDD.out (hkeep.trans HBK.out.symm))
        have HB3 := Lib.hid (below_step HBB.out HBB.out.size HOW.out hgrow)
        have HK3 := Lib.hid hkeep
        have HO3 := Lib.hid hown3
        clear hown3 hgrow hne hkeep
        go_wp2
        go_roundw
        case rel =>
          refine ⟨(i + d2), rs ++ [(d1 : Int)], C, fz, rfl, ?_, HRD3.out, HK3.out, HB3.out, HF2.out⟩
          rw [List.length_append, iv_append]
          exact HO3.out
        case measure => have := HJ.out; have := HLT.out; simp [intOf]; omega
end Go.Proofs.YtnikcgmbkmbloaaGreatDoor
/- A body whose labels lie in one scope, left by gotos: what holds at each jump, and labels that only come later. Plain laws of the machine. -/
namespace Go.Proofs.YtnikcgmbkmbloaaGreatDoor
open Go
/-- As Q; by a goto to label l: J l. -/
def hops (J : Nat → Act → World → Prop) (Q : Exit → Act → World → Prop) : Exit → Act → World → Prop
  | .goto l, a, w => J l a w
  | e, a, w => Q e a w
theorem hops_mono {J K : Nat → Act → World → Prop} {Q : Exit → Act → World → Prop} (h : ∀ l a w, J l a w → K l a w) : ∀ e a w, hops J Q e a w → hops K Q e a w := fun e a w hq => by
  cases e with
  | goto l => exact h l a w hq
  | normal => exact hq
  | exit id => exact hq
  | ret => exact hq
  | panic ch => exact hq
  | outgrown => exact hq
theorem wp_scope_hops {P : Program} {a : Act} {w : World} {Q : Exit → Act → World → Prop} {c : Code} (J : Nat → Act → World → Prop) (μ : Nat → Nat)
    (pass : ∀ l a w, J l a w → ∃ rest, findLabel c l = some rest ∧ rest.wp P (hops (fun l' a' w' => J l' a' w' ∧ μ l' < μ l) Q) a w)
    (first : c.wp P (hops J Q) a w) : (Code.scope c).wp P Q a w := by
  intro b k cs
  have hg : ∀ l rest, findLabel c l = some rest → gotoIn l (.inScope c :: k) = some (.code rest :: .inScope c :: k) := fun l rest hf => by simp [gotoIn, hf]
  have key : ∀ n l a w, μ l = n → J l a w → ∀ rest, findLabel c l = some rest → ∃ e a' w', Q e a' w' ∧ Arrives P (lone (b.at a (.code rest :: .inScope c :: k)) cs w) b k cs e a' w' := by
    intro n
    induction n using Nat.strongRecOn with
    | _ n ih =>
      intro l a w hn hJ rest hrest
      obtain ⟨rest', hf, hw⟩ := pass l a w hJ
      obtain rfl : rest' = rest := by rw [hrest] at hf; injection hf with hf; exact hf.symm
      obtain ⟨e, a₁, w₁, hq, harr⟩ := hw b (.inScope c :: k) cs
      cases e with
      | normal => exact ⟨.normal, a₁, w₁, hq, Steps.trans harr (.one step_inScope)⟩
      | exit id => exact ⟨.exit id, a₁, w₁, hq, fun k' hk => harr k' (by simp [exitTo, hk])⟩
      | goto l' =>
        obtain ⟨hJ', hlt⟩ := hq
        obtain ⟨rest2, hf2, _⟩ := pass l' a₁ w₁ hJ'
        obtain ⟨e₂, a₂, w₂, hq₂, harr₂⟩ := ih _ (by omega) l' a₁ w₁ rfl hJ' rest2 hf2
        exact ⟨e₂, a₂, w₂, hq₂, .of_steps (harr _ (hg l' rest2 hf2)) harr₂⟩
      | ret => exact ⟨_, a₁, w₁, hq, harr⟩
      | panic ch => exact ⟨_, a₁, w₁, hq, harr⟩
      | outgrown => exact ⟨_, a₁, w₁, hq, harr⟩
  obtain ⟨e, a₁, w₁, hq, harr⟩ := first b (.inScope c :: k) cs
  cases e with
  | normal => exact ⟨.normal, a₁, w₁, hq, .head step_scope (Steps.trans harr (.one step_inScope))⟩
  | exit id => exact ⟨.exit id, a₁, w₁, hq, fun k' hk => .head step_scope (harr k' (by simp [exitTo, hk]))⟩
  | goto l' =>
    obtain ⟨rest, hf, _⟩ := pass l' a₁ w₁ hq
    obtain ⟨e₂, a₂, w₂, hq₂, harr₂⟩ := key _ l' a₁ w₁ rfl hq rest hf
    exact ⟨e₂, a₂, w₂, hq₂, .of_steps (.head step_scope (harr _ (hg l' rest hf))) harr₂⟩
  | ret => exact ⟨_, a₁, w₁, hq, .of_steps (.one step_scope) harr⟩
  | panic ch => exact ⟨_, a₁, w₁, hq, .of_steps (.one step_scope) harr⟩
  | outgrown => exact ⟨_, a₁, w₁, hq, .of_steps (.one step_scope) harr⟩
/-- A label's rest: what stands behind it. -/
def PassAt (P : Program) (c : Code) (J : Nat → Act → World → Prop) (μ : Nat → Nat) (Q : Exit → Act → World → Prop) (l : Nat) (a : Act) (w : World) : Prop :=
  ∃ R, findLabel c l = some (.seq .skip R) ∧ R.wp P (hops (fun l' a' w' => J l' a' w' ∧ μ l' < μ l) Q) a w
theorem fall_of {P : Program} {c R : Code} {J K : Nat → Act → World → Prop} {μ : Nat → Nat} {Q : Exit → Act → World → Prop} {l : Nat} {a : Act} {w : World} (h : PassAt P c J μ Q l a w) (hf : findLabel c l = some (.seq .skip R))
    (hm : ∀ l' a' w', J l' a' w' ∧ μ l' < μ l → K l' a' w') : R.wp P (hops K Q) a w := by
  obtain ⟨R', hf', hw⟩ := h
  rw [hf] at hf'
  injection hf' with hf'
  injection hf' with _ hf'
  subst hf'
  exact Code.wp_mono (hops_mono hm) hw
theorem wp_scope_falls {P : Program} {a : Act} {w : World} {Q : Exit → Act → World → Prop} {c : Code} (J : Nat → Act → World → Prop) (μ : Nat → Nat)
    (pass : ∀ l a w, J l a w → (∀ l' a' w', μ l' < μ l → J l' a' w' → PassAt P c J μ Q l' a' w') → PassAt P c J μ Q l a w)
    (first : (∀ l' a' w', J l' a' w' → PassAt P c J μ Q l' a' w') → c.wp P (hops J Q) a w) : (Code.scope c).wp P Q a w := by
  have all : ∀ n l a w, μ l = n → J l a w → PassAt P c J μ Q l a w := by
    intro n
    induction n using Nat.strongRecOn with
    | _ n ih => exact fun l a w hn hJ => pass l a w hJ fun l' a' w' hlt hJ' => ih _ (by omega) l' a' w' rfl hJ'
  refine wp_scope_hops J μ (fun l a w hJ => ?_) (first fun l' a' w' hJ' => all _ l' a' w' rfl hJ')
  obtain ⟨R, hf, hw⟩ := all _ l a w rfl hJ
  exact ⟨_, hf, wp_seq (wp_skip hw)⟩
end Go.Proofs.YtnikcgmbkmbloaaGreatDoor
