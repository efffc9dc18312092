import Derived.Test.YtelehfefhlgbkaaGreatDoorG11
import Derived.Test.YtelehfefhlgbkaaGreatDoorG3
import Derived.Test.YtelehfefhlgbkaaGreatDoorG9
import Derived.Test.YtelehfefhlgbkaaGreatDoorG7
/- ReadQuoted: the program's answers. -/
namespace Go.Proofs.YtelehfefhlgbkaaGreatDoor
open Go.RowKit Go.Maps
set_option maxRecDepth 100000
theorem numEsc_some {l : List UInt8} {i j : Nat} {n : Int} (h : numEsc l i = some (n, j)) : l[i]? = some 92 ∧ l[i + 1]? = some 117 ∧ fourAt l (i + 2) = some n ∧ j = i + 6 := by
  unfold numEsc at h
  split at h
  · rename_i hg
    rw [Option.map_eq_some_iff] at h
    obtain ⟨m, hm, he⟩ := h
    cases he
    exact ⟨hg.1, hg.2, hm, rfl⟩
  · cases h
theorem numEsc_none {l : List UInt8} {i : Nat} (h : numEsc l i = none) : (l[i]? = some 92 ∧ l[i + 1]? = some 117) → fourAt l (i + 2) = none := by
  intro hg
  unfold numEsc at h
  rw [if_pos hg] at h
  cases h4 : fourAt l (i + 2) with
  | none => rfl
  | some n => rw [h4] at h; cases h
/-- the numbered character behind a backslash at i, where no letter stands -/
def numC (l : List UInt8) (i : Nat) : Option (Int × Nat) := if l[i + 1]? = some 117 then numAt l (i + 1) else none
theorem numc_impl (l : List UInt8) (i : Nat) (w : World) (hl : l.length ≤ 1099511627776) (hi : i ≤ l.length) (hE : Env w) (h92 : l[i]? = some 92) :
    Calls Tryz.prog 98 #[.string ⟨l.toArray⟩, .int .i64 i] w fun e w' => e = .returned (charV (numC l i)) ∧ Below w.heap.size w w' := by
  have c1 := numesc_impl l i w hl hi hE
  cases h1 : numEsc l i with
  | none =>
    have hR : numC l i = none := by
      unfold numC
      by_cases hu : l[i + 1]? = some 117
      · rw [if_pos hu]; exact num_four (numEsc_none h1 ⟨h92, hu⟩)
      · rw [if_neg hu]
    rw [hR]
    rw [h1] at c1
    clear hR h1 hE h92
    generalize (ByteArray.mk l.toArray) = s at *
    go_enter Tryz.func98, Tryz.ntmps98
    go_wp2_with fail
    refine c1.mono ?_
    rintro e w1 ⟨rfl, b1⟩
    simp only [charV]
    go_wp2
    go_ret3
    exact ⟨rfl, b1⟩
  | some p =>
    obtain ⟨n, j⟩ := p
    obtain ⟨_, hu, h4, rfl⟩ := numEsc_some h1
    have hr := fourAt_range h4
    have hR0 : numC l i = numAt l (i + 1) := by unfold numC; rw [if_pos hu]
    rw [h1] at c1
    by_cases hok : okR n
    · have hn := okR_un hok
      have cr := runeok_impl_yes hok
      rw [hR0, num_one h4 (by omega)]
      have CR := Lib.hid cr
      clear cr hn hok hR0 h1 h4 hu h92 hE
      have hr1 := hr.1
      have hr2 := hr.2.1
      clear hr
      generalize (ByteArray.mk l.toArray) = s at *
      go_enter Tryz.func98, Tryz.ntmps98
      go_wp2_with fail
      refine c1.mono ?_
      rintro e w1 ⟨rfl, b1⟩
      simp only [charV]
      go_wp2_with fail
      refine (CR.out w1).mono ?_
      rintro e w' ⟨rfl, rfl⟩
      go_wp2
      go_ret3
      exact ⟨rfl, b1⟩
    · have hn1 : 55296 ≤ n := by
        rcases Int.lt_or_le n 55296 with h | h
        · exact absurd (okR_mk (by omega)) hok
        · exact h
      have hn2 : n ≤ 57343 := by
        rcases Int.lt_or_le 57343 n with h | h
        · exact absurd (okR_mk (by omega)) hok
        · exact h
      have CR := Lib.hid (fun w => runeok_impl_no hok w)
      have C2 := Lib.hid (fun w1 hb => numesc_impl l (i + 6) w1 hl (by omega) (hE.below (w' := w1) hb))
      have fin : ∀ w2, Below w.heap.size w w2 → numC l i = none → True := fun _ _ _ => trivial
      cases h2 : numEsc l (i + 6) with
      | none =>
        have hR : numC l i = none := by
          rw [hR0]
          by_cases hp : l[i + 6]? = some 92 ∧ l[i + 7]? = some 117
          · have h7 := numEsc_none h2 hp
            by_cases hlow : 56320 ≤ n
            · exact num_low h4 hlow hn2
            · exact num_pair_none h4 hn1 (by omega) hp.1 hp.2 h7
          · exact num_alone h4 hn1 hn2 hp
        rw [hR]
        have C2' := C2.out
        rw [h2] at C2'
        have C3 := Lib.hid C2'
        clear C2' C2 hR hR0 h1 h2 h4 hu h92 hE hok fin
        have hr1 := hr.1
        have hr2 := hr.2.1
        clear hr
        generalize (ByteArray.mk l.toArray) = s at *
        go_enter Tryz.func98, Tryz.ntmps98
        go_wp2_with fail
        refine c1.mono ?_
        rintro e w1 ⟨rfl, b1⟩
        simp only [charV]
        go_wp2_with fail
        refine (CR.out w1).mono ?_
        rintro e w' ⟨rfl, rfl⟩
        have c3 := C3.out w1 b1
        have B1 := Lib.hid b1
        clear b1
        go_wp2_with fail
        refine c3.mono ?_
        rintro e w2 ⟨rfl, b2⟩
        have B2 := Lib.hid (B1.out.trans (b2.mono B1.out.size))
        clear b2 c3
        simp only [charV]
        go_wp2
        go_ret3
        exact ⟨rfl, B2.out⟩
      | some p =>
        obtain ⟨m, j⟩ := p
        obtain ⟨h6, h7, h8, rfl⟩ := numEsc_some h2
        have hr2 := fourAt_range h8
        have C2' := C2.out
        rw [h2] at C2'
        have C3 := Lib.hid C2'
        have hrn1 := hr.1
        have hrm1 := hr2.1
        have hrm2 := hr2.2.1
        by_cases hg : n < 56320 ∧ 56320 ≤ m ∧ m ≤ 57343
        · obtain ⟨g1, g2, g3⟩ := hg
          have hR := num_pair_good h4 hn1 g1 h6 h7 h8 ⟨g2, g3⟩
          rw [hR0, hR]
          have e1 : 65536 + 1024 * (n - 55296) + (m - 56320) = 65536 + 1024 * (n - 55296) + (m - 56320) := rfl
          clear C2' C2 hR hR0 h1 h2 h4 hu h92 hE hok fin hr hr2 h6 h7 h8 e1
          have hi' : (i : Int) ≤ 1099511627776 := by omega
          generalize (ByteArray.mk l.toArray) = s at *
          go_enter Tryz.func98, Tryz.ntmps98
          go_wp2_with fail
          refine c1.mono ?_
          rintro e w1 ⟨rfl, b1⟩
          simp only [charV]
          go_wp2_with fail
          refine (CR.out w1).mono ?_
          rintro e w' ⟨rfl, rfl⟩
          have c3 := C3.out w1 b1
          have B1 := Lib.hid b1
          clear b1
          go_wp2_with fail
          refine c3.mono ?_
          rintro e w2 ⟨rfl, b2⟩
          have B2 := Lib.hid (B1.out.trans (b2.mono B1.out.size))
          clear b2 c3
          simp only [charV]
          go_wp2
          go_ret3
          refine ⟨?_, B2.out⟩
          first | rfl | (congr 3; omega)
        · have hR : numC l i = none := by
            rw [hR0]
            by_cases hlow : 56320 ≤ n
            · exact num_low h4 hlow hn2
            · exact num_pair_bad h4 hn1 (by omega) h6 h7 h8 (by omega)
          rw [hR]
          have hg' : 56320 ≤ n ∨ (n < 56320 ∧ m < 56320) ∨ (n < 56320 ∧ 56320 ≤ m ∧ 57343 < m) := by omega
          clear C2' C2 hR hR0 h1 h2 h4 hu h92 hE hok fin hr hr2 h6 h7 h8 hg
          generalize (ByteArray.mk l.toArray) = s at *
          rcases hg' with g1 | ⟨g1, g2⟩ | ⟨g1, g2, g3⟩
          all_goals
            go_enter Tryz.func98, Tryz.ntmps98
            go_wp2_with fail
            refine c1.mono ?_
            rintro e w1 ⟨rfl, b1⟩
            simp only [charV]
            go_wp2_with fail
            refine (CR.out w1).mono ?_
            rintro e w' ⟨rfl, rfl⟩
            have c3 := C3.out w1 b1
            have B1 := Lib.hid b1
            clear b1
            go_wp2_with fail
            refine c3.mono ?_
            rintro e w2 ⟨rfl, b2⟩
            have B2 := Lib.hid (B1.out.trans (b2.mono B1.out.size))
            clear b2 c3
            simp only [charV]
            go_wp2
            go_ret3
            exact ⟨rfl, B2.out⟩
theorem byte_is (l : List UInt8) (c : UInt8) (i : Nat) (w : World) (hl : l.length ≤ 1099511627776) : Calls Tryz.prog 37 #[.string ⟨l.toArray⟩, .int .i64 i, .string ⟨#[c]⟩] w fun e w' => e = .returned (.bool (decide (l[i]? = some c))) ∧ w = w' := by
  have h := bytein_any l [c] i w (by omega)
  rw [inS_one'] at h
  exact h
theorem quotedchar_impl (l : List UInt8) (i : Nat) (b : Nat) (w : World) (hl : l.length ≤ 1099511627776) (hi : i ≤ l.length) (hE : Env w) (hM : MapU w b) :
    Calls Tryz.prog 81 #[.string ⟨l.toArray⟩, .int .i64 i, .map (some b)] w fun e w' => e = .returned (charV (charAt l i)) ∧ Below w.heap.size w w' := by
  have hsz := size_l l
  have cb := byte_is l 92 i w hl
  by_cases h92 : l[i]? = some 92
  · rw [decide_eq_true h92] at cb
    have hil : i < l.length := by
      rcases Nat.lt_or_ge i l.length with h | h
      · exact h
      · rw [List.getElem?_eq_none h] at h92; cases h92
    rw [char_esc h92]
    by_cases hend : i + 1 = l.length
    · rw [esc_end (by omega)]
      have he : (i : Int) + 1 = l.length := by omega
      clear h92 hE hM hil hend
      generalize (ByteArray.mk l.toArray) = s at *
      have hb1 : (((i : Int) + 1 : Int) == (l.length : Int)) = true := by simp; omega
      go_enter Tryz.func81, Tryz.ntmps81
      go_wp2_with fail
      refine cb.mono ?_
      rintro e w1 ⟨rfl, rfl⟩
      go_wp2
      go_ret3
      exact ⟨rfl, Below.refl _ _⟩
    · have h1 : i + 1 < l.length := by omega
      have ix := hx_indexZ l (i + 1) ((i : Int) + 1) (by omega) h1 w
      have hee := esc_at h1
      have h11 : l[i + 1]? = some (l[i + 1]) := List.getElem?_eq_getElem h1
      generalize hc : l[i + 1] = c at *
      have hlk := MapI.look hM Tryz.underlying5 Tryz.underlying3 Tryz.underlying97 (zero64 w) (c.toNat : Int) (by
        have : c.toNat < 256 := UInt8.toNat_lt c
        exact WalkArith.wf_u8 (by omega))
      rw [f2_unB] at hlk
      have hne : (((i : Int) + 1 : Int) == (l.length : Int)) = false := by simp; omega
      rw [hee]
      cases hu : unB c with
      | some n =>
        rw [hu] at hlk
        simp only [Option.getD_some, Option.isSome_some] at hlk
        clear h92 hE hM hil hend hee h11 hc hu h1
        have hi' : (i : Int) ≤ 1099511627776 := by omega
        generalize (ByteArray.mk l.toArray) = s at *
        generalize c.toNat = x at *
        go_enter Tryz.func81, Tryz.ntmps81
        go_wp2_with fail
        refine cb.mono ?_
        rintro e w1 ⟨rfl, rfl⟩
        go_wp2
        go_ret3
        refine ⟨?_, Below.refl _ _⟩
        first | rfl | (show Ending.returned (.tuple #[_, .int .i64 ((i : Int) + 2), _]) = _; simp only [charV]; congr 3; omega) | trace_state
      | none =>
        rw [hu] at hlk
        simp only [Option.getD_none, Option.isSome_none] at hlk
        have cn := numc_impl l i w hl hi hE h92
        have hR : numC l i = if c = 117 then numAt l (i + 1) else none := by
          unfold numC
          rw [h11]
          by_cases h7 : c = 117
          · rw [if_pos (by rw [h7]), if_pos h7]
          · rw [if_neg (fun g => h7 (Option.some.inj g)), if_neg h7]
        simp only
        rw [← hR]
        clear h92 hE hM hil hend hee h11 hc hu h1 hR
        have hi' : (i : Int) ≤ 1099511627776 := by omega
        generalize (ByteArray.mk l.toArray) = s at *
        generalize c.toNat = x at *
        obtain ⟨y1, y2, y3, hy⟩ : ∃ (y1 y2 : Int) (y3 : Bool), charV (numC l i) = .tuple #[.int .i64 y1, .int .i64 y2, .bool y3] := by
          unfold charV
          split
          · exact ⟨_, _, _, rfl⟩
          · exact ⟨_, _, _, rfl⟩
        rw [hy] at cn ⊢
        clear hy
        go_enter Tryz.func81, Tryz.ntmps81
        go_wp2_with fail
        refine cb.mono ?_
        rintro e w1 ⟨rfl, rfl⟩
        go_wp2_with fail
        refine cn.mono ?_
        rintro e w2 ⟨rfl, b2⟩
        go_wp2
        go_ret3
        exact ⟨rfl, b2⟩
  · rw [decide_eq_false h92] at cb
    have cp := plain_impl l i w hl hi hE h92
    obtain ⟨y1, y2, y3, hy⟩ : ∃ (y1 y2 : Int) (y3 : Bool), charV (charAt l i) = .tuple #[.int .i64 y1, .int .i64 y2, .bool y3] := by
      unfold charV
      split
      · exact ⟨_, _, _, rfl⟩
      · exact ⟨_, _, _, rfl⟩
    rw [hy] at cp ⊢
    clear hy h92 hE hM
    generalize (ByteArray.mk l.toArray) = s at *
    go_enter Tryz.func81, Tryz.ntmps81
    go_wp2_with fail
    refine cb.mono ?_
    rintro e w1 ⟨rfl, rfl⟩
    go_wp2_with fail
    refine cp.mono ?_
    rintro e w2 ⟨rfl, b2⟩
    go_wp2
    go_ret3
    exact ⟨rfl, b2⟩
theorem MapU.ne {w : World} {B E n b : Nat} {v : Value} {xs : List Value} (h : w.ownsRow B E 1 v n xs) (hM : MapU w b) : some b ≠ v.ownBlock := by
  obtain ⟨D, ⟨es, clock, hb, _⟩, _⟩ := hM
  exact fun e => own_ne_obj h hb (fun _ _ _ g => by cases g) e.symm
theorem read_low {l : List UInt8} {a : Int} (h : a < 0) : readV l a = .tuple #[.string ⟨#[]⟩, .int .i64 0, .int .i64 1] := by
  unfold readV readQ; rw [if_neg (fun g => by omega)]
theorem read_no {l : List UInt8} {i : Nat} (h : ¬ l[i]? = some 34) : readV l (i : Int) = .tuple #[.string ⟨#[]⟩, .int .i64 0, .int .i64 1] := by
  unfold readV readQ; rw [if_neg (fun g => h (by simpa using g.2))]
theorem readQ_yes {l : List UInt8} {i : Nat} (h : l[i]? = some 34) : readQ l (i : Int) = readAt l (i + 1) := by
  unfold readQ; rw [if_pos ⟨by omega, by simpa using h⟩, Int.toNat_natCast]
theorem readV_none {l : List UInt8} {i : Nat} (h : l[i]? = some 34) (hr : readAt l (i + 1) = none) : readV l (i : Int) = .tuple #[.string ⟨#[]⟩, .int .i64 0, .int .i64 1] := by
  unfold readV; rw [readQ_yes h, hr]
theorem readV_some {l : List UInt8} {i e : Nat} {rs : List Int} (h : l[i]? = some 34) (hr : readAt l (i + 1) = some (rs, e)) : readV l (i : Int) = .tuple #[.string ⟨(flat rs).toArray⟩, .int .i64 e, .int .i64 0] := by
  unfold readV; rw [readQ_yes h, hr]
end Go.Proofs.YtelehfefhlgbkaaGreatDoor
/- What stands behind a backslash: the model's answers. -/
namespace Go.Proofs.YtelehfefhlgbkaaGreatDoor
open Go.RowKit
set_option maxRecDepth 100000
theorem str_indexO (l : List UInt8) (i : Nat) (z : Int) (c : UInt8) (k : Int) (hz : z = i) (h : l[i]? = some c) (hk : (c.toNat : Int) = k) (w : World) : (Instr.index 9 (.string ⟨l.toArray⟩) (.int .i64 z)).run Tryz.prog w = .ok (.int .u8 k) w := by
  obtain ⟨hi, e⟩ := List.getElem?_eq_some_iff.1 h
  rw [hx_indexZ l i z hz hi w, e, hk]
theorem unB_cases (c : UInt8) : (c = 34 ∧ unB c = some 34) ∨ (c = 92 ∧ unB c = some 92) ∨ (c = 47 ∧ unB c = some 47) ∨ (c = 98 ∧ unB c = some 8) ∨ (c = 116 ∧ unB c = some 9) ∨ (c = 110 ∧ unB c = some 10) ∨ (c = 102 ∧ unB c = some 12) ∨ (c = 114 ∧ unB c = some 13) ∨ (c = 117 ∧ unB c = none)
    ∨ (((c.toNat : Int) == 34) = false ∧ ((c.toNat : Int) == 92) = false ∧ ((c.toNat : Int) == 47) = false ∧ ((c.toNat : Int) == 98) = false ∧ ((c.toNat : Int) == 116) = false ∧ ((c.toNat : Int) == 110) = false ∧ ((c.toNat : Int) == 102) = false ∧ ((c.toNat : Int) == 114) = false ∧ ((c.toNat : Int) == 117) = false ∧ unB c = none ∧ c ≠ 117) := by
  by_cases h1 : c = 34
  · subst h1; exact .inl ⟨rfl, rfl⟩
  by_cases h2 : c = 92
  · subst h2; exact .inr (.inl ⟨rfl, rfl⟩)
  by_cases h3 : c = 47
  · subst h3; exact .inr (.inr (.inl ⟨rfl, rfl⟩))
  by_cases h4 : c = 98
  · subst h4; exact .inr (.inr (.inr (.inl ⟨rfl, rfl⟩)))
  by_cases h5 : c = 116
  · subst h5; exact .inr (.inr (.inr (.inr (.inl ⟨rfl, rfl⟩))))
  by_cases h6 : c = 110
  · subst h6; exact .inr (.inr (.inr (.inr (.inr (.inl ⟨rfl, rfl⟩)))))
  by_cases h7 : c = 102
  · subst h7; exact .inr (.inr (.inr (.inr (.inr (.inr (.inl ⟨rfl, rfl⟩))))))
  by_cases h8 : c = 114
  · subst h8; exact .inr (.inr (.inr (.inr (.inr (.inr (.inr (.inl ⟨rfl, rfl⟩)))))))
  by_cases h9 : c = 117
  · subst h9; exact .inr (.inr (.inr (.inr (.inr (.inr (.inr (.inr (.inl ⟨rfl, rfl⟩))))))))
  have key : ∀ d : UInt8, c ≠ d → ((c.toNat : Int) == (d.toNat : Int)) = false := by
    intro d hd
    have : c.toNat ≠ d.toNat := fun e => hd (UInt8.toNat_inj.1 e)
    simp; omega
  refine .inr (.inr (.inr (.inr (.inr (.inr (.inr (.inr (.inr ⟨key 34 h1, key 92 h2, key 47 h3, key 98 h4, key 116 h5, key 110 h6, key 102 h7, key 114 h8, key 117 h9, ?_, h9⟩))))))))
  unfold unB
  rw [if_neg h1, if_neg h2, if_neg h3, if_neg h4, if_neg h5, if_neg h6, if_neg h7, if_neg h8]
def charW (c : Option (Int × Nat)) : Value := match c with
  | none => .tuple #[.int .i64 0, .int .i64 0, .bool false]
  | some (n, j) => .tuple #[.int .i64 n, .int .i64 j, .bool true]
set_option maxHeartbeats 4000000 in
/-- what comes of the letter u: the numbered escape -/
theorem num_spec (l : List UInt8) (i : Nat) (w : World) (hl : l.length ≤ 1099511627776) (h7 : l[i]? = some 117) :
    Calls Tryz.prog 65 #[.string ⟨l.toArray⟩, .int .i64 i] w fun e w' => e = .returned (charW (numAt l i)) ∧ w = w' := by
  have hsz := size_l l
  have hil : i < l.length := by
    rcases Nat.lt_or_ge i l.length with h | h
    · exact h
    · rw [List.getElem?_eq_none h] at h7; cases h7
  have hil' : (i : Int) < l.length := by omega
  have hlz : (l.length : Int) ≤ 1099511627776 := by omega
  have ix := str_indexO l i i 117 117 rfl h7 rfl w
  have cf := readfour_spec l ((i : Int) + 1) w hl (by omega) (by omega)
  have hv : fourV l ((i : Int) + 1) = match fourAt l (i + 1) with | none => .tuple #[.int .i64 0, .bool false] | some n => .tuple #[.int .i64 n, .bool true] := by
    have := fourV_in (l := l) (i := i + 1); exact this
  rw [hv] at cf
  have cf7 := readfour_spec l ((i : Int) + 7) w hl (by omega) (by omega)
  have hv7 : fourV l ((i : Int) + 7) = match fourAt l (i + 7) with | none => .tuple #[.int .i64 0, .bool false] | some n => .tuple #[.int .i64 n, .bool true] := by
    have := fourV_in (l := l) (i := i + 7); exact this
  rw [hv7] at cf7
  clear hv hv7
  cases h4 : fourAt l (i + 1) with
  | none =>
    rw [num_four h4]
    rw [h4] at cf
    clear h4 cf7 h7 hil
    generalize (ByteArray.mk l.toArray) = s at *
    go_enter Tryz.func65, Tryz.ntmps65
    go_wp2_with fail
    refine cf.mono ?_
    rintro e w1 ⟨rfl, rfl⟩
    go_wp2
    go_ret3
    exact ⟨rfl, rfl⟩
  | some n =>
    have hr := fourAt_range h4
    have hn0 := hr.1
    have hn1 := hr.2.1
    rw [h4] at cf
    simp only at cf
    by_cases hlow : 56320 ≤ n ∧ n ≤ 57343
    · rw [num_low h4 hlow.1 hlow.2]
      have ci := in_yes n 56320 57343 w hlow.1 hlow.2
      clear h4 cf7 h7 hil hr hlow
      generalize (ByteArray.mk l.toArray) = s at *
      go_enter Tryz.func65, Tryz.ntmps65
      go_wp2_with fail
      refine cf.mono ?_
      rintro e w1 ⟨rfl, rfl⟩
      go_wp2_with fail
      refine ci.mono ?_
      rintro e w1 ⟨rfl, rfl⟩
      go_wp2
      go_ret3
      exact ⟨rfl, rfl⟩
    have ci := in_no n 56320 57343 w (by omega)
    by_cases hsur : 55296 ≤ n ∧ n ≤ 56319
    rotate_left
    · rw [num_one h4 (by omega)]
      have cj := in_no n 55296 56319 w (by omega)
      clear h4 cf7 h7 hr hlow hsur
      generalize (ByteArray.mk l.toArray) = s at *
      go_enter Tryz.func65, Tryz.ntmps65
      go_wp2_with fail
      refine cf.mono ?_
      rintro e w1 ⟨rfl, rfl⟩
      go_wp2_with fail
      refine ci.mono ?_
      rintro e w1 ⟨rfl, rfl⟩
      go_wp2_with fail
      refine cj.mono ?_
      rintro e w1 ⟨rfl, rfl⟩
      go_wp2
      go_ret3
      exact ⟨rfl, rfl⟩
    obtain ⟨hs1, hs2⟩ := hsur
    have cj := in_yes n 55296 56319 w hs1 hs2
    by_cases hend : i + 6 < l.length
    rotate_left
    · rw [num_alone h4 hs1 (by omega) (fun g => by have e6 : l[i + 6]? = none := List.getElem?_eq_none (by omega); rw [e6] at g; cases g.2)]
      have hend' : (l.length : Int) ≤ (i : Int) + 6 := by omega
      clear h4 cf7 h7 hr hlow hend
      generalize (ByteArray.mk l.toArray) = s at *
      go_enter Tryz.func65, Tryz.ntmps65
      go_wp2_with fail
      refine cf.mono ?_
      rintro e w1 ⟨rfl, rfl⟩
      go_wp2_with fail
      refine ci.mono ?_
      rintro e w1 ⟨rfl, rfl⟩
      go_wp2_with fail
      refine cj.mono ?_
      rintro e w1 ⟨rfl, rfl⟩
      go_wp2
      go_ret3
      exact ⟨rfl, rfl⟩
    have hend' : (i : Int) + 6 < l.length := by omega
    have g5 : l[i + 5]? = some (l[i + 5]) := List.getElem?_eq_getElem (by omega)
    have g6 : l[i + 6]? = some (l[i + 6]) := List.getElem?_eq_getElem hend
    have ix5 := str_indexO l (i + 5) ((i : Int) + 5) _ _ (by omega) g5 rfl w
    have ix6 := str_indexO l (i + 6) ((i : Int) + 6) _ _ (by omega) g6 rfl w
    have hb5 : (l[i + 5]).toNat < 256 := UInt8.toNat_lt _
    have hb6 : (l[i + 6]).toNat < 256 := UInt8.toNat_lt _
    generalize l[i + 5] = c5 at *
    generalize l[i + 6] = c6 at *
    by_cases h5 : c5 = 92
    rotate_left
    · rw [num_alone h4 hs1 (by omega) (fun g => by rw [g5] at g; exact h5 (Option.some.inj g.1))]
      have h5' : ((c5.toNat : Int) != 92) = true := by
        have : c5.toNat ≠ (92 : UInt8).toNat := fun e => h5 (UInt8.toNat_inj.1 e)
        have h92 : (92 : UInt8).toNat = 92 := rfl
        simp; omega
      generalize c5.toNat = x5 at *
      clear h4 cf7 h7 hr hlow hend h5 g5 g6 ix6 hb6
      generalize (ByteArray.mk l.toArray) = s at *
      go_enter Tryz.func65, Tryz.ntmps65
      go_wp2_with fail
      refine cf.mono ?_
      rintro e w1 ⟨rfl, rfl⟩
      go_wp2_with fail
      refine ci.mono ?_
      rintro e w1 ⟨rfl, rfl⟩
      go_wp2_with fail
      refine cj.mono ?_
      rintro e w1 ⟨rfl, rfl⟩
      go_wp2
      go_ret3
      exact ⟨rfl, rfl⟩
    subst h5
    have ix5' : (Instr.index 9 (.string ⟨l.toArray⟩) (.int .i64 ((i : Int) + 5))).run Tryz.prog w = .ok (.int .u8 92) w := ix5
    clear ix5 hb5
    by_cases h6 : c6 = 117
    rotate_left
    · rw [num_alone h4 hs1 (by omega) (fun g => by rw [g6] at g; exact h6 (Option.some.inj g.2))]
      have h6' : ((c6.toNat : Int) != 117) = true := by
        have : c6.toNat ≠ (117 : UInt8).toNat := fun e => h6 (UInt8.toNat_inj.1 e)
        have h92 : (117 : UInt8).toNat = 117 := rfl
        simp; omega
      generalize c6.toNat = x6 at *
      clear h4 cf7 h7 hr hlow hend h6 g5 g6
      generalize (ByteArray.mk l.toArray) = s at *
      go_enter Tryz.func65, Tryz.ntmps65
      go_wp2_with fail
      refine cf.mono ?_
      rintro e w1 ⟨rfl, rfl⟩
      go_wp2_with fail
      refine ci.mono ?_
      rintro e w1 ⟨rfl, rfl⟩
      go_wp2_with fail
      refine cj.mono ?_
      rintro e w1 ⟨rfl, rfl⟩
      go_wp2
      go_ret3
      exact ⟨rfl, rfl⟩
    subst h6
    have ix6' : (Instr.index 9 (.string ⟨l.toArray⟩) (.int .i64 ((i : Int) + 6))).run Tryz.prog w = .ok (.int .u8 117) w := ix6
    clear ix6 hb6
    cases h8 : fourAt l (i + 7) with
    | none =>
      rw [num_pair_none h4 hs1 (by omega) g5 g6 h8]
      rw [h8] at cf7
      simp only at cf7
      clear h4 h7 hr hlow hend g5 g6 h8
      generalize (ByteArray.mk l.toArray) = s at *
      go_enter Tryz.func65, Tryz.ntmps65
      go_wp2_with fail
      refine cf.mono ?_
      rintro e w1 ⟨rfl, rfl⟩
      go_wp2_with fail
      refine ci.mono ?_
      rintro e w1 ⟨rfl, rfl⟩
      go_wp2_with fail
      refine cj.mono ?_
      rintro e w1 ⟨rfl, rfl⟩
      go_wp2_with fail
      refine cf7.mono ?_
      rintro e w1 ⟨rfl, rfl⟩
      go_wp2
      go_ret3
      exact ⟨rfl, rfl⟩
    | some m =>
      rw [h8] at cf7
      simp only at cf7
      have hr7 := fourAt_range h8
      have hm0 := hr7.1
      have hm1 := hr7.2.1
      by_cases hm : 56320 ≤ m ∧ m ≤ 57343
      · rw [num_pair_good h4 hs1 (by omega) g5 g6 h8 hm]
        have ck := in_yes m 56320 57343 w hm.1 hm.2
        obtain ⟨hm2, hm3⟩ := hm
        clear h4 h7 hr hlow hend g5 g6 h8 hr7
        generalize (ByteArray.mk l.toArray) = s at *
        go_enter Tryz.func65, Tryz.ntmps65
        go_wp2_with fail
        refine cf.mono ?_
        rintro e w1 ⟨rfl, rfl⟩
        go_wp2_with fail
        refine ci.mono ?_
        rintro e w1 ⟨rfl, rfl⟩
        go_wp2_with fail
        refine cj.mono ?_
        rintro e w1 ⟨rfl, rfl⟩
        go_wp2_with fail
        refine cf7.mono ?_
        rintro e w1 ⟨rfl, rfl⟩
        go_wp2_with fail
        refine ck.mono ?_
        rintro e w1 ⟨rfl, rfl⟩
        go_wp2
        go_ret3
        refine ⟨?_, rfl⟩
        show Ending.returned (.tuple #[.int .i64 (65536 + 1024 * (n - 55296) + m - 56320), _, _]) = .returned (.tuple #[.int .i64 (65536 + 1024 * (n - 55296) + (m - 56320)), _, _])
        rw [show 65536 + 1024 * (n - 55296) + m - 56320 = 65536 + 1024 * (n - 55296) + (m - 56320) by omega]
        rfl
      · rw [num_pair_bad h4 hs1 (by omega) g5 g6 h8 hm]
        have ck := in_no m 56320 57343 w (by omega)
        clear h4 h7 hr hlow hend g5 g6 h8 hr7 hm
        generalize (ByteArray.mk l.toArray) = s at *
        go_enter Tryz.func65, Tryz.ntmps65
        go_wp2_with fail
        refine cf.mono ?_
        rintro e w1 ⟨rfl, rfl⟩
        go_wp2_with fail
        refine ci.mono ?_
        rintro e w1 ⟨rfl, rfl⟩
        go_wp2_with fail
        refine cj.mono ?_
        rintro e w1 ⟨rfl, rfl⟩
        go_wp2_with fail
        refine cf7.mono ?_
        rintro e w1 ⟨rfl, rfl⟩
        go_wp2_with fail
        refine ck.mono ?_
        rintro e w1 ⟨rfl, rfl⟩
        go_wp2
        go_ret3
        exact ⟨rfl, rfl⟩
set_option maxHeartbeats 4000000 in
theorem escape_spec (l : List UInt8) (i : Nat) (w : World) (hl : l.length ≤ 1099511627776) (hi : i ≤ l.length) :
    Calls Tryz.prog 65 #[.string ⟨l.toArray⟩, .int .i64 i] w fun e w' => e = .returned (charW (escAt l i)) ∧ w = w' := by
  have hsz := size_l l
  by_cases hil : i < l.length
  rotate_left
  · rw [esc_end (by omega)]
    have hil' : (l.length : Int) ≤ i := by omega
    generalize (ByteArray.mk l.toArray) = s at *
    clear hil
    go_enter Tryz.func65, Tryz.ntmps65
    go_wp2
    go_ret3
    exact ⟨rfl, rfl⟩
  have hil' : (i : Int) < l.length := by omega
  have hlz : (l.length : Int) ≤ 1099511627776 := by omega
  have g0 : l[i]? = some (l[i]) := List.getElem?_eq_getElem hil
  have ix := str_indexO l i i _ _ rfl g0 rfl w
  have hee := esc_at hil
  have cn := fun h => num_spec l i w hl h
  have hb : (l[i]).toNat < 256 := UInt8.toNat_lt _
  generalize l[i] = c at *
  rcases unB_cases c with ⟨rfl, e⟩ | ⟨rfl, e⟩ | ⟨rfl, e⟩ | ⟨rfl, e⟩ | ⟨rfl, e⟩ | ⟨rfl, e⟩ | ⟨rfl, e⟩ | ⟨rfl, e⟩ | ⟨rfl, e⟩ | ⟨h1, h2, h3, h4, h5, h6, h7, h8, h9, e, hne⟩
  case' inr.inr.inr.inr.inr.inr.inr.inr.inl =>
    rw [hee, e]
    simp only [if_pos]
    exact cn g0
  case' inr.inr.inr.inr.inr.inr.inr.inr.inr =>
    rw [hee, e]
    simp only [if_neg hne]
    generalize c.toNat = x at *
    clear hee cn g0 e hne hil
    generalize (ByteArray.mk l.toArray) = s at *
    go_enter Tryz.func65, Tryz.ntmps65
    go_wp2
    go_ret3
    exact ⟨rfl, rfl⟩
  all_goals
    rw [hee, e]
    simp only [UInt8.reduceToNat] at ix
    clear hee cn g0 e hil hb
    generalize (ByteArray.mk l.toArray) = s at *
    go_enter Tryz.func65, Tryz.ntmps65
    go_wp2
    go_ret3
    exact ⟨rfl, rfl⟩
end Go.Proofs.YtelehfefhlgbkaaGreatDoor
