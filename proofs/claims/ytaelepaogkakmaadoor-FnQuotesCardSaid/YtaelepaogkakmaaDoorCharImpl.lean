/- One character of a quoted string: the program's answers. -/
import Derived.Test.YtaelepaogkakmaaDoorReadFour
import Derived.Test.YtaelepaogkakmaaDoorLetters
import Derived.Test.YtaelepaogkakmaaDoorEnv
import Derived.Test.YtaelepaogkakmaaDoorByteIn
import Derived.Test.YtaelepaogkakmaaDoorTextOk
namespace Go.Proofs.YtaelepaogkakmaaDoor
open Go.RowKit Go.Maps
set_option maxRecDepth 100000
def charV (c : Option (Int × Nat)) : Value := match c with
  | none => .tuple #[.int .i64 0, .int .i64 0, .bool false]
  | some (n, j) => .tuple #[.int .i64 n, .int .i64 j, .bool true]
theorem inS_one' (l : List UInt8) (c : UInt8) (i : Nat) : inS l [c] i = decide (l[i]? = some c) := by
  rcases Nat.lt_or_ge i l.length with h | h
  · rw [inS_get h, List.getElem?_eq_getElem h]
    by_cases e : l[i] = c
    · subst e; simp
    · have : ¬ (some l[i] = some c) := fun g => e (Option.some.inj g)
      rw [decide_eq_false this]; simp; exact e
  · rw [inS_out h, List.getElem?_eq_none h]; simp
theorem plain_impl (l : List UInt8) (i : Nat) (w : World) (hl : l.length ≤ 1099511627776) (hi : i ≤ l.length) (hE : Env w) (h92 : ¬ l[i]? = some 92) :
    Calls Tryd.prog 57 #[.string ⟨l.toArray⟩, .int .i64 i] w fun e w' => e = .returned (charV (charAt l i)) ∧ Below w.heap.size w w' := by
  have hsz := size_l l
  by_cases hp : i < l.length
  · have cd := decode_string l i hp w hE.1
    have hwd := dec_pos hp
    have hle : (dec l i).1 ≤ 2147483647 := by have := (dec_shape l i hp).1; omega
    have hR : charAt l i = if dec l i = (65533, 1) then none else if (dec l i).1 < 32 then none else some (((dec l i).1 : Int), i + (dec l i).2) := by
      by_cases hb : dec l i = (65533, 1)
      · rw [if_pos hb, char_bad h92 hb]
      · rw [if_neg hb]
        by_cases h32 : (dec l i).1 < 32
        · rw [if_pos h32, char_low h92 h32]
        · rw [if_neg h32, char_plain hp h92 hb (by omega)]
    rw [hR]
    clear hR h92 hE
    have hz : (i : Int) ≤ l.length := by omega
    generalize hg : dec l i = d at *
    obtain ⟨r, k⟩ := d
    simp only at cd hwd hle ⊢
    clear hg
    generalize (ByteArray.mk l.toArray) = s at *
    by_cases hr : r = 65533
    · subst hr
      by_cases hk : k = 1
      · subst hk
        rw [if_pos rfl]
        go_enter Tryd.func57, Tryd.ntmps57
        go_wp2_with fail
        refine cd.mono ?_
        rintro e w1 ⟨rfl, b1⟩
        go_wp2
        go_ret3
        exact ⟨rfl, b1⟩
      · rw [if_neg (by intro e; injection e with _ e; exact hk e), if_neg (by omega)]
        have hk1 : (1 : Int) < k := by omega
        have hik : (i : Int) + k ≤ l.length := by omega
        clear hk
        go_enter Tryd.func57, Tryd.ntmps57
        go_wp2_with fail
        refine cd.mono ?_
        rintro e w1 ⟨rfl, b1⟩
        go_wp2
        go_ret3
        exact ⟨rfl, b1⟩
    · rw [if_neg (by intro e; injection e with e _; exact hr e)]
      have hr2 : ((r : Int) == 65533) = false := by simp; omega
      have hik : (i : Int) + k ≤ l.length := by omega
      by_cases h32 : r < 32
      · rw [if_pos h32]
        have h32' : (r : Int) < 32 := by omega
        clear hr
        go_enter Tryd.func57, Tryd.ntmps57
        go_wp2_with fail
        refine cd.mono ?_
        rintro e w1 ⟨rfl, b1⟩
        go_wp2
        go_ret3
        exact ⟨rfl, b1⟩
      · rw [if_neg h32]
        have h32' : (32 : Int) ≤ r := by omega
        have hle' : (r : Int) ≤ 2147483647 := by omega
        clear hr h32
        go_enter Tryd.func57, Tryd.ntmps57
        go_wp2_with fail
        refine cd.mono ?_
        rintro e w1 ⟨rfl, b1⟩
        go_wp2
        go_ret3
        exact ⟨rfl, b1⟩
  · have hil : i = l.length := by omega
    have cd := decode_string_end l i hil w hE.1
    rw [char_end (Nat.le_of_eq hil.symm)]
    have hz : (i : Int) ≤ l.length := by omega
    generalize (ByteArray.mk l.toArray) = s at *
    clear h92 hE hp hil
    go_enter Tryd.func57, Tryd.ntmps57
    go_wp2_with fail
    refine cd.mono ?_
    rintro e w1 ⟨rfl, b1⟩
    go_wp2
    go_ret3
    exact ⟨rfl, b1⟩
def numEsc (l : List UInt8) (i : Nat) : Option (Int × Nat) := if l[i]? = some 92 ∧ l[i + 1]? = some 117 then (fourAt l (i + 2)).map (fun n => (n, i + 6)) else none
theorem pre_u (l : List UInt8) (i : Nat) : Lib.hasPrefix (l.drop i) [92, 117] = decide (l[i]? = some 92 ∧ l[i + 1]? = some 117) := by
  unfold Lib.hasPrefix
  have h0 : l[i]? = (l.drop i)[0]? := by simp
  have h1 : l[i + 1]? = (l.drop i)[1]? := by simp
  rw [h0, h1]
  match l.drop i with
  | [] => rfl
  | [a] => simp [List.isPrefixOf]
  | a :: b :: r =>
    by_cases ha : a = 92
    · subst ha
      by_cases hb : b = 117
      · subst hb; rfl
      · have h2 : ((117 : UInt8) == b) = false := by simp; exact fun h => hb h.symm
        rw [decide_eq_false (by intro h; exact hb (Option.some.inj h.2))]
        show (((92 : UInt8) == 92) && (((117 : UInt8) == b) && List.isPrefixOf [] r)) = false
        rw [h2]; rfl
    · have h2 : ((92 : UInt8) == a) = false := by simp; exact fun h => ha h.symm
      rw [decide_eq_false (by intro h; exact ha (Option.some.inj h.1))]
      show (((92 : UInt8) == a) && List.isPrefixOf [117] (b :: r)) = false
      rw [h2]; rfl
theorem numesc_impl (l : List UInt8) (i : Nat) (w : World) (hl : l.length ≤ 1099511627776) (hi : i ≤ l.length) (hE : Env w) :
    Calls Tryd.prog 70 #[.string ⟨l.toArray⟩, .int .i64 i] w fun e w' => e = .returned (charV (numEsc l i)) ∧ Below w.heap.size w w' := by
  have hsz := size_l l
  have hp := Tryd.strings_HasPrefix ((ByteArray.mk l.toArray).extract i l.length) ⟨#[92, 117]⟩ w
  rw [data_l _ _ _ (by omega), show (ByteArray.mk #[92, 117]).data.toList = [92, 117] from rfl, pre_u] at hp
  obtain ⟨_, ts, ps, hS⟩ := hE
  have cf := readfour_impl l (i + 2) w hl (by omega) (by omega) ts ps hS
  have hz : (i : Int) ≤ l.length := by omega
  unfold numEsc
  by_cases hu : l[i]? = some 92 ∧ l[i + 1]? = some 117
  · rw [decide_eq_true hu] at hp
    rw [if_pos hu]
    have hv : fourV l ((i : Int) + 2) = match fourAt l (i + 2) with | none => .tuple #[.int .i64 0, .bool false] | some n => .tuple #[.int .i64 n, .bool true] := by
      have := fourV_in (l := l) (i := i + 2); exact this
    rw [hv] at cf
    clear hv hu hS
    cases h4 : fourAt l (i + 2) with
    | none =>
      rw [h4] at cf
      generalize (ByteArray.mk l.toArray) = s at *
      clear h4
      go_enter Tryd.func70, Tryd.ntmps70
      go_wp2_with fail
      refine hp.mono ?_
      rintro e w1 ⟨rfl, rfl⟩
      go_wp2_with fail
      refine cf.mono ?_
      rintro e w2 ⟨rfl, b2⟩
      go_wp2
      go_ret3
      exact ⟨rfl, b2⟩
    | some n =>
      rw [h4] at cf
      generalize (ByteArray.mk l.toArray) = s at *
      clear h4
      go_enter Tryd.func70, Tryd.ntmps70
      go_wp2_with fail
      refine hp.mono ?_
      rintro e w1 ⟨rfl, rfl⟩
      go_wp2_with fail
      refine cf.mono ?_
      rintro e w2 ⟨rfl, b2⟩
      go_wp2
      go_ret3
      exact ⟨rfl, b2⟩
  · rw [decide_eq_false hu] at hp
    rw [if_neg hu]
    generalize (ByteArray.mk l.toArray) = s at *
    clear hu hS cf
    go_enter Tryd.func70, Tryd.ntmps70
    go_wp2_with fail
    refine hp.mono ?_
    rintro e w1 ⟨rfl, rfl⟩
    go_wp2
    go_ret3
    exact ⟨rfl, Below.refl _ _⟩
end Go.Proofs.YtaelepaogkakmaaDoor
