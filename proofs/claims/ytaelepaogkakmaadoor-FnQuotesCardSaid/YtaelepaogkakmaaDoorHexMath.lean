/- Hexadecimal digits: plain facts. -/
import Derived.Test.YtaelepaogkakmaaDoorRows
namespace Go.Proofs.YtaelepaogkakmaaDoor
/-- the digit of x -/
def hexd (x : Nat) : UInt8 := if x < 10 then UInt8.ofNat (48 + x) else UInt8.ofNat (87 + x)
def hexL (l : List UInt8) : List UInt8 := l.flatMap fun c => [hexd (c.toNat / 16), hexd (c.toNat % 16)]
theorem hexL_nil : hexL [] = [] := rfl
theorem hexL_append (a b : List UInt8) : hexL (a ++ b) = hexL a ++ hexL b := by simp [hexL]
theorem hexL_take (l : List UInt8) (i : Nat) (h : i < l.length) : hexL (l.take (i + 1)) = hexL (l.take i) ++ [hexd (l[i].toNat / 16), hexd (l[i].toNat % 16)] := by
  rw [List.take_succ_eq_append_getElem h, hexL_append]
  rfl
theorem hexL_len (l : List UInt8) : (hexL l).length = 2 * l.length := by
  induction l with
  | nil => rfl
  | cons c l ih =>
    have : hexL (c :: l) = [hexd (c.toNat / 16), hexd (c.toNat % 16)] ++ hexL l := rfl
    rw [this, List.length_append, ih, List.length_cons]
    simp
    omega
/-- the number of a digit; -1: it is none -/
def hexv (c : UInt8) : Int := if 48 ≤ c.toNat ∧ c.toNat ≤ 57 then c.toNat - 48 else if 97 ≤ c.toNat ∧ c.toNat ≤ 102 then c.toNat - 87 else -1
theorem hexv_hexd (x : Nat) (h : x < 16) : hexv (hexd x) = x := by
  have h1 : x = 0 ∨ x = 1 ∨ x = 2 ∨ x = 3 ∨ x = 4 ∨ x = 5 ∨ x = 6 ∨ x = 7 ∨ x = 8 ∨ x = 9 ∨ x = 10 ∨ x = 11 ∨ x = 12 ∨ x = 13 ∨ x = 14 ∨ x = 15 := by omega
  rcases h1 with rfl | rfl | rfl | rfl | rfl | rfl | rfl | rfl | rfl | rfl | rfl | rfl | rfl | rfl | rfl | rfl <;> decide
theorem hexv_range (c : UInt8) : -1 ≤ hexv c ∧ hexv c ≤ 15 := by unfold hexv; split <;> (try split) <;> omega
theorem hexd_hexv (c : UInt8) (h : 0 ≤ hexv c) : hexd (hexv c).toNat = c := by
  have e : UInt8.ofNat c.toNat = c := by simp
  unfold hexv at h ⊢
  by_cases h1 : 48 ≤ c.toNat ∧ c.toNat ≤ 57
  · rw [if_pos h1] at h ⊢
    unfold hexd
    rw [if_pos (by omega), show 48 + ((c.toNat : Int) - 48).toNat = c.toNat by omega, e]
  · rw [if_neg h1] at h ⊢
    by_cases h2 : 97 ≤ c.toNat ∧ c.toNat ≤ 102
    · rw [if_pos h2] at h ⊢
      unfold hexd
      rw [if_neg (by omega), show 87 + ((c.toNat : Int) - 87).toNat = c.toNat by omega, e]
    · rw [if_neg h2] at h; omega
/-- the bytes that digits stand for -/
def unhex : List UInt8 → Option (List UInt8)
  | [] => some []
  | [_] => none
  | a :: b :: r => if 0 ≤ hexv a ∧ 0 ≤ hexv b then (unhex r).map fun l => UInt8.ofNat (16 * hexv a + hexv b).toNat :: l else none
theorem unhex_hexL : ∀ l : List UInt8, unhex (hexL l) = some l
  | [] => rfl
  | c :: l => by
    have hc : c.toNat < 256 := UInt8.toNat_lt c
    have h1 := hexv_hexd (c.toNat / 16) (by omega)
    have h2 := hexv_hexd (c.toNat % 16) (by omega)
    have e : hexL (c :: l) = hexd (c.toNat / 16) :: hexd (c.toNat % 16) :: hexL l := rfl
    rw [e, unhex, unhex_hexL l, h1, h2, if_pos (by omega)]
    have e2 : (16 * ((c.toNat / 16 : Nat) : Int) + ((c.toNat % 16 : Nat) : Int)).toNat = c.toNat := by omega
    rw [e2]
    simp
theorem hexL_unhex : ∀ (n : Nat) (l r : List UInt8), l.length ≤ n → unhex l = some r → hexL r = l
  | _, [], r, _, h => by simp [unhex] at h; subst h; rfl
  | _, [a], r, _, h => by simp [unhex] at h
  | 0, a :: b :: l, r, hn, h => by simp at hn
  | n + 1, a :: b :: l, r, hn, h => by
    rw [unhex] at h
    by_cases hab : 0 ≤ hexv a ∧ 0 ≤ hexv b
    · rw [if_pos hab] at h
      cases hu : unhex l with
      | none => rw [hu] at h; simp at h
      | some r' =>
        rw [hu] at h
        simp only [Option.map_some, Option.some.injEq] at h
        subst h
        have ih := hexL_unhex n l r' (by simp at hn; omega) hu
        have ra := hexv_range a
        have rb := hexv_range b
        have e0 : (UInt8.ofNat (16 * hexv a + hexv b).toNat).toNat = (16 * hexv a + hexv b).toNat := by
          have : (UInt8.ofNat (16 * hexv a + hexv b).toNat).toNat = (16 * hexv a + hexv b).toNat % 256 := by simp
          omega
        have e : hexL (UInt8.ofNat (16 * hexv a + hexv b).toNat :: r') = hexd ((UInt8.ofNat (16 * hexv a + hexv b).toNat).toNat / 16) :: hexd ((UInt8.ofNat (16 * hexv a + hexv b).toNat).toNat % 16) :: hexL r' := rfl
        rw [e, ih, e0]
        have e1 : (16 * hexv a + hexv b).toNat / 16 = (hexv a).toNat := by omega
        have e2 : (16 * hexv a + hexv b).toNat % 16 = (hexv b).toNat := by omega
        rw [e1, e2, hexd_hexv a hab.1, hexd_hexv b hab.2]
    · rw [if_neg hab] at h; simp at h
theorem unhex_len : ∀ (n : Nat) (l r : List UInt8), l.length ≤ n → unhex l = some r → l.length = 2 * r.length := by
  intro n l r hn h
  rw [← hexL_unhex n l r hn h, hexL_len]
/-- a pair at place 2 i -/
theorem unhex_step (l : List UInt8) (i : Nat) (h : 2 * i + 1 < l.length) : unhex (l.drop (2 * i)) = if 0 ≤ hexv l[2 * i] ∧ 0 ≤ hexv l[2 * i + 1] then (unhex (l.drop (2 * (i + 1)))).map (fun r => UInt8.ofNat (16 * hexv l[2 * i] + hexv l[2 * i + 1]).toNat :: r) else none := by
  rw [List.drop_eq_getElem_cons (by omega : 2 * i < l.length), List.drop_eq_getElem_cons h, unhex]
  rfl
theorem unhex_end (l : List UInt8) (i : Nat) (h : ¬ 2 * i + 1 < l.length) (hi : 2 * i ≤ l.length) : unhex (l.drop (2 * i)) = if l.length = 2 * i then some [] else none := by
  by_cases e : l.length = 2 * i
  · rw [List.drop_eq_nil_of_le (by omega), if_pos e]; rfl
  · rw [List.drop_eq_getElem_cons (by omega), List.drop_eq_nil_of_le (by omega), if_neg e]; rfl
end Go.Proofs.YtaelepaogkakmaaDoor
