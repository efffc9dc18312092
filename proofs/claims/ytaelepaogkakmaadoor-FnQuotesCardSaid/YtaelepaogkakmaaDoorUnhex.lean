/- The bytes that hexadecimal digits stand for: the program's and the model's answers. -/
import Derived.Test.YtaelepaogkakmaaDoorHex
import Derived.Test.YtaelepaogkakmaaDoorShelf
namespace Go.Proofs.YtaelepaogkakmaaDoor
open Go.RowKit
def unhexT (l : List UInt8) : Value := match unhex l with
  | some r => .tuple #[.string ⟨r.toArray⟩, .bool true]
  | none => .tuple #[.string ⟨#[]⟩, .bool false]
theorem unhexT_some {l r : List UInt8} (h : unhex l = some r) : unhexT l = .tuple #[.string ⟨r.toArray⟩, .bool true] := by unfold unhexT; rw [h]
theorem unhexT_none {l : List UInt8} (h : unhex l = none) : unhexT l = .tuple #[.string ⟨#[]⟩, .bool false] := by unfold unhexT; rw [h]
theorem hex_find (c : UInt8) : Lib.indexByte [48, 49, 50, 51, 52, 53, 54, 55, 56, 57, 97, 98, 99, 100, 101, 102] c = hexv c := by
  have : ∀ n : Fin 256, Lib.indexByte [48, 49, 50, 51, 52, 53, 54, 55, 56, 57, 97, 98, 99, 100, 101, 102] (UInt8.ofNat n.val) = hexv (UInt8.ofNat n.val) := by decide +kernel
  have h := this ⟨c.toNat, UInt8.toNat_lt c⟩
  simpa using h
def pre (l : List UInt8) (i : Nat) (p : List UInt8) : Prop := p.length = i ∧ 2 * i ≤ l.length ∧ unhex l = (unhex (l.drop (2 * i))).map (p ++ ·)
theorem pre_start (l : List UInt8) : pre l 0 [] := ⟨rfl, Nat.zero_le _, by simp⟩
theorem pre_step {l p : List UInt8} {i : Nat} (h : pre l i p) (hi : 2 * i + 1 < l.length) (h1 : 0 ≤ hexv l[2 * i]) (h2 : 0 ≤ hexv l[2 * i + 1]) : pre l (i + 1) (p ++ [UInt8.ofNat (16 * hexv l[2 * i] + hexv l[2 * i + 1]).toNat]) := by
  obtain ⟨a, b, c⟩ := h
  refine ⟨by simp [a], by omega, ?_⟩
  rw [c, unhex_step l i hi, if_pos ⟨h1, h2⟩, Option.map_map]
  congr 1
  funext r
  simp
theorem prex_bad {l p : List UInt8} {i : Nat} (h : pre l i p) (hi : 2 * i + 1 < l.length) (h1 : ¬ (0 ≤ hexv l[2 * i] ∧ 0 ≤ hexv l[2 * i + 1])) : unhex l = none := by
  obtain ⟨a, b, c⟩ := h
  rw [c, unhex_step l i hi, if_neg h1]
  rfl
theorem pre_end {l p : List UInt8} {i : Nat} (h : pre l i p) (hi : ¬ 2 * i + 1 < l.length) (he : l.length = 2 * i) : unhex l = some p := by
  obtain ⟨a, b, c⟩ := h
  rw [c, unhex_end l i hi b, if_pos he]
  simp
theorem pre_odd {l p : List UInt8} {i : Nat} (h : pre l i p) (hi : ¬ 2 * i + 1 < l.length) (he : ¬ l.length = 2 * i) : unhex l = none := by
  obtain ⟨a, b, c⟩ := h
  rw [c, unhex_end l i hi b, if_neg he]
  rfl
theorem unhex_odd : ∀ (n : Nat) (l : List UInt8), l.length ≤ n → l.length % 2 = 1 → unhex l = none
  | _, [], _, h => by simp at h
  | _, [a], _, h => rfl
  | 0, a :: b :: l, hn, h => by simp at hn
  | n + 1, a :: b :: l, hn, h => by
    rw [unhex, unhex_odd n l (by simp at hn; omega) (by simp at h; omega)]
    split <;> rfl
theorem find_any (x : UInt8) (w : World) : Calls Tryd.prog 56 #[.string ⟨#[48, 49, 50, 51, 52, 53, 54, 55, 56, 57, 97, 98, 99, 100, 101, 102]⟩, .int .u8 x.toNat] w fun e w' => e = .returned (.int .i64 (hexv x)) ∧ w = w' := by
  have := Tryd.strings_IndexByte ⟨#[48, 49, 50, 51, 52, 53, 54, 55, 56, 57, 97, 98, 99, 100, 101, 102]⟩ x.toNat w
  have e : (x.toNat : Int).toNat.toUInt8 = x := by simp
  rw [e, show (ByteArray.mk #[48, 49, 50, 51, 52, 53, 54, 55, 56, 57, 97, 98, 99, 100, 101, 102]).data.toList = [48, 49, 50, 51, 52, 53, 54, 55, 56, 57, 97, 98, 99, 100, 101, 102] from rfl, hex_find] at this
  exact this.mono fun _ _ h => ⟨h.1, h.2.symm⟩
theorem l3hex_any (x : UInt8) (w : World) : Calls Tryd.prog 65 #[.int .u8 x.toNat] w fun e w' => e = .returned (.int .i64 (hexv x)) ∧ w = w' := by
  have hx : (x.toNat : Int) < 256 := by have : x.toNat < 256 := UInt8.toNat_lt x; omega
  by_cases h1 : 48 ≤ x.toNat ∧ x.toNat ≤ 57
  · have e : hexv x = x.toNat - 48 := by unfold hexv; rw [if_pos h1]
    rw [e]
    have a1 : (48 : Int) ≤ x.toNat := by omega
    have a2 : (x.toNat : Int) ≤ 57 := by omega
    generalize x.toNat = n at *
    clear h1 e
    go_enter Tryd.func65, Tryd.ntmps65
    go_wp2_with (go_at_call 53; refine (in_yes _ _ _ _ a1 a2).mono ?_; rintro e w' ⟨rfl, rfl⟩)
    go_ret
    exact ⟨rfl, rfl⟩
  by_cases h2 : 97 ≤ x.toNat ∧ x.toNat ≤ 102
  · have e : hexv x = x.toNat - 87 := by unfold hexv; rw [if_neg h1, if_pos h2]
    rw [e]
    have a1 : (97 : Int) ≤ x.toNat := by omega
    have a2 : (x.toNat : Int) ≤ 102 := by omega
    generalize x.toNat = n at *
    clear h1 h2 e
    have c1 := in_no n 48 57 w (by omega)
    have c2 := in_yes n 97 102 w a1 a2
    go_enter Tryd.func65, Tryd.ntmps65
    go_wp2_with fail
    refine c1.mono ?_
    rintro e w' ⟨rfl, rfl⟩
    go_wp2_with fail
    refine c2.mono ?_
    rintro e w' ⟨rfl, rfl⟩
    go_wp2
    go_ret
    exact ⟨ret_int (by omega), rfl⟩
  · have e : hexv x = -1 := by unfold hexv; rw [if_neg h1, if_neg h2]
    rw [e]
    generalize x.toNat = n at *
    have c1 := in_no n 48 57 w (by omega)
    have c2 := in_no n 97 102 w (by omega)
    clear h1 h2 e
    go_enter Tryd.func65, Tryd.ntmps65
    go_wp2_with fail
    refine c1.mono ?_
    rintro e w' ⟨rfl, rfl⟩
    go_wp2_with fail
    refine c2.mono ?_
    rintro e w' ⟨rfl, rfl⟩
    go_wp2
    go_ret
    exact ⟨rfl, rfl⟩
theorem str_indexZ (l : List UInt8) (i : Nat) (z : Int) (hz : z = i) (h : i < l.length) (w : World) : (Instr.index 9 (.string ⟨l.toArray⟩) (.int .i64 z)).run Tryd.prog w = .ok (.int .u8 (l[i]).toNat) w := by subst hz; exact str_index l i h w
theorem hex_byte {a b : Int} (ha : 0 ≤ a) (ha2 : a ≤ 15) (hb : 0 ≤ b) (hb2 : b ≤ 15) : bv [UInt8.ofNat (16 * a + b).toNat] = [.int .u8 (16 * a + b)] := by
  have : (UInt8.ofNat (16 * a + b).toNat).toNat = (16 * a + b).toNat % 256 := by simp
  simp only [bv, List.map_cons, List.map_nil, this]
  congr 2
  omega
end Go.Proofs.YtaelepaogkakmaaDoor
