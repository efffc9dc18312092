/- The bytes that hexadecimal digits stand for: the program's and the model's answers. -/
import Derived.Test.YtnbknhbboofiiaaHex
import Derived.Test.YtnbknhbboofiiaaShelf
namespace Go.Proofs.Ytnbknhbboofiiaa
open Go.RowKit
def unhexT (l : List UInt8) : Value := match unhex l with
  | some r => .tuple #[.string ⟨r.toArray⟩, .bool true]
  | none => .tuple #[.string ⟨#[]⟩, .bool false]
theorem unhexT_some {l r : List UInt8} (h : unhex l = some r) : unhexT l = .tuple #[.string ⟨r.toArray⟩, .bool true] := by unfold unhexT; rw [h]
theorem unhexT_none {l : List UInt8} (h : unhex l = none) : unhexT l = .tuple #[.string ⟨#[]⟩, .bool false] := by unfold unhexT; rw [h]
theorem hex_find (c : UInt8) : Lib.indexByte [48, 49, 50, 51, 52, 53, 54, 55, 56, 57, 97, 98, 99, 100, 101, 102] c = hexv c := by
  have : ∀ n : Fin 256, Lib.indexByte [48, 49, 50, 51, 52, 53, 54, 55, 56, 57, 97, 98, 99, 100, 101, 102] (UInt8.ofNat n.val) = hexv (UInt8.ofNat n.val) := by decide +kernel
  have h := this ⟨c.toNat, UInt8.toNat_lt c⟩
  simpa using h
def pre (l : List UInt8) (i : Nat) (p : List UInt8) : Prop := p.length = i ∧ 2 * i ≤ l.length ∧ unhex l = (unhex (l.drop (2 * i))).map (p ++ ·)
theorem pre_start (l : List UInt8) : pre l 0 [] := ⟨rfl, Nat.zero_le _, by simp⟩
theorem pre_step {l p : List UInt8} {i : Nat} (h : pre l i p) (hi : 2 * i + 1 < l.length) (h1 : 0 ≤ hexv l[2 * i]) (h2 : 0 ≤ hexv l[2 * i + 1]) : pre l (i + 1) (p ++ [UInt8.ofNat (16 * hexv l[2 * i] + hexv l[2 * i + 1]).toNat]) := by
  obtain ⟨a, b, c⟩ := h
  refine ⟨by simp [a], by omega, ?_⟩
  rw [c, unhex_step l i hi, if_pos ⟨h1, h2⟩, Option.map_map]
  congr 1
  funext r
  simp
theorem pre_bad {l p : List UInt8} {i : Nat} (h : pre l i p) (hi : 2 * i + 1 < l.length) (h1 : ¬ (0 ≤ hexv l[2 * i] ∧ 0 ≤ hexv l[2 * i + 1])) : unhex l = none := by
  obtain ⟨a, b, c⟩ := h
  rw [c, unhex_step l i hi, if_neg h1]
  rfl
theorem pre_end {l p : List UInt8} {i : Nat} (h : pre l i p) (hi : ¬ 2 * i + 1 < l.length) (he : l.length = 2 * i) : unhex l = some p := by
  obtain ⟨a, b, c⟩ := h
  rw [c, unhex_end l i hi b, if_pos he]
  simp
theorem pre_odd {l p : List UInt8} {i : Nat} (h : pre l i p) (hi : ¬ 2 * i + 1 < l.length) (he : ¬ l.length = 2 * i) : unhex l = none := by
  obtain ⟨a, b, c⟩ := h
  rw [c, unhex_end l i hi b, if_neg he]
  rfl
theorem unhex_odd : ∀ (n : Nat) (l : List UInt8), l.length ≤ n → l.length % 2 = 1 → unhex l = none
  | _, [], _, h => by simp at h
  | _, [a], _, h => rfl
  | 0, a :: b :: l, hn, h => by simp at hn
  | n + 1, a :: b :: l, hn, h => by
    rw [unhex, unhex_odd n l (by simp at hn; omega) (by simp at h; omega)]
    split <;> rfl
theorem find_any (x : UInt8) (w : World) : Calls Try.prog 49 #[.string ⟨#[48, 49, 50, 51, 52, 53, 54, 55, 56, 57, 97, 98, 99, 100, 101, 102]⟩, .int .u8 x.toNat] w fun e w' => e = .returned (.int .i64 (hexv x)) ∧ w = w' := by
  have := Try.strings_IndexByte ⟨#[48, 49, 50, 51, 52, 53, 54, 55, 56, 57, 97, 98, 99, 100, 101, 102]⟩ x.toNat w
  have e : (x.toNat : Int).toNat.toUInt8 = x := by simp
  rw [e, show (ByteArray.mk #[48, 49, 50, 51, 52, 53, 54, 55, 56, 57, 97, 98, 99, 100, 101, 102]).data.toList = [48, 49, 50, 51, 52, 53, 54, 55, 56, 57, 97, 98, 99, 100, 101, 102] from rfl, hex_find] at this
  exact this.mono fun _ _ h => ⟨h.1, h.2.symm⟩
theorem l3hex_any (x : UInt8) (w : World) : Calls Try.prog 50 #[.int .u8 x.toNat] w fun e w' => e = .returned (.int .i64 (hexv x)) ∧ w = w' := by
  have hx : (x.toNat : Int) < 256 := by have : x.toNat < 256 := UInt8.toNat_lt x; omega
  by_cases h1 : 48 ≤ x.toNat ∧ x.toNat ≤ 57
  · have e : hexv x = x.toNat - 48 := by unfold hexv; rw [if_pos h1]
    rw [e]
    have a1 : (48 : Int) ≤ x.toNat := by omega
    have a2 : (x.toNat : Int) ≤ 57 := by omega
    generalize x.toNat = n at *
    clear h1 e
    go_enter Try.func50, Try.ntmps50
    go_wp2_with (go_at_call 55; refine (in_yes _ _ _ _ a1 a2).mono ?_; rintro e w' ⟨rfl, rfl⟩)
    go_ret
    exact ⟨rfl, rfl⟩
  by_cases h2 : 97 ≤ x.toNat ∧ x.toNat ≤ 102
  · have e : hexv x = x.toNat - 87 := by unfold hexv; rw [if_neg h1, if_pos h2]
    rw [e]
    have a1 : (97 : Int) ≤ x.toNat := by omega
    have a2 : (x.toNat : Int) ≤ 102 := by omega
    generalize x.toNat = n at *
    clear h1 h2 e
    have c1 := in_no n 48 57 w (by omega)
    have c2 := in_yes n 97 102 w a1 a2
    go_enter Try.func50, Try.ntmps50
    go_wp2_with fail
    refine c1.mono ?_
    rintro e w' ⟨rfl, rfl⟩
    go_wp2_with fail
    refine c2.mono ?_
    rintro e w' ⟨rfl, rfl⟩
    go_wp2
    go_ret
    exact ⟨ret_int (by omega), rfl⟩
  · have e : hexv x = -1 := by unfold hexv; rw [if_neg h1, if_neg h2]
    rw [e]
    generalize x.toNat = n at *
    have c1 := in_no n 48 57 w (by omega)
    have c2 := in_no n 97 102 w (by omega)
    clear h1 h2 e
    go_enter Try.func50, Try.ntmps50
    go_wp2_with fail
    refine c1.mono ?_
    rintro e w' ⟨rfl, rfl⟩
    go_wp2_with fail
    refine c2.mono ?_
    rintro e w' ⟨rfl, rfl⟩
    go_wp2
    go_ret
    exact ⟨rfl, rfl⟩
theorem str_indexZ (l : List UInt8) (i : Nat) (z : Int) (hz : z = i) (h : i < l.length) (w : World) : (Instr.index 9 (.string ⟨l.toArray⟩) (.int .i64 z)).run Try.prog w = .ok (.int .u8 (l[i]).toNat) w := by subst hz; exact str_index l i h w
theorem hex_byte {a b : Int} (ha : 0 ≤ a) (ha2 : a ≤ 15) (hb : 0 ≤ b) (hb2 : b ≤ 15) : bv [UInt8.ofNat (16 * a + b).toNat] = [.int .u8 (16 * a + b)] := by
  have : (UInt8.ofNat (16 * a + b).toNat).toNat = (16 * a + b).toNat % 256 := by simp
  simp only [bv, List.map_cons, List.map_nil, this]
  congr 2
  omega
theorem parsehex_impl (l : List UInt8) (w : World) (hl : l.length ≤ 1099511627776) : Calls Try.prog 24 #[.string ⟨l.toArray⟩] w fun e w' => e = .returned (unhexT l) ∧ Below w.heap.size w w' := by
  obtain ⟨i0, hi, hz0, hz1, hz2⟩ := info_parts byteInfo'
  have hsz := size_l l
  have IX := Lib.hid (str_indexZ l)
  generalize hgs : (ByteArray.mk l.toArray) = s at *
  clear hgs
  have hlz : (l.length : Int) ≤ 1099511627776 := by omega
  by_cases hodd : l.length % 2 = 1
  · have HR := Lib.hid (unhexT_none (unhex_odd _ l (Nat.le_refl _) hodd))
    have h1 : (((l.length : Int) % 2) != 0) = true := by simp; omega
    clear hodd
    go_enter Try.func24, Try.ntmps24
    go_wp2
    go_ret2
    exact ⟨by rw [HR.out]; rfl, Below.refl _ _⟩
  · have h1 : (((l.length : Int) % 2) != 0) = false := by simp; omega
    have HE := Lib.hid (show l.length % 2 = 0 by omega)
    clear hodd
    go_enter Try.func24, Try.ntmps24
    go_wp2
    go_loopw [4, 5, 6, 7] (fun out at_ _ _ wr => ∃ (i : Nat) (p : List UInt8), at_ = .int .i64 (2 * (i : Int)) ∧ pre l i p ∧ wr.ownsRow w.heap.size 5 1 out i (bv p) ∧ Below w.heap.size w wr) (fun _ at_ _ _ _ => l.length - (intOf at_).toNat)
    case atStart => exact ⟨0, [], rfl, pre_start l, World.ownsRow_made w #[] 0 (Nat.le_refl _) (by decide) rfl, below_alloc w _⟩
    case round =>
      obtain ⟨i, p, rfl, hp, hown, hb⟩ := hrel
      have HP := Lib.hid hp
      have HB := Lib.hid hb
      have HO := Lib.hid hown
      have hi2 := hp.2.1
      by_cases hlt : 2 * i + 1 < l.length
      · have i1 := IX.out (2 * i) (2 * (i : Int)) (by omega) (by omega)
        have i2 := IX.out (2 * i + 1) (2 * (i : Int) + 1) (by omega) hlt
        have c1 := find_any l[2 * i] wr
        have c2 := find_any l[2 * i + 1] wr
        have r1 := hexv_range l[2 * i]
        have r2 := hexv_range l[2 * i + 1]
        have PS := Lib.hid (pre_step hp hlt)
        have PB := Lib.hid (pre_bad hp hlt)
        have HL := Lib.hid hlt
        have hltz : 2 * (i : Int) + 1 < l.length := by omega
        clear hp hb hi2 hown
        generalize hexv l[2 * i] = x at *
        generalize hexv l[2 * i + 1] = y at *
        generalize l[2 * i].toNat = n1 at *
        generalize l[2 * i + 1].toNat = n2 at *
        clear hlt
        go_wp2_with fail
        refine c1.mono ?_
        rintro e w' ⟨rfl, rfl⟩
        go_wp2_with fail
        refine c2.mono ?_
        rintro e w' ⟨rfl, rfl⟩
        clear c1 c2
        by_cases hx : 0 ≤ x
        · by_cases hy : 0 ≤ y
          · have PS2 := Lib.hid (PS.out hx hy)
            have HBY := Lib.hid (hex_byte hx r1.2 hy r2.2)
            have hm : (16 * x + y) % 256 = 16 * x + y := by omega
            have hx15 := r1.2
            have hy15 := r2.2
            clear r1 r2 PS PB
            go_wp2_with (at_builtin; refine wpList_append_own _ rfl _ _ 22 rfl w.heap.size 5 i0 (.int .u8 0) 1 1 Try.underlying22 hi hz0 hz1 hz2 rfl (by decide) _ _ _ rfl (HO.out.alloc _) ⟨wr.heap.size, 0, none⟩ 1 1 [.int .u8 (16 * x + y)] rfl rfl ?c1 ?c2 ?c3 ?c4 ?c5 ?_)
            case c1 =>
              intro j u hj
              match j, hj with
              | 0, hj => simp at hj; subst hj; simp [Addr.add]
              | (j + 1), hj => simp at hj
            case c2 => intro u hu; simp at hu; rcases hu with rfl; rfl
            case c3 => have := HL.out; unfold maxLen; omega
            case c4 => have := HL.out; omega
            case c5 => have := HB.out.size; simp; omega
            intro v2 w2 hown2 hgrow hnil
            have hb2 := below_step HB.out HB.out.size HO.out hgrow
            have HB2 := Lib.hid hb2
            have HO2 := Lib.hid hown2
            clear hgrow hnil hown2 hb2
            go_wp2
            go_roundw
            case rel =>
              refine ⟨i + 1, _, by go_num, PS2.out, ?_, HB2.out⟩
              rw [bv_append, HBY.out]
              exact HO2.out
            case measure => have := HL.out; simp [intOf]; omega
          · have HR := Lib.hid (unhexT_none (PB.out (fun h => hy h.2)))
            clear r1 r2 PS PB
            go_wp2
            go_ret2
            exact ⟨by rw [HR.out]; rfl, HB.out⟩
        · have HR := Lib.hid (unhexT_none (PB.out (fun h => hx h.1)))
          clear r1 r2 PS PB
          go_wp2
          go_ret2
          exact ⟨by rw [HR.out]; rfl, HB.out⟩
      · have HR := Lib.hid (unhexT_some (pre_end hp hlt (by have := HE.out; omega)))
        have hcv2 := conv_str wr _ _ (own_slc hown)
        have hge : ¬ 2 * (i : Int) < l.length := by have := HE.out; omega
        generalize hs : (ByteArray.mk p.toArray) = s2 at hcv2
        have HS := Lib.hid hs
        clear hown hb hs hp hlt hi2
        go_wp2
        go_ret2
        exact ⟨by rw [HR.out, HS.out]; rfl, HB.out⟩
theorem parsehex_spec (l : List UInt8) (w : World) (hl : l.length ≤ 1099511627776) : Calls Try.prog 26 #[.string ⟨l.toArray⟩] w fun e w' => e = .returned (unhexT l) ∧ Below w.heap.size w w' := by
  obtain ⟨i0, hi, hz0, hz1, hz2⟩ := info_parts byteInfo'
  have hsz := size_l l
  have IX := Lib.hid (str_indexZ l)
  generalize hgs : (ByteArray.mk l.toArray) = s at *
  clear hgs
  have hlz : (l.length : Int) ≤ 1099511627776 := by omega
  go_enter Try.func26, Try.ntmps26
  go_wp2
  go_loopw [4, 5, 6, 7] (fun out at_ _ _ wr => ∃ (i : Nat) (p : List UInt8), at_ = .int .i64 (2 * (i : Int)) ∧ pre l i p ∧ wr.ownsRow w.heap.size 5 1 out i (bv p) ∧ Below w.heap.size w wr) (fun _ at_ _ _ _ => l.length - (intOf at_).toNat)
  case atStart => exact ⟨0, [], rfl, pre_start l, World.ownsRow_made w #[] 0 (Nat.le_refl _) (by decide) rfl, below_alloc w _⟩
  case round =>
    obtain ⟨i, p, rfl, hp, hown, hb⟩ := hrel
    have HP := Lib.hid hp
    have HB := Lib.hid hb
    have HO := Lib.hid hown
    have hi2 := hp.2.1
    by_cases hlt : 2 * i + 1 < l.length
    · have i1 := IX.out (2 * i) (2 * (i : Int)) (by omega) (by omega)
      have i2 := IX.out (2 * i + 1) (2 * (i : Int) + 1) (by omega) hlt
      have c1 := l3hex_any l[2 * i] wr
      have c2 := l3hex_any l[2 * i + 1] wr
      have r1 := hexv_range l[2 * i]
      have r2 := hexv_range l[2 * i + 1]
      have PS := Lib.hid (pre_step hp hlt)
      have PB := Lib.hid (pre_bad hp hlt)
      have HL := Lib.hid hlt
      have hltz : 2 * (i : Int) + 1 < l.length := by omega
      clear hp hb hi2 hown
      generalize hexv l[2 * i] = x at *
      generalize hexv l[2 * i + 1] = y at *
      generalize l[2 * i].toNat = n1 at *
      generalize l[2 * i + 1].toNat = n2 at *
      clear hlt
      go_wp2_with fail
      refine c1.mono ?_
      rintro e w' ⟨rfl, rfl⟩
      go_wp2_with fail
      refine c2.mono ?_
      rintro e w' ⟨rfl, rfl⟩
      clear c1 c2
      by_cases hx : 0 ≤ x
      · by_cases hy : 0 ≤ y
        · have PS2 := Lib.hid (PS.out hx hy)
          have HBY := Lib.hid (hex_byte hx r1.2 hy r2.2)
          have hm : (16 * x + y) % 256 = 16 * x + y := by omega
          have hx15 := r1.2
          have hy15 := r2.2
          clear r1 r2 PS PB
          go_wp2_with (at_builtin; refine wpList_append_own _ rfl _ _ 22 rfl w.heap.size 5 i0 (.int .u8 0) 1 1 Try.underlying22 hi hz0 hz1 hz2 rfl (by decide) _ _ _ rfl (HO.out.alloc _) ⟨wr.heap.size, 0, none⟩ 1 1 [.int .u8 (16 * x + y)] rfl rfl ?c1 ?c2 ?c3 ?c4 ?c5 ?_)
          case c1 =>
            intro j u hj
            match j, hj with
            | 0, hj => simp at hj; subst hj; simp [Addr.add]
            | (j + 1), hj => simp at hj
          case c2 => intro u hu; simp at hu; rcases hu with rfl; rfl
          case c3 => have := HL.out; unfold maxLen; omega
          case c4 => have := HL.out; omega
          case c5 => have := HB.out.size; simp; omega
          intro v2 w2 hown2 hgrow hnil
          have hb2 := below_step HB.out HB.out.size HO.out hgrow
          have HB2 := Lib.hid hb2
          have HO2 := Lib.hid hown2
          clear hgrow hnil hown2 hb2
          go_wp2
          go_roundw
          case rel =>
            refine ⟨i + 1, _, by go_num, PS2.out, ?_, HB2.out⟩
            rw [bv_append, HBY.out]
            exact HO2.out
          case measure => have := HL.out; simp [intOf]; omega
        · have HR := Lib.hid (unhexT_none (PB.out (fun h => hy h.2)))
          clear r1 r2 PS PB
          go_wp2
          go_ret2
          exact ⟨by rw [HR.out]; rfl, HB.out⟩
      · have HR := Lib.hid (unhexT_none (PB.out (fun h => hx h.1)))
        clear r1 r2 PS PB
        go_wp2
        go_ret2
        exact ⟨by rw [HR.out]; rfl, HB.out⟩
    · have hge : ¬ 2 * (i : Int) + 1 < l.length := by omega
      have hi2z : 2 * (i : Int) ≤ l.length := by omega
      by_cases he : l.length = 2 * i
      · have HR := Lib.hid (unhexT_some (pre_end hp hlt he))
        have hcv2 := conv_str wr _ _ (own_slc hown)
        have h1 : (((l.length : Int) % 2) != 0) = false := by simp; omega
        generalize hs : (ByteArray.mk p.toArray) = s2 at hcv2
        have HS := Lib.hid hs
        clear hown hb hs hp hlt hi2 he
        go_wp2
        go_ret2
        exact ⟨by rw [HR.out, HS.out]; rfl, HB.out⟩
      · have HR := Lib.hid (unhexT_none (pre_odd hp hlt he))
        have h1 : (((l.length : Int) % 2) != 0) = true := by simp; omega
        clear hown hb hp hlt hi2 he
        go_wp2
        go_ret2
        exact ⟨by rw [HR.out]; rfl, HB.out⟩
end Go.Proofs.Ytnbknhbboofiiaa
