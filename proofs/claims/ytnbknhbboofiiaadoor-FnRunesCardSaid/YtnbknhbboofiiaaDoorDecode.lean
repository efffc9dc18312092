/- The library's decoder at given bytes; the program's GetRune for every place; what the row's list of variables gives. -/
import Derived.Test.YtnbknhbboofiiaaDoorGetAny
import Derived.Test.YtnbknhbboofiiaaDoorShelf
import Derived.Shelf.Spec.DecodeRune
import Derived.Lib.LaidU8T
import Derived.MakeChecks
namespace Go.Proofs.YtnbknhbboofiiaaDoor
open Go.RowKit
def Tabs (w : World) : Prop := Lib.Utf8Tabs 0 1 w
theorem Tabs.below {w w' : World} (h : Tabs w) (hb : Below w.heap.size w w') : Tabs w' := Utf8Tabs_below h hb
def U8ren : Go.Shelf.Ren := ⟨fun n => n, fun | 5 => 5 | 119 => 52 | 138 => 54 | 139 => 55 | n => n, fun | 3 => 0 | 4 => 1 | n => n⟩
theorem tabs_utf8 {W : World} (h : laidMet Tryd.prog [("unicode/utf8.acceptRanges", Rows.laid_unicode_utf8_acceptRanges), ("unicode/utf8.first", Rows.laid_unicode_utf8_first)] W) : Tabs W := by
  have e1 : (Rows.laid_unicode_utf8_first : DataW Unit) = Lib.firstData := by kernel_rfl
  have e2 : (Rows.laid_unicode_utf8_acceptRanges : DataW Unit) = Lib.acceptData := by kernel_rfl
  rw [e1, e2] at h
  exact utf8Tabs_of_readsT (P := Tryd.prog) (ρ := U8ren) ⟨Tryd.underlying5, Tryd.underlying52, Tryd.underlying54, Tryd.underlying55⟩ ⟨by kernel_rfl, by kernel_rfl, by kernel_rfl, by kernel_rfl, by kernel_rfl, by kernel_rfl, by kernel_rfl⟩
    (Lib.laidMet.reads h (.tail _ (.head _))) (Lib.laidMet.reads h (.head _))
theorem size_m (l : List UInt8) : (ByteArray.mk l.toArray).size = l.length := by simp [ByteArray.size]
theorem decode_rune (w : World) (l : List UInt8) (b o cap : Nat) (hT : Tabs w) (hp : ∀ j, j < l.length → w.cell? ⟨b, o + j, none⟩ = some (.int .u8 (byteN l j))) (hl : 0 < l.length) :
    Calls Tryd.prog 26 #[.slice (some ⟨b, o, none⟩) l.length cap] w fun e w' => e = .returned (.tuple #[.int .i32 (dec l 0).1, .int .i64 (dec l 0).2]) ∧ Below w.heap.size w w' := by
  have h := Any7.utf8_DecodeRune Tryd.lays7n32 ⟨l.toArray⟩ b o cap w hT (fun j hj => hp j (by rw [size_m] at hj; exact hj))
  rw [size_m] at h
  have e : Lib.decodeGo ⟨l.toArray⟩ = dec l 0 := by unfold Lib.decodeGo; rw [if_neg (by rw [size_m]; omega)]; rfl
  rw [e] at h
  exact h
theorem dec_drop0 (l : List UInt8) (i : Nat) : dec (l.drop i) 0 = dec l i := by
  have hb : ∀ j, byteN (l.drop i) j = byteN l (i + j) := byteN_drop l i
  rw [dec_eq, dec_eq, hb, hb, hb, hb]
  simp only [List.length_drop, Nat.zero_add, Nat.sub_zero, Nat.add_zero]
theorem get_impl_in (w : World) (b o cap : Nat) (l : List UInt8) (i : Nat) (hT : Tabs w) (hc : ∀ j, j < l.length → w.cell? ⟨b, o + j, none⟩ = some (.int .u8 (byteN l j))) (hi : i < l.length) (hcap : l.length ≤ cap) (hl : l.length ≤ 1099511627776) :
    Calls Tryd.prog 8 #[.slice (some ⟨b, o, none⟩) l.length cap, .int .i64 i] w fun e w' => e = .returned (getV l i) ∧ Below w.heap.size w w' := by
  have cd := decode_rune w (l.drop i) b (o + i) (cap - i) hT (fun j hj => by
    rw [byteN_drop, Nat.add_assoc]; exact hc (i + j) (by rw [List.length_drop] at hj; omega)) (by rw [List.length_drop]; omega)
  rw [dec_drop0, List.length_drop] at cd
  have hw := dec_shape l i hi
  have ca : ¬ ((i : Int) < 0) := by omega
  have cl : ¬ ((l.length : Int) ≤ (i : Int)) := by omega
  have cd' : Calls Tryd.prog 26 #[.slice (some ⟨b, o + i, none⟩) (l.length - i : Nat) (cap - i)] w fun e w' => e = .returned (.tuple #[.int .i32 (dec l i).1, .int .i64 (dec l i).2]) ∧ Below w.heap.size w w' := cd
  clear cd hc hT
  by_cases hb : dec l i = (65533, 1)
  · have hv := Lib.hid (getV_bad (l := l) (i := i) hb)
    rw [hb] at cd'
    clear hb hw
    go_enter Tryd.func8, Tryd.ntmps8
    go_wp2_with fail
    refine cd'.mono ?_
    rintro e w' ⟨rfl, hb⟩
    have HB := Lib.hid hb
    clear hb cd'
    go_wp2
    go_ret3
    exact ⟨ret_bad hv.out, HB.out⟩
  · have hv := Lib.hid (show getV l i = .tuple #[.int .i64 (dec l i).1, .int .i64 (i + (dec l i).2), .bool true] from getV_good hi rfl (fun g => hb (Prod.ext g.1 g.2)))
    have hb' : ¬ ((dec l i).1 = 65533 ∧ (dec l i).2 = 1) := fun g => hb (Prod.ext g.1 g.2)
    clear hb
    generalize (dec l i).1 = r at *
    generalize (dec l i).2 = k at *
    have hr0 : (r : Int) ≤ 1114111 := by omega
    have hk0 : (k : Int) ≤ 1099511627776 := by omega
    have hi0 : (i : Int) ≤ 1099511627776 := by omega
    clear hw
    by_cases h1 : r = 65533
    · have h1' : ((r : Int) == 65533) = true := by simp; omega
      have h2' : ((k : Int) == 1) = false := by simp; omega
      clear hb' h1
      go_enter Tryd.func8, Tryd.ntmps8
      go_wp2_with fail
      refine cd'.mono ?_
      rintro e w' ⟨rfl, hb⟩
      have HB := Lib.hid hb
      clear hb cd'
      go_wp2
      go_ret3
      exact ⟨ret_good hv.out, HB.out⟩
    · have h1' : ((r : Int) == 65533) = false := by simp; omega
      clear hb' h1
      go_enter Tryd.func8, Tryd.ntmps8
      go_wp2_with fail
      refine cd'.mono ?_
      rintro e w' ⟨rfl, hb⟩
      have HB := Lib.hid hb
      clear hb cd'
      go_wp2
      go_ret3
      exact ⟨ret_good hv.out, HB.out⟩
theorem get_impl_low (w : World) (v : Value) (l : List UInt8) (a : Int) (h : Reads w v (bv l)) (ha : a < 0) :
    Calls Tryd.prog 8 #[v, .int .i64 a] w fun e w' => e = .returned (getV l a) ∧ Below w.heap.size w w' := by
  obtain ⟨_, cap, rfl, hc⟩ := reads_byte h
  clear hc h
  have hb := Lib.hid (getV_out (l := l) (a := a) (by omega))
  go_enter Tryd.func8, Tryd.ntmps8
  go_wp2
  go_ret3
  exact ⟨ret_bad hb.out, Below.refl _ _⟩
theorem get_impl_high (w : World) (v : Value) (l : List UInt8) (a : Int) (h : Reads w v (bv l)) (ha : 0 ≤ a) (hl : (l.length : Int) ≤ a) :
    Calls Tryd.prog 8 #[v, .int .i64 a] w fun e w' => e = .returned (getV l a) ∧ Below w.heap.size w w' := by
  obtain ⟨_, cap, rfl, hc⟩ := reads_byte h
  clear hc h
  have hb := Lib.hid (getV_out (l := l) (a := a) (by omega))
  have ha' : ¬ a < 0 := by omega
  go_enter Tryd.func8, Tryd.ntmps8
  go_wp2
  go_ret3
  exact ⟨ret_bad hb.out, Below.refl _ _⟩
theorem get_impl_any (w : World) (v : Value) (l : List UInt8) (a : Int) (hT : Tabs w) (h : Reads w v (bv l)) (hcap : ∀ q n c, v = .slice q n c → n ≤ c) (hl : l.length ≤ 1099511627776) :
    Calls Tryd.prog 8 #[v, .int .i64 a] w fun e w' => e = .returned (getV l a) ∧ Below w.heap.size w w' := by
  by_cases h0 : a < 0
  · exact get_impl_low w v l a h h0
  by_cases h1 : (l.length : Int) ≤ a
  · exact get_impl_high w v l a h (by omega) h1
  obtain ⟨i, rfl⟩ : ∃ i : Nat, a = i := ⟨a.toNat, by omega⟩
  have hi : i < l.length := by omega
  obtain ⟨b, o, cap, rfl, hc⟩ := reads_at h hi
  exact get_impl_in w b o cap l i hT hc hi (hcap _ _ _ rfl) hl
end Go.Proofs.YtnbknhbboofiiaaDoor
