/- Bytes of its own that the model draws. -/
import Derived.Test.YtblaaiggmhadfaaDoorCur
import Derived.Test.YtblaaiggmhadfaaDoorMem
import Derived.Test.YtblaaiggmhadfaaDoorFresh
namespace Go.Proofs.YtblaaiggmhadfaaDoor
open Go.RowKit
/-- bytes of its own, the cursor stepped -/
def BytesPost (B : Nat) (P : List UInt8 → Prop) (w : World) (e : Ending) (w' : World) : Prop := ∃ v' l', P l' ∧ e = .returned v' ∧ v' ≠ .slice none 0 0 ∧ w'.ownsRow w.heap.size 5 1 v' l'.length (bv l') ∧ Only B w w' ∧ Cur w' B
theorem bytes_any (w : World) (B n : Nat) (hC : Cur w B) (hn : n ≤ 1000) : Calls Tryd.prog 24 #[.pointer (some ⟨B, 0, none⟩), .int .i64 n] w (BytesPost B (fun l => l.length ≤ n) w) := by
  obtain ⟨i0, hi, hz0, hz1, hz2⟩ := info_parts byteInfo'
  have hBl := hC.lt
  have hnz : (n : Int) ≤ 1000 := by omega
  have HO := Lib.hid ((Only.refl B w).alloc (.cells #[] 5))
  have HW := Lib.hid (World.ownsRow_made (base := w.heap.size) (e := 5) (size := 1) w #[] 0 (Nat.le_refl _) (by decide) rfl)
  have HC := Lib.hid (hC.alloc (.cells #[] 5))
  clear hC
  go_enter Tryd.func24, Tryd.ntmps24
  go_wp2
  go_loopw [5, 6] (fun v i wr => ∃ (i' : Nat) (acc : List UInt8), i = .int .i64 i' ∧ i' ≤ n ∧ acc.length = i' ∧ v ≠ .slice none 0 0 ∧ wr.ownsRow w.heap.size 5 1 v acc.length (bv acc) ∧ Only B w wr ∧ Cur wr B) (fun _ i _ => n - (intOf i).toNat)
  case atStart => exact ⟨0, [], rfl, Nat.zero_le _, rfl, by simp, HW.out, HO.out, HC.out⟩
  case round =>
    obtain ⟨i', acc, rfl, hi', hacc, hnn, hown, hO, hcr⟩ := hrel
    have H3 := Lib.hid hown
    have HO3 := Lib.hid hO
    have HA := Lib.hid hacc
    have HN := Lib.hid hnn
    by_cases hlt : i' < n
    · have HT := Lib.hid hlt
      clear hown hO hacc hnn
      go_wp2_with fail
      refine (byte_any wr B hcr).mono ?_
      rintro e w3 ⟨y, hy0, hy1, rfl, ho3, hc3⟩
      have hown3 := own_only H3.out ho3 (fun e => by have := (H3.out.lt _ e).1; omega)
      have hyy : y % 256 = y := by omega
      have HO4 := Lib.hid (HO3.out.trans ho3)
      have HC3 := Lib.hid hc3
      have H4 := Lib.hid hown3
      clear hcr hown3 hc3 ho3
      go_wp2_with (at_builtin; refine wpList_append_own _ rfl _ _ 22 rfl w.heap.size 5 i0 (.int .u8 0) 1 1 Tryd.underlying22 hi hz0 hz1 hz2 rfl (by decide) _ _ _ rfl (H4.out.alloc _) ⟨w3.heap.size, 0, none⟩ 1 1 [.int .u8 y] rfl rfl ?c1 ?c2 ?c3 ?c4 ?c5 ?_)
      case c1 =>
        intro j u hj
        match j, hj with
        | 0, hj => simp at hj; subst hj; simp [Addr.add]
        | (j + 1), hj => simp at hj
      case c2 => intro u hu; simp at hu; rcases hu with rfl; rfl
      case c3 => have := HA.out; unfold maxLen; omega
      case c4 => have := HA.out; omega
      case c5 => have := HO4.out.size; simp; omega
      intro v' w4 hown4 hgrow _
      have hb4 : Below w.heap.size w3 w4 := below_step (Below.refl _ _) (HO4.out.size) H4.out hgrow
      have H5 := Lib.hid hown4
      have HO5 := Lib.hid (HO4.out.then_below hb4 (Nat.le_refl _))
      have HC5 := Lib.hid (HC3.out.below hb4 hBl)
      clear hown4 hgrow hb4
      go_wp2
      go_roundw
      case rel =>
        have hl := HA.out
        refine ⟨i' + 1, acc ++ [UInt8.ofNat y.toNat], by go_num, HT.out, by simp; omega, own_nonnil H5.out (by omega), ?_, HO5.out, HC5.out⟩
        have e1 : bv [UInt8.ofNat y.toNat] = [.int .u8 y] := by
          simp [bv]
          omega
        rw [List.length_append, bv_append, e1]
        exact H5.out
      case measure => have := HT.out; simp [intOf]; omega
    · clear hown hO
      go_wp2
      go_ret
      exact ⟨_, acc, by have := HA.out; show acc.length ≤ n; omega, rfl, HN.out, H3.out, HO3.out, hcr⟩
end Go.Proofs.YtblaaiggmhadfaaDoor
