/- The model's bent bytes: some bytes of its own. -/
import Derived.Test.YtblaaiggmhadfaaDoorCur
import Derived.Test.YtblaaiggmhadfaaDoorMem
import Derived.Test.YtblaaiggmhadfaaDoorFresh
import Derived.Test.YtblaaiggmhadfaaDoorCur
import Derived.Test.YtblaaiggmhadfaaDoorDrawBytes
import Derived.Deep.RegionWith
namespace Go.Proofs.YtblaaiggmhadfaaDoor
open Go.RowKit
set_option maxRecDepth 100000
theorem xor_u8 (a b : Int) : 0 ≤ bits .xor .u8 a b ∧ bits .xor .u8 a b < 256 := by
  show 0 ≤ IntKind.u8.wrap _ ∧ IntKind.u8.wrap _ < 256
  rw [IntKind.wrap_u8']
  omega
theorem bent_any (w : World) (B b o cap : Nat) (l : List UInt8) (hC : Cur w B) (hc : ∀ j u, (bv l)[j]? = some u → w.cell? ⟨b, o + j, none⟩ = some u) (hl : l.length ≤ 100000) :
    Calls Tryd.prog 33 #[.pointer (some ⟨B, 0, none⟩), .slice (some ⟨b, o, none⟩) l.length cap] w (BytesPost B (fun l' => l'.length ≤ l.length + 1) w) := by
  obtain ⟨i0, hi, hz0, hz1, hz2⟩ := info_parts byteInfo'
  have hBl := hC.lt
  have HC := Lib.hid hC
  have c1 : ∀ o', ∀ j u, (bv l)[j]? = some u → (w.alloc o').cell? ((⟨b, o, none⟩ : Addr).add j) = some u := by
    intro o' j u hu
    rw [addr_add, ((Below.refl w.heap.size w).alloc (Nat.le_refl _) o').cell (p := ⟨b, o + j, none⟩) (cell_lt (hc j u hu))]
    exact hc j u hu
  clear hC
  go_enter Tryd.func33, Tryd.ntmps33
  go_wp2_with (at_builtin; refine wpList_append_own _ rfl _ _ 22 rfl w.heap.size 5 i0 (.int .u8 0) 1 1 Tryd.underlying22 hi hz0 hz1 hz2 rfl (by decide) _ _ _ rfl (World.ownsRow_made w #[] 0 (Nat.le_refl _) (by decide) rfl) ⟨b, o, none⟩ l.length cap (bv l) rfl (by simp) (c1 _) (bv_cell l) ?c3 ?c4 ?c5 ?_)
  case c3 => unfold maxLen; omega
  case c4 => omega
  case c5 => simp
  intro v1 w1 hown hgrow hnil
  have hb1 : Below w.heap.size w w1 := ((Below.refl w.heap.size w).alloc (Nat.le_refl _) _).trans (grown_belowN hgrow (by simp) (by simp [Value.ownBlock]))
  have hown : w1.ownsRow w.heap.size 5 1 v1 l.length (bv l) := by simpa using hown
  obtain ⟨g, cap1, rfl, hg, hn, hcm⟩ := own_shape hown hnil
  have hC1 := HC.out.below hb1 hBl
  clear hgrow hnil c1 hc
  go_wp2_with fail
  refine (below_any w1 B 7 hC1 (by decide)).mono ?_
  rintro e w2 ⟨x, ⟨hx0, hx1⟩, rfl, ho2, hC2⟩
  have hown2 := own_only hown ho2 (by simp [Value.ownBlock]; omega)
  have hO2 : Only B w w2 := (Only.of_below hb1).trans ho2
  have HO := Lib.hid hown2
  have HO2 := Lib.hid hO2
  have hs2 := hO2.size
  clear hown hb1 hC1 ho2 hown2 hO2
  have hcm' : (cap1 : Int) ≤ 9223372036854775807 := by unfold maxLen at hcm; omega
  have hx : x = 0 ∨ x = 1 ∨ x = 2 ∨ x = 3 ∨ (x ≠ 0 ∧ x ≠ 1 ∧ x ≠ 2 ∧ x ≠ 3) := by omega
  rcases hx with rfl | rfl | rfl | rfl | ⟨n0, n1, n2, n3⟩
  · by_cases h0 : (0 : Int) < l.length
    · go_wp2_with fail
      refine (below_any w2 B l.length hC2 h0).mono ?_
      rintro e w3 ⟨k, ⟨hk0, hk1⟩, rfl, ho3, hC3⟩
      obtain ⟨k, rfl⟩ : ∃ q : Nat, k = q := ⟨k.toNat, by omega⟩
      have hown3 := own_only HO.out ho3 (by simp [Value.ownBlock]; omega)
      go_wp2_with fail
      refine (below_any w3 B 256 hC3 (by decide)).mono ?_
      rintro e w4 ⟨y, ⟨hy0, hy1⟩, rfl, ho4, hC4⟩
      have hown4 := own_only hown3 ho4 (by simp [Value.ownBlock]; omega)
      have hO4 := (HO2.out.trans ho3).trans ho4
      have hfr := hown4.frozenAt k
      have hat : w4.cell? ⟨g, k, none⟩ = _ := hown4.cellAt k (by omega)
      rw [List.getElem?_eq_getElem (by simp; omega)] at hat
      have hy2 : y % 256 = y := by omega
      have hst := hown4.stored k (.int .u8 y)
      rw [bv_set l k y hy0 hy1] at hst
      have HS := Lib.hid hst
      have HO4 := Lib.hid hO4
      have HC4 := Lib.hid hC4
      clear hst hO4 hC4 hown4 hown3 ho3 ho4 hC3 hC2
      go_wp2
      go_ret
      have hset : Below w.heap.size w4 (w4.setCell ⟨g, k, none⟩ (.int .u8 y)) := grown_belowN HS.out.2 (HO4.out.size) (by simp; omega)
      refine ⟨_, l.set k (UInt8.ofNat y.toNat), by simp, rfl, by simp, by rw [List.length_set]; exact HS.out.1, HO4.out.then_below hset (Nat.le_refl _), HC4.out.below hset hBl⟩
    · go_wp2
      go_ret
      exact ⟨_, l, by omega, rfl, by simp, HO.out, HO2.out, hC2⟩
  · go_wp2_with fail
    refine (below_any w2 B _ hC2 (by omega)).mono ?_
    rintro e w3 ⟨k, ⟨hk0, hk1⟩, rfl, ho3, hC3⟩
    obtain ⟨k, rfl⟩ : ∃ q : Nat, k = q := ⟨k.toNat, by omega⟩
    have hown3 := own_only HO.out ho3 (by simp [Value.ownBlock]; omega)
    have hkl : k ≤ l.length := by omega
    have ht := own_take hown3 hkl
    rw [bv_take] at ht
    have HT := Lib.hid ht
    have HO3 := Lib.hid (HO2.out.trans ho3)
    have hkc : (k : Int) ≤ cap1 := by omega
    have hlen : (l.take k).length = k := by rw [List.length_take]; omega
    have HLN := Lib.hid hlen
    clear hown3 ho3 hC2 ht hlen
    go_wp2
    go_ret
    exact ⟨_, l.take k, by show (l.take k).length ≤ _; rw [HLN.out]; omega, rfl, by simp, by rw [HLN.out]; exact HT.out, HO3.out, hC3⟩
  · have hd := int_lit w2 B [0, 32, 93, 255] 3 (fun z => 0 ≤ z ∧ z < 256) hC2 (by decide) (by decide) (by decide)
    go_wp2_with fail
    refine hd.mono ?_
    rintro e w3 ⟨z, ⟨hz3, hz4⟩, rfl, ho3, hC3⟩
    have hown3 := own_only HO.out ho3 (by simp [Value.ownBlock]; omega)
    have hO3 := HO2.out.trans ho3
    have hzz : z % 256 = z := by omega
    have hs3 := hO3.size
    go_wp2_with (at_builtin; refine wpList_append_own _ rfl _ _ 22 rfl w.heap.size 5 i0 (.int .u8 0) 1 1 Tryd.underlying22 hi hz0 hz1 hz2 rfl (by decide) _ _ _ rfl (hown3.alloc _) ⟨w3.heap.size, 0, none⟩ 1 1 [.int .u8 z] rfl rfl ?c1 ?c2 ?c3 ?c4 ?c5 ?_)
    case c1 =>
      intro j u hj
      match j, hj with
      | 0, hj => simp at hj; subst hj; simp [Addr.add]
      | (j + 1), hj => simp at hj
    case c2 => intro u hu; simp at hu; rcases hu with rfl; rfl
    case c3 => unfold maxLen; omega
    case c4 => omega
    case c5 => simp; omega
    intro v' w4 hown4 hgrow _
    have hb4 : Below w.heap.size w3 w4 := below_step (Below.refl _ _) hs3 hown3 hgrow
    have hnn := own_nonnil hown4 (by omega)
    have HO4 := Lib.hid hown4
    have HF := Lib.hid (hO3.then_below hb4 (Nat.le_refl _))
    have HC4 := Lib.hid (hC3.below hb4 hBl)
    have HN := Lib.hid hnn
    clear hown4 hgrow hb4 hnn hown3 hO3 ho3 hd hC2 hC3
    go_wp2
    go_ret
    refine ⟨_, l ++ [UInt8.ofNat z.toNat], by simp, rfl, HN.out, ?_, HF.out, HC4.out⟩
    have e1 : bv [UInt8.ofNat z.toNat] = [.int .u8 z] := by
      simp [bv]
      omega
    rw [List.length_append, bv_append, e1]
    exact HO4.out
  · by_cases h0 : (0 : Int) < l.length
    · go_wp2_with fail
      refine (below_any w2 B l.length hC2 h0).mono ?_
      rintro e w3 ⟨k, ⟨hk0, hk1⟩, rfl, ho3, hC3⟩
      obtain ⟨k, rfl⟩ : ∃ q : Nat, k = q := ⟨k.toNat, by omega⟩
      have hown3 := own_only HO.out ho3 (by simp [Value.ownBlock]; omega)
      have hfr := hown3.frozenAt k
      have hat : w3.cell? ⟨g, k, none⟩ = _ := hown3.cellAt k (by omega)
      rw [List.getElem?_eq_getElem (by simp; omega), bv_getElem] at hat
      have hgB : g ≠ B := by omega
      have hgl : g < w3.heap.size := cell_lt hat
      have HO3 := Lib.hid (HO2.out.trans ho3)
      have HOW := Lib.hid hown3
      clear hown3 ho3 hC2
      go_wp2_with fail
      go_region_with (go_at_call 25; refine (below_any _ B 8 (by first | exact hC3 | exact hC3.below (by exact below_drewN (Below.refl _ _) _) (by exact hC3.lt)) (by decide)).mono ?_; rintro e w4 ⟨z, ⟨hz0, hz1⟩, rfl, ho4, hC4⟩; have hat4 := ho4.cell (p := ⟨g, k, none⟩) hgB hat; have hfr4 : w4.frozen? ⟨g, k, none⟩ = false := (World.frozen?_of_block (ho4.block g hgl hgB)).trans hfr)
      all_goals
        have ho5 : Only B w3 w4 := ⟨ho4.os, ho4.tape, ho4.output, ho4.size, ho4.block⟩
        have hq := xor_u8 ((l[k]).toNat) (IntKind.u8.wrap (2 ^ z.toNat))
        generalize bits .xor .u8 ((l[k]).toNat) (IntKind.u8.wrap (2 ^ z.toNat)) = q at hq ⊢
        have hown4 := own_only HOW.out ho5 (by simp [Value.ownBlock]; omega)
        have hst := hown4.stored k (.int .u8 q)
        rw [bv_set l k q hq.1 hq.2] at hst
        have HS := Lib.hid hst
        have HO4 := Lib.hid (HO3.out.trans ho5)
        have HC4 := Lib.hid hC4
        clear hst hC4 hown4 ho4 ho5 hat4 hfr4 hat hfr hC3
        go_wp2
        go_ret
        have hset : Below w.heap.size w4 (w4.setCell ⟨g, k, none⟩ (.int .u8 q)) := grown_belowN HS.out.2 (HO4.out.size) (by simp; omega)
        exact ⟨_, l.set k (UInt8.ofNat q.toNat), by simp, rfl, by simp, by rw [List.length_set]; exact HS.out.1, HO4.out.then_below hset (Nat.le_refl _), HC4.out.below hset hBl⟩
    · go_wp2
      go_ret
      exact ⟨_, l, by omega, rfl, by simp, HO.out, HO2.out, hC2⟩
  · have m0 : (x == 0) = false := by simpa using n0
    have m1 : (x == 1) = false := by simpa using n1
    have m2 : (x == 2) = false := by simpa using n2
    have m3 : (x == 3) = false := by simpa using n3
    clear n0 n1 n2 n3
    go_wp2
    go_ret
    exact ⟨_, l, by omega, rfl, by simp, HO.out, HO2.out, hC2⟩
end Go.Proofs.YtblaaiggmhadfaaDoor
