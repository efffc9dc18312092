import Derived.Test.YtelehfefhlgbkaaGreatDoorRows
import Derived.Test.YtelehfefhlgbkaaGreatDoorG0
import Derived.Test.YtelehfefhlgbkaaGreatDoorG1
import Derived.WalkKit
import Derived.Lib.Hide
import Derived.Lib.RuneBytes
import Derived.Outline
import Derived.ProofKit
import Derived.Deep.RegionWith
import Derived.Laws.IdiomStrings
import Derived.Laws.BytesArg
/- The encoding of a character behind given bytes: the program's and the model's answers, and that they own their memory. -/
namespace Go.Proofs.YtelehfefhlgbkaaGreatDoor
open Go.RowKit
theorem bv_cells (l : List UInt8) : bv l = Lib.byteCells l := rfl
theorem enc_one {n : Int} (h : 0 ≤ n) (k : n < 128) : bv (encR n) = [.int .u8 n] := by
  unfold encR; rw [if_pos (okR_mk (by omega)), bv_cells, Lib.byteCells_encodeRune, Lib.runeCells, Lib.encodeRuneZ_one (by omega) (by omega)]; rfl
theorem enc_two {n : Int} (h : 128 ≤ n) (k : n < 2048) : bv (encR n) = [.int .u8 (192 + n / 64), .int .u8 (128 + n % 64)] := by
  unfold encR; rw [if_pos (okR_mk (by omega)), bv_cells, Lib.byteCells_encodeRune, Lib.runeCells, Lib.encodeRuneZ_two (by omega) (by omega)]; rfl
theorem enc_three {n : Int} (h : 2048 ≤ n) (k : n < 65536) (g : n < 55296 ∨ 57343 < n) : bv (encR n) = [.int .u8 (224 + n / 4096), .int .u8 (128 + n / 64 % 64), .int .u8 (128 + n % 64)] := by
  unfold encR; rw [if_pos (okR_mk (by omega)), bv_cells, Lib.byteCells_encodeRune, Lib.runeCells, Lib.encodeRuneZ_three (by omega)]; rfl
theorem enc_four {n : Int} (h : 65536 ≤ n) (k : n ≤ 1114111) : bv (encR n) = [.int .u8 (240 + n / 262144), .int .u8 (128 + n / 4096 % 64), .int .u8 (128 + n / 64 % 64), .int .u8 (128 + n % 64)] := by
  unfold encR; rw [if_pos (okR_mk (by omega)), bv_cells, Lib.byteCells_encodeRune, Lib.runeCells, Lib.encodeRuneZ_four (by omega) (by omega)]; rfl
theorem enc_bad {n : Int} (h : ¬ okR n) : encR n = [] := by unfold encR; rw [if_neg h]
theorem put_spec (w : World) (b o cap : Nat) (l : List UInt8) (n : Int) (hc : ∀ j u, (bv l)[j]? = some u → w.cell? ⟨b, o + j, none⟩ = some u) (hl : l.length ≤ 1099511627776) :
    Calls Tryz.prog 84 #[.slice (some ⟨b, o, none⟩) l.length cap, .int .i64 n] w (Fresh w (l ++ encR n)) := by
  obtain ⟨i0, hi, hz0, hz1, hz2⟩ := info_parts byteInfo'
  have cw := wide_spec n
  have c1 : ∀ o', ∀ j u, (bv l)[j]? = some u → (w.alloc o').cell? ((⟨b, o, none⟩ : Addr).add j) = some u := by
    intro o' j u hu
    rw [addr_add, ((Below.refl w.heap.size w).alloc (Nat.le_refl _) o').cell (p := ⟨b, o + j, none⟩) (cell_lt (hc j u hu))]
    exact hc j u hu
  go_enter Tryz.func84, Tryz.ntmps84
  go_wp2_with (at_builtin; refine wpList_append_own _ rfl _ _ 22 rfl w.heap.size 5 i0 (.int .u8 0) 1 1 Tryz.underlying22 hi hz0 hz1 hz2 rfl (by decide) _ _ _ rfl (World.ownsRow_made w #[] 0 (Nat.le_refl _) (by decide) rfl) ⟨b, o, none⟩ l.length cap (bv l) rfl (by simp) (c1 _) (bv_cell l) ?c3 ?c4 ?c5 ?_)
  case c3 => unfold maxLen; omega
  case c4 => omega
  case c5 => simp
  intro v1 w1 hown hgrow hnil
  have hb1 : Below w.heap.size w w1 := ((Below.refl w.heap.size w).alloc (Nat.le_refl _) _).trans (grown_belowN hgrow (by simp) (by simp [Value.ownBlock]))
  have HN := Lib.hid hnil
  clear hgrow hnil c1 hc
  rcases wideR_cases n with ⟨h0, h1, e⟩ | ⟨h0, h1, e⟩ | ⟨h0, h1, h2, e⟩ | ⟨h0, h1, e⟩ | ⟨h0, e⟩
  · rw [e] at cw
    go_wp2_with fail
    refine (cw _).mono ?_
    rintro e' w' ⟨rfl, rfl⟩
    have hm : n % 256 = n := by omega
    go_wp2_with (at_builtin; refine wpList_append_own _ rfl _ _ 22 rfl w.heap.size 5 i0 (.int .u8 0) 1 1 Tryz.underlying22 hi hz0 hz1 hz2 rfl (by decide) _ _ _ rfl (hown.alloc _) ⟨w1.heap.size, 0, none⟩ 1 1 [.int .u8 n] rfl rfl ?c1 ?c2 ?c3 ?c4 ?c5 ?_)
    case c1 =>
      intro j u hj
      match j, hj with
      | 0, hj => simp at hj; subst hj; simp [Addr.add]
      | (j + 1), hj => simp at hj
    case c2 => intro u hu; simp at hu; rcases hu with rfl; rfl
    case c3 => unfold maxLen; omega
    case c4 => omega
    case c5 => have := hb1.size; simp; omega
    intro v2 w2 hown2 hgrow _
    have hb2 := below_step hb1 hb1.size hown hgrow
    clear hgrow hown
    go_wp2
    go_ret
    refine ⟨_, rfl, own_nonnil hown2 (by omega), ?_, hb2⟩
    rw [List.length_append, encR_len, e, bv_append, enc_one h0 h1]
    exact hown2
  · rw [e] at cw
    go_wp2_with fail
    refine (cw _).mono ?_
    rintro e' w' ⟨rfl, rfl⟩
    have hm1 : (192 + n / 64) % 256 = 192 + n / 64 := by omega
    have hm2 : (128 + n % 64) % 256 = 128 + n % 64 := by omega
    go_wp2_with (at_builtin; refine wpList_append_own _ rfl _ _ 22 rfl w.heap.size 5 i0 (.int .u8 0) 1 1 Tryz.underlying22 hi hz0 hz1 hz2 rfl (by decide) _ _ _ rfl (hown.alloc _) ⟨w1.heap.size, 0, none⟩ 2 2 [.int .u8 (192 + n / 64), .int .u8 (128 + n % 64)] rfl rfl ?c1 ?c2 ?c3 ?c4 ?c5 ?_)
    case c1 =>
      intro j u hj
      match j, hj with
      | 0, hj => simp at hj; subst hj; simp [Addr.add]
      | 1, hj => simp at hj; subst hj; simp [Addr.add]
      | (j + 2), hj => simp at hj
    case c2 => intro u hu; simp at hu; rcases hu with rfl | rfl <;> rfl
    case c3 => unfold maxLen; omega
    case c4 => omega
    case c5 => have := hb1.size; simp; omega
    intro v2 w2 hown2 hgrow _
    have hb2 := below_step hb1 hb1.size hown hgrow
    clear hgrow hown
    go_wp2
    go_ret
    refine ⟨_, rfl, own_nonnil hown2 (by omega), ?_, hb2⟩
    rw [List.length_append, encR_len, e, bv_append, enc_two h0 h1]
    exact hown2
  · rw [e] at cw
    go_wp2_with fail
    refine (cw _).mono ?_
    rintro e' w' ⟨rfl, rfl⟩
    have hm1 : (224 + n / 4096) % 256 = 224 + n / 4096 := by omega
    have hm2 : (128 + n / 64 % 64) % 256 = 128 + n / 64 % 64 := by omega
    have hm3 : (128 + n % 64) % 256 = 128 + n % 64 := by omega
    go_wp2_with (at_builtin; refine wpList_append_own _ rfl _ _ 22 rfl w.heap.size 5 i0 (.int .u8 0) 1 1 Tryz.underlying22 hi hz0 hz1 hz2 rfl (by decide) _ _ _ rfl (hown.alloc _) ⟨w1.heap.size, 0, none⟩ 3 3 [.int .u8 (224 + n / 4096), .int .u8 (128 + n / 64 % 64), .int .u8 (128 + n % 64)] rfl rfl ?c1 ?c2 ?c3 ?c4 ?c5 ?_)
    case c1 =>
      intro j u hj
      match j, hj with
      | 0, hj => simp at hj; subst hj; simp [Addr.add]
      | 1, hj => simp at hj; subst hj; simp [Addr.add]
      | 2, hj => simp at hj; subst hj; simp [Addr.add]
      | (j + 3), hj => simp at hj
    case c2 => intro u hu; simp at hu; rcases hu with rfl | rfl | rfl <;> rfl
    case c3 => unfold maxLen; omega
    case c4 => omega
    case c5 => have := hb1.size; simp; omega
    intro v2 w2 hown2 hgrow _
    have hb2 := below_step hb1 hb1.size hown hgrow
    clear hgrow hown
    go_wp2
    go_ret
    refine ⟨_, rfl, own_nonnil hown2 (by omega), ?_, hb2⟩
    rw [List.length_append, encR_len, e, bv_append, enc_three h0 h1 h2]
    exact hown2
  · rw [e] at cw
    go_wp2_with fail
    refine (cw _).mono ?_
    rintro e' w' ⟨rfl, rfl⟩
    have hm1 : (240 + n / 262144) % 256 = 240 + n / 262144 := by omega
    have hm2 : (128 + n / 4096 % 64) % 256 = 128 + n / 4096 % 64 := by omega
    have hm3 : (128 + n / 64 % 64) % 256 = 128 + n / 64 % 64 := by omega
    have hm4 : (128 + n % 64) % 256 = 128 + n % 64 := by omega
    go_wp2_with (at_builtin; refine wpList_append_own _ rfl _ _ 22 rfl w.heap.size 5 i0 (.int .u8 0) 1 1 Tryz.underlying22 hi hz0 hz1 hz2 rfl (by decide) _ _ _ rfl (hown.alloc _) ⟨w1.heap.size, 0, none⟩ 4 4 [.int .u8 (240 + n / 262144), .int .u8 (128 + n / 4096 % 64), .int .u8 (128 + n / 64 % 64), .int .u8 (128 + n % 64)] rfl rfl ?c1 ?c2 ?c3 ?c4 ?c5 ?_)
    case c1 =>
      intro j u hj
      match j, hj with
      | 0, hj => simp at hj; subst hj; simp [Addr.add]
      | 1, hj => simp at hj; subst hj; simp [Addr.add]
      | 2, hj => simp at hj; subst hj; simp [Addr.add]
      | 3, hj => simp at hj; subst hj; simp [Addr.add]
      | (j + 4), hj => simp at hj
    case c2 => intro u hu; simp at hu; rcases hu with rfl | rfl | rfl | rfl <;> rfl
    case c3 => unfold maxLen; omega
    case c4 => omega
    case c5 => have := hb1.size; simp; omega
    intro v2 w2 hown2 hgrow _
    have hb2 := below_step hb1 hb1.size hown hgrow
    clear hgrow hown
    go_wp2
    go_ret
    refine ⟨_, rfl, own_nonnil hown2 (by omega), ?_, hb2⟩
    rw [List.length_append, encR_len, e, bv_append, enc_four h0 h1]
    exact hown2
  · rw [e] at cw
    go_wp2_with fail
    refine (cw _).mono ?_
    rintro e' w' ⟨rfl, rfl⟩
    go_wp2
    go_ret
    refine ⟨_, rfl, HN.out, ?_, hb1⟩
    rw [enc_bad h0, List.append_nil]
    exact hown
theorem append_impl (w : World) (B : Nat) (v : Value) (l : List UInt8) (n : Int) (hown : w.ownsRow B 5 1 v l.length (bv l)) (hB : B ≤ w.heap.size) (hl : l.length ≤ 140737488355000) :
    Calls Tryz.prog 75 #[v, .int .i64 n] w fun e w' => ∃ v', e = .returned v' ∧ (v ≠ .slice none 0 0 → v' ≠ .slice none 0 0) ∧ w'.ownsRow B 5 1 v' (l ++ encR n).length (bv (l ++ encR n)) ∧ Below B w w' := by
  by_cases h : okR n
  · have c := runeok_impl_yes h w
    have h2 := okR_un h
    have hn0 : -2147483648 ≤ n := by omega
    have hn1 : n ≤ 2147483647 := by omega
    have ca := Tryz.utf8_AppendRune_plain B v l.length (bv l) n hn0 hn1 w hown (by omega) hB
    have hlt := hown.lt
    have e1 : Lib.runeCells n = bv (encR n) := by
      unfold encR; rw [if_pos h, bv_cells, Lib.byteCells_encodeRune]
    rw [e1, bv_length] at ca
    clear h2 hown
    go_enter Tryz.func75, Tryz.ntmps75
    go_wp2_with fail
    refine c.mono ?_
    rintro e w' ⟨rfl, rfl⟩
    go_wp2_with fail
    refine ca.mono ?_
    rintro e w' ⟨v', rfl, hown, o, hg⟩
    go_wp2
    go_ret
    have hpos : 0 < l.length + (encR n).length := by
      rw [encR_len]; rcases wideR_cases n with h' | h' | h' | h' | ⟨h', _⟩ <;> first | omega | exact absurd h h'
    exact ⟨_, rfl, fun _ => own_nonnil hown hpos, by rw [List.length_append, bv_append]; exact hown, ((Below.refl B w).alloc hB o).trans (grown_belowN hg (by simp; omega) (fun k hk => (hlt k hk).1))⟩
  · have c := runeok_impl_no h w
    rw [enc_bad h, List.append_nil]
    go_enter Tryz.func75, Tryz.ntmps75
    go_wp2_with fail
    refine c.mono ?_
    rintro e w' ⟨rfl, rfl⟩
    go_wp2
    go_ret
    exact ⟨_, rfl, id, hown, Below.refl _ _⟩
end Go.Proofs.YtelehfefhlgbkaaGreatDoor
/- Bytes of its own that the model draws. -/
namespace Go.Proofs.YtelehfefhlgbkaaGreatDoor
open Go.RowKit
/-- bytes of its own, the cursor stepped -/
def BytesPost (B : Nat) (P : List UInt8 → Prop) (w : World) (e : Ending) (w' : World) : Prop := ∃ v' l', P l' ∧ e = .returned v' ∧ v' ≠ .slice none 0 0 ∧ w'.ownsRow w.heap.size 5 1 v' l'.length (bv l') ∧ Only B w w' ∧ Cur w' B
end Go.Proofs.YtelehfefhlgbkaaGreatDoor
/- The model's bent bytes: some bytes of its own. -/
namespace Go.Proofs.YtelehfefhlgbkaaGreatDoor
open Go.RowKit
set_option maxRecDepth 100000
theorem xor_u8 (a b : Int) : 0 ≤ bits .xor .u8 a b ∧ bits .xor .u8 a b < 256 := by
  show 0 ≤ IntKind.u8.wrap _ ∧ IntKind.u8.wrap _ < 256
  rw [IntKind.wrap_u8']
  omega
theorem bent_any (w : World) (B b o cap : Nat) (l : List UInt8) (hC : Cur w B) (hc : ∀ j u, (bv l)[j]? = some u → w.cell? ⟨b, o + j, none⟩ = some u) (hl : l.length ≤ 100000) :
    Calls Tryz.prog 59 #[.pointer (some ⟨B, 0, none⟩), .slice (some ⟨b, o, none⟩) l.length cap] w (BytesPost B (fun l' => l'.length ≤ l.length + 1) w) := by
  obtain ⟨i0, hi, hz0, hz1, hz2⟩ := info_parts byteInfo'
  have hBl := hC.lt
  have HC := Lib.hid hC
  have c1 : ∀ o', ∀ j u, (bv l)[j]? = some u → (w.alloc o').cell? ((⟨b, o, none⟩ : Addr).add j) = some u := by
    intro o' j u hu
    rw [addr_add, ((Below.refl w.heap.size w).alloc (Nat.le_refl _) o').cell (p := ⟨b, o + j, none⟩) (cell_lt (hc j u hu))]
    exact hc j u hu
  clear hC
  go_enter Tryz.func59, Tryz.ntmps59
  go_wp2_with (at_builtin; refine wpList_append_own _ rfl _ _ 22 rfl w.heap.size 5 i0 (.int .u8 0) 1 1 Tryz.underlying22 hi hz0 hz1 hz2 rfl (by decide) _ _ _ rfl (World.ownsRow_made w #[] 0 (Nat.le_refl _) (by decide) rfl) ⟨b, o, none⟩ l.length cap (bv l) rfl (by simp) (c1 _) (bv_cell l) ?c3 ?c4 ?c5 ?_)
  case c3 => unfold maxLen; omega
  case c4 => omega
  case c5 => simp
  intro v1 w1 hown hgrow hnil
  have hb1 : Below w.heap.size w w1 := ((Below.refl w.heap.size w).alloc (Nat.le_refl _) _).trans (grown_belowN hgrow (by simp) (by simp [Value.ownBlock]))
  have hown : w1.ownsRow w.heap.size 5 1 v1 l.length (bv l) := by simpa using hown
  obtain ⟨g, cap1, rfl, hg, hn, hcm⟩ := own_shape hown hnil
  have hC1 := HC.out.below hb1 hBl
  clear hgrow hnil c1 hc
  go_wp2_with fail
  refine (below_any w1 B 7 hC1 (by decide)).mono ?_
  rintro e w2 ⟨x, ⟨hx0, hx1⟩, rfl, ho2, hC2⟩
  have hown2 := own_only hown ho2 (by simp [Value.ownBlock]; omega)
  have hO2 : Only B w w2 := (Only.of_below hb1).trans ho2
  have HO := Lib.hid hown2
  have HO2 := Lib.hid hO2
  have hs2 := hO2.size
  clear hown hb1 hC1 ho2 hown2 hO2
  have hcm' : (cap1 : Int) ≤ 9223372036854775807 := by unfold maxLen at hcm; omega
  have hx : x = 0 ∨ x = 1 ∨ x = 2 ∨ x = 3 ∨ (x ≠ 0 ∧ x ≠ 1 ∧ x ≠ 2 ∧ x ≠ 3) := by omega
  rcases hx with rfl | rfl | rfl | rfl | ⟨n0, n1, n2, n3⟩
  · by_cases h0 : (0 : Int) < l.length
    · go_wp2_with fail
      refine (below_any w2 B l.length hC2 h0).mono ?_
      rintro e w3 ⟨k, ⟨hk0, hk1⟩, rfl, ho3, hC3⟩
      obtain ⟨k, rfl⟩ : ∃ q : Nat, k = q := ⟨k.toNat, by omega⟩
      have hown3 := own_only HO.out ho3 (by simp [Value.ownBlock]; omega)
      go_wp2_with fail
      refine (below_any w3 B 256 hC3 (by decide)).mono ?_
      rintro e w4 ⟨y, ⟨hy0, hy1⟩, rfl, ho4, hC4⟩
      have hown4 := own_only hown3 ho4 (by simp [Value.ownBlock]; omega)
      have hO4 := (HO2.out.trans ho3).trans ho4
      have hfr := hown4.frozenAt k
      have hat : w4.cell? ⟨g, k, none⟩ = _ := hown4.cellAt k (by omega)
      rw [List.getElem?_eq_getElem (by simp; omega)] at hat
      have hy2 : y % 256 = y := by omega
      have hst := hown4.stored k (.int .u8 y)
      rw [bv_set l k y hy0 hy1] at hst
      have HS := Lib.hid hst
      have HO4 := Lib.hid hO4
      have HC4 := Lib.hid hC4
      clear hst hO4 hC4 hown4 hown3 ho3 ho4 hC3 hC2
      go_wp2
      go_ret
      have hset : Below w.heap.size w4 (w4.setCell ⟨g, k, none⟩ (.int .u8 y)) := grown_belowN HS.out.2 (HO4.out.size) (by simp; omega)
      refine ⟨_, l.set k (UInt8.ofNat y.toNat), by simp, rfl, by simp, by rw [List.length_set]; exact HS.out.1, HO4.out.then_below hset (Nat.le_refl _), HC4.out.below hset hBl⟩
    · go_wp2
      go_ret
      exact ⟨_, l, by omega, rfl, by simp, HO.out, HO2.out, hC2⟩
  · go_wp2_with fail
    refine (below_any w2 B _ hC2 (by omega)).mono ?_
    rintro e w3 ⟨k, ⟨hk0, hk1⟩, rfl, ho3, hC3⟩
    obtain ⟨k, rfl⟩ : ∃ q : Nat, k = q := ⟨k.toNat, by omega⟩
    have hown3 := own_only HO.out ho3 (by simp [Value.ownBlock]; omega)
    have hkl : k ≤ l.length := by omega
    have ht := own_take hown3 hkl
    rw [bv_take] at ht
    have HT := Lib.hid ht
    have HO3 := Lib.hid (HO2.out.trans ho3)
    have hkc : (k : Int) ≤ cap1 := by omega
    have hlen : (l.take k).length = k := by rw [List.length_take]; omega
    have HLN := Lib.hid hlen
    clear hown3 ho3 hC2 ht hlen
    go_wp2
    go_ret
    exact ⟨_, l.take k, by show (l.take k).length ≤ _; rw [HLN.out]; omega, rfl, by simp, by rw [HLN.out]; exact HT.out, HO3.out, hC3⟩
  · have hd := int_lit w2 B [0, 32, 93, 255] 3 (fun z => 0 ≤ z ∧ z < 256) hC2 (by decide) (by decide) (by decide)
    go_wp2_with fail
    refine hd.mono ?_
    rintro e w3 ⟨z, ⟨hz3, hz4⟩, rfl, ho3, hC3⟩
    have hown3 := own_only HO.out ho3 (by simp [Value.ownBlock]; omega)
    have hO3 := HO2.out.trans ho3
    have hzz : z % 256 = z := by omega
    have hs3 := hO3.size
    go_wp2_with (at_builtin; refine wpList_append_own _ rfl _ _ 22 rfl w.heap.size 5 i0 (.int .u8 0) 1 1 Tryz.underlying22 hi hz0 hz1 hz2 rfl (by decide) _ _ _ rfl (hown3.alloc _) ⟨w3.heap.size, 0, none⟩ 1 1 [.int .u8 z] rfl rfl ?c1 ?c2 ?c3 ?c4 ?c5 ?_)
    case c1 =>
      intro j u hj
      match j, hj with
      | 0, hj => simp at hj; subst hj; simp [Addr.add]
      | (j + 1), hj => simp at hj
    case c2 => intro u hu; simp at hu; rcases hu with rfl; rfl
    case c3 => unfold maxLen; omega
    case c4 => omega
    case c5 => simp; omega
    intro v' w4 hown4 hgrow _
    have hb4 : Below w.heap.size w3 w4 := below_step (Below.refl _ _) hs3 hown3 hgrow
    have hnn := own_nonnil hown4 (by omega)
    have HO4 := Lib.hid hown4
    have HF := Lib.hid (hO3.then_below hb4 (Nat.le_refl _))
    have HC4 := Lib.hid (hC3.below hb4 hBl)
    have HN := Lib.hid hnn
    clear hown4 hgrow hb4 hnn hown3 hO3 ho3 hd hC2 hC3
    go_wp2
    go_ret
    refine ⟨_, l ++ [UInt8.ofNat z.toNat], by simp, rfl, HN.out, ?_, HF.out, HC4.out⟩
    have e1 : bv [UInt8.ofNat z.toNat] = [.int .u8 z] := by
      simp [bv]
      omega
    rw [List.length_append, bv_append, e1]
    exact HO4.out
  · by_cases h0 : (0 : Int) < l.length
    · go_wp2_with fail
      refine (below_any w2 B l.length hC2 h0).mono ?_
      rintro e w3 ⟨k, ⟨hk0, hk1⟩, rfl, ho3, hC3⟩
      obtain ⟨k, rfl⟩ : ∃ q : Nat, k = q := ⟨k.toNat, by omega⟩
      have hown3 := own_only HO.out ho3 (by simp [Value.ownBlock]; omega)
      have hfr := hown3.frozenAt k
      have hat : w3.cell? ⟨g, k, none⟩ = _ := hown3.cellAt k (by omega)
      rw [List.getElem?_eq_getElem (by simp; omega), bv_getElem] at hat
      have hgB : g ≠ B := by omega
      have hgl : g < w3.heap.size := cell_lt hat
      have HO3 := Lib.hid (HO2.out.trans ho3)
      have HOW := Lib.hid hown3
      clear hown3 ho3 hC2
      go_wp2_with fail
      go_region_with (go_at_call 30; refine (below_any _ B 8 (by first | exact hC3 | exact hC3.below (by exact below_drewN (Below.refl _ _) _) (by exact hC3.lt)) (by decide)).mono ?_; rintro e w4 ⟨z, ⟨hz0, hz1⟩, rfl, ho4, hC4⟩; have hat4 := ho4.cell (p := ⟨g, k, none⟩) hgB hat; have hfr4 : w4.frozen? ⟨g, k, none⟩ = false := (World.frozen?_of_block (ho4.block g hgl hgB)).trans hfr)
      all_goals
        have ho5 : Only B w3 w4 := ⟨ho4.os, ho4.tape, ho4.output, ho4.size, ho4.block⟩
        have hq := xor_u8 ((l[k]).toNat) (IntKind.u8.wrap (2 ^ z.toNat))
        generalize bits .xor .u8 ((l[k]).toNat) (IntKind.u8.wrap (2 ^ z.toNat)) = q at hq ⊢
        have hown4 := own_only HOW.out ho5 (by simp [Value.ownBlock]; omega)
        have hst := hown4.stored k (.int .u8 q)
        rw [bv_set l k q hq.1 hq.2] at hst
        have HS := Lib.hid hst
        have HO4 := Lib.hid (HO3.out.trans ho5)
        have HC4 := Lib.hid hC4
        clear hst hC4 hown4 ho4 ho5 hat4 hfr4 hat hfr hC3
        go_wp2
        go_ret
        have hset : Below w.heap.size w4 (w4.setCell ⟨g, k, none⟩ (.int .u8 q)) := grown_belowN HS.out.2 (HO4.out.size) (by simp; omega)
        exact ⟨_, l.set k (UInt8.ofNat q.toNat), by simp, rfl, by simp, by rw [List.length_set]; exact HS.out.1, HO4.out.then_below hset (Nat.le_refl _), HC4.out.below hset hBl⟩
    · go_wp2
      go_ret
      exact ⟨_, l, by omega, rfl, by simp, HO.out, HO2.out, hC2⟩
  · have m0 : (x == 0) = false := by simpa using n0
    have m1 : (x == 1) = false := by simpa using n1
    have m2 : (x == 2) = false := by simpa using n2
    have m3 : (x == 3) = false := by simpa using n3
    clear n0 n1 n2 n3
    go_wp2
    go_ret
    exact ⟨_, l, by omega, rfl, by simp, HO.out, HO2.out, hC2⟩
end Go.Proofs.YtelehfefhlgbkaaGreatDoor
/- Draws of single characters. -/
namespace Go.Proofs.YtelehfefhlgbkaaGreatDoor
open Go.RowKit
def isRn (x : Int) : Prop := -1 ≤ x ∧ x ≤ 1114112
theorem rune_any (w : World) (B : Nat) (hC : Cur w B) : Calls Tryz.prog 70 #[.pointer (some ⟨B, 0, none⟩)] w (DrawPost B isRn w) := by
  have hd := int_lit w B [0, 97, 98, 34, 92, 10, 127, 128, 233, 2047, 2048, 8364, 55295, 57344, 65535, 65536, 128512, 1114111] 3 isRn hC (by decide) (by decide) (by unfold isRn; decide)
  go_enter Tryz.func70, Tryz.ntmps70
  go_wp2_with fail
  refine hd.mono ?_
  rintro e w1 ⟨x, hx, rfl, ho, hc⟩
  go_wp2
  go_ret
  exact ⟨_, hx, rfl, ho, hc⟩
end Go.Proofs.YtelehfefhlgbkaaGreatDoor
/- A string's bytes as a slice, and back. -/
namespace Go.Proofs.YtelehfefhlgbkaaGreatDoor
open Go.RowKit
theorem size_l (l : List UInt8) : (ByteArray.mk l.toArray).size = l.length := by simp [ByteArray.size]
theorem conv_bytes (w : World) (l : List UInt8) : ∃ cap w1, (convert 9 22 (.string ⟨l.toArray⟩)).run Tryz.prog w = .ok (.slice (some ⟨w.heap.size, 0, none⟩) l.length cap) w1 ∧ Reads w1 (.slice (some ⟨w.heap.size, 0, none⟩) l.length cap) (bv l) ∧ Below w.heap.size w w1 ∧ ∃ C fz, w1.heap[w.heap.size]? = some (.cells C 5 fz) := by
  have h := run_bytes_of_string (P := Tryz.prog) w 9 22 5 ⟨l.toArray⟩ Tryz.underlying9 Tryz.underlying22 Tryz.underlying5
  rw [size_l] at h
  refine ⟨_, _, h, ⟨_, _, by rw [bv_length], fun j hj => ⟨_, _, rfl, ?_⟩⟩, ?_⟩
  · have hj' : j < l.length := by simpa using hj
    rw [show (w.heap.size) = w.drew.heap.size from rfl, Nat.zero_add, World.cell?_alloc_mark, bytesRow_at _ _ _ (by simpa using hj'), bv_getElem]
    simp
  · exact ⟨((Below.refl w.heap.size w).drew).alloc (Nat.le_refl _) _, _, _, heap_alloc_new w.drew _⟩
theorem conv_bytes_cap (w : World) (l : List UInt8) (hl : l.length ≤ maxLen) : ∃ cap w1, l.length ≤ cap ∧ cap ≤ maxLen ∧ (convert 9 22 (.string ⟨l.toArray⟩)).run Tryz.prog w = .ok (.slice (some ⟨w.heap.size, 0, none⟩) l.length cap) w1 ∧ Reads w1 (.slice (some ⟨w.heap.size, 0, none⟩) l.length cap) (bv l) ∧ Below w.heap.size w w1 ∧ ∃ C fz, w1.heap[w.heap.size]? = some (.cells C 5 fz) := by
  have h := run_bytes_of_string (P := Tryz.prog) w 9 22 5 ⟨l.toArray⟩ Tryz.underlying9 Tryz.underlying22 Tryz.underlying5
  rw [size_l] at h
  refine ⟨_, _, grownCap_ge _ _ _ _, grownCap_le_maxLen _ _ _ _ hl, h, ⟨_, _, by rw [bv_length], fun j hj => ⟨_, _, rfl, ?_⟩⟩, ?_⟩
  · have hj' : j < l.length := by simpa using hj
    rw [show (w.heap.size) = w.drew.heap.size from rfl, Nat.zero_add, World.cell?_alloc_mark, bytesRow_at _ _ _ (by simpa using hj'), bv_getElem]
    simp
  · exact ⟨((Below.refl w.heap.size w).drew).alloc (Nat.le_refl _) _, _, _, heap_alloc_new w.drew _⟩
theorem nums_of (l : List UInt8) : strOfNums (l.map fun x => (x.toNat : Int)) = ⟨l.toArray⟩ := by
  unfold strOfNums
  congr 1
  rw [List.map_map]
  congr 1
  rw [show ((fun n : Int => UInt8.ofNat n.toNat) ∘ fun x : UInt8 => (x.toNat : Int)) = id from by funext x; simp]
  simp
theorem conv_str (w : World) (v : Value) (l : List UInt8) (h : Slc w v (bv l)) : (convert 22 9 v).run Tryz.prog w = .ok (.string ⟨l.toArray⟩) w := by
  rcases h with ⟨rfl, h⟩ | ⟨b, o, cap, rfl, hc⟩
  · obtain rfl : l = [] := by cases l with | nil => rfl | cons x l => simp [bv] at h
    exact run_convert_bytes_nil w _ _ Tryz.underlying22 Tryz.underlying5 0 0 _ Tryz.underlying9
  · rw [← nums_of, bv_length]
    refine run_convert_bytes_arg w _ _ Tryz.underlying22 Tryz.underlying5 b o l.length cap _ (by simp) (fun j hj => ?_) _ Tryz.underlying9
    rw [hc j _ (by rw [List.getElem?_eq_getElem (by simpa using hj), bv_getElem])]
    simp [List.getD_eq_getElem?_getD, hj]
theorem slice_cells {w : World} {b len cap : Nat} {l : List UInt8} (h : Reads w (.slice (some ⟨b, 0, none⟩) len cap) (bv l)) : len = l.length ∧ ∀ j u, (bv l)[j]? = some u → w.cell? ⟨b, 0 + j, none⟩ = some u := by
  obtain ⟨a, c, e, hc⟩ := h
  injection e with e1 e2 e3
  refine ⟨by rw [e2, bv_length], fun j u hu => ?_⟩
  obtain ⟨hj, hju⟩ := List.getElem?_eq_some_iff.1 hu
  obtain ⟨b', o, ha, hcl⟩ := hc j hj
  rw [ha] at e1
  injection e1 with e1
  injection e1 with e1 e4
  subst e1
  subst e4
  rw [hcl, hju]
end Go.Proofs.YtelehfefhlgbkaaGreatDoor
