/- The encoding of a character behind given bytes: the program's and the model's answers, and that they own their memory. -/
import Derived.Test.YtaelepaogkakmaaDoorRows
import Derived.Test.YtaelepaogkakmaaDoorIn
import Derived.Test.YtaelepaogkakmaaDoorMem
import Derived.Test.YtaelepaogkakmaaDoorFill
import Derived.Test.YtaelepaogkakmaaDoorFresh
import Derived.Test.YtaelepaogkakmaaDoorShelf
import Derived.Test.YtaelepaogkakmaaDoorRune
import Derived.WalkKit
import Derived.Lib.Hide
import Derived.Lib.RuneBytes
import Derived.Outline
import Derived.ProofKit
namespace Go.Proofs.YtaelepaogkakmaaDoor
open Go.RowKit
theorem bv_cells (l : List UInt8) : bv l = Lib.byteCells l := rfl
theorem enc_one {n : Int} (h : 0 ≤ n) (k : n < 128) : bv (encR n) = [.int .u8 n] := by
  unfold encR; rw [if_pos (okR_mk (by omega)), bv_cells, Lib.byteCells_encodeRune, Lib.runeCells, Lib.encodeRuneZ_one (by omega) (by omega)]; rfl
theorem enc_two {n : Int} (h : 128 ≤ n) (k : n < 2048) : bv (encR n) = [.int .u8 (192 + n / 64), .int .u8 (128 + n % 64)] := by
  unfold encR; rw [if_pos (okR_mk (by omega)), bv_cells, Lib.byteCells_encodeRune, Lib.runeCells, Lib.encodeRuneZ_two (by omega) (by omega)]; rfl
theorem enc_three {n : Int} (h : 2048 ≤ n) (k : n < 65536) (g : n < 55296 ∨ 57343 < n) : bv (encR n) = [.int .u8 (224 + n / 4096), .int .u8 (128 + n / 64 % 64), .int .u8 (128 + n % 64)] := by
  unfold encR; rw [if_pos (okR_mk (by omega)), bv_cells, Lib.byteCells_encodeRune, Lib.runeCells, Lib.encodeRuneZ_three (by omega)]; rfl
theorem enc_four {n : Int} (h : 65536 ≤ n) (k : n ≤ 1114111) : bv (encR n) = [.int .u8 (240 + n / 262144), .int .u8 (128 + n / 4096 % 64), .int .u8 (128 + n / 64 % 64), .int .u8 (128 + n % 64)] := by
  unfold encR; rw [if_pos (okR_mk (by omega)), bv_cells, Lib.byteCells_encodeRune, Lib.runeCells, Lib.encodeRuneZ_four (by omega) (by omega)]; rfl
theorem enc_bad {n : Int} (h : ¬ okR n) : encR n = [] := by unfold encR; rw [if_neg h]
theorem put_spec (w : World) (b o cap : Nat) (l : List UInt8) (n : Int) (hc : ∀ j u, (bv l)[j]? = some u → w.cell? ⟨b, o + j, none⟩ = some u) (hl : l.length ≤ 1099511627776) :
    Calls Tryd.prog 60 #[.slice (some ⟨b, o, none⟩) l.length cap, .int .i64 n] w (Fresh w (l ++ encR n)) := by
  obtain ⟨i0, hi, hz0, hz1, hz2⟩ := info_parts byteInfo'
  have cw := wide_spec n
  have c1 : ∀ o', ∀ j u, (bv l)[j]? = some u → (w.alloc o').cell? ((⟨b, o, none⟩ : Addr).add j) = some u := by
    intro o' j u hu
    rw [addr_add, ((Below.refl w.heap.size w).alloc (Nat.le_refl _) o').cell (p := ⟨b, o + j, none⟩) (cell_lt (hc j u hu))]
    exact hc j u hu
  go_enter Tryd.func60, Tryd.ntmps60
  go_wp2_with (at_builtin; refine wpList_append_own _ rfl _ _ 22 rfl w.heap.size 5 i0 (.int .u8 0) 1 1 Tryd.underlying22 hi hz0 hz1 hz2 rfl (by decide) _ _ _ rfl (World.ownsRow_made w #[] 0 (Nat.le_refl _) (by decide) rfl) ⟨b, o, none⟩ l.length cap (bv l) rfl (by simp) (c1 _) (bv_cell l) ?c3 ?c4 ?c5 ?_)
  case c3 => unfold maxLen; omega
  case c4 => omega
  case c5 => simp
  intro v1 w1 hown hgrow hnil
  have hb1 : Below w.heap.size w w1 := ((Below.refl w.heap.size w).alloc (Nat.le_refl _) _).trans (grown_belowN hgrow (by simp) (by simp [Value.ownBlock]))
  have HN := Lib.hid hnil
  clear hgrow hnil c1 hc
  rcases wideR_cases n with ⟨h0, h1, e⟩ | ⟨h0, h1, e⟩ | ⟨h0, h1, h2, e⟩ | ⟨h0, h1, e⟩ | ⟨h0, e⟩
  · rw [e] at cw
    go_wp2_with fail
    refine (cw _).mono ?_
    rintro e' w' ⟨rfl, rfl⟩
    have hm : n % 256 = n := by omega
    go_wp2_with (at_builtin; refine wpList_append_own _ rfl _ _ 22 rfl w.heap.size 5 i0 (.int .u8 0) 1 1 Tryd.underlying22 hi hz0 hz1 hz2 rfl (by decide) _ _ _ rfl (hown.alloc _) ⟨w1.heap.size, 0, none⟩ 1 1 [.int .u8 n] rfl rfl ?c1 ?c2 ?c3 ?c4 ?c5 ?_)
    case c1 =>
      intro j u hj
      match j, hj with
      | 0, hj => simp at hj; subst hj; simp [Addr.add]
      | (j + 1), hj => simp at hj
    case c2 => intro u hu; simp at hu; rcases hu with rfl; rfl
    case c3 => unfold maxLen; omega
    case c4 => omega
    case c5 => have := hb1.size; simp; omega
    intro v2 w2 hown2 hgrow _
    have hb2 := below_step hb1 hb1.size hown hgrow
    clear hgrow hown
    go_wp2
    go_ret
    refine ⟨_, rfl, own_nonnil hown2 (by omega), ?_, hb2⟩
    rw [List.length_append, encR_len, e, bv_append, enc_one h0 h1]
    exact hown2
  · rw [e] at cw
    go_wp2_with fail
    refine (cw _).mono ?_
    rintro e' w' ⟨rfl, rfl⟩
    have hm1 : (192 + n / 64) % 256 = 192 + n / 64 := by omega
    have hm2 : (128 + n % 64) % 256 = 128 + n % 64 := by omega
    go_wp2_with (at_builtin; refine wpList_append_own _ rfl _ _ 22 rfl w.heap.size 5 i0 (.int .u8 0) 1 1 Tryd.underlying22 hi hz0 hz1 hz2 rfl (by decide) _ _ _ rfl (hown.alloc _) ⟨w1.heap.size, 0, none⟩ 2 2 [.int .u8 (192 + n / 64), .int .u8 (128 + n % 64)] rfl rfl ?c1 ?c2 ?c3 ?c4 ?c5 ?_)
    case c1 =>
      intro j u hj
      match j, hj with
      | 0, hj => simp at hj; subst hj; simp [Addr.add]
      | 1, hj => simp at hj; subst hj; simp [Addr.add]
      | (j + 2), hj => simp at hj
    case c2 => intro u hu; simp at hu; rcases hu with rfl | rfl <;> rfl
    case c3 => unfold maxLen; omega
    case c4 => omega
    case c5 => have := hb1.size; simp; omega
    intro v2 w2 hown2 hgrow _
    have hb2 := below_step hb1 hb1.size hown hgrow
    clear hgrow hown
    go_wp2
    go_ret
    refine ⟨_, rfl, own_nonnil hown2 (by omega), ?_, hb2⟩
    rw [List.length_append, encR_len, e, bv_append, enc_two h0 h1]
    exact hown2
  · rw [e] at cw
    go_wp2_with fail
    refine (cw _).mono ?_
    rintro e' w' ⟨rfl, rfl⟩
    have hm1 : (224 + n / 4096) % 256 = 224 + n / 4096 := by omega
    have hm2 : (128 + n / 64 % 64) % 256 = 128 + n / 64 % 64 := by omega
    have hm3 : (128 + n % 64) % 256 = 128 + n % 64 := by omega
    go_wp2_with (at_builtin; refine wpList_append_own _ rfl _ _ 22 rfl w.heap.size 5 i0 (.int .u8 0) 1 1 Tryd.underlying22 hi hz0 hz1 hz2 rfl (by decide) _ _ _ rfl (hown.alloc _) ⟨w1.heap.size, 0, none⟩ 3 3 [.int .u8 (224 + n / 4096), .int .u8 (128 + n / 64 % 64), .int .u8 (128 + n % 64)] rfl rfl ?c1 ?c2 ?c3 ?c4 ?c5 ?_)
    case c1 =>
      intro j u hj
      match j, hj with
      | 0, hj => simp at hj; subst hj; simp [Addr.add]
      | 1, hj => simp at hj; subst hj; simp [Addr.add]
      | 2, hj => simp at hj; subst hj; simp [Addr.add]
      | (j + 3), hj => simp at hj
    case c2 => intro u hu; simp at hu; rcases hu with rfl | rfl | rfl <;> rfl
    case c3 => unfold maxLen; omega
    case c4 => omega
    case c5 => have := hb1.size; simp; omega
    intro v2 w2 hown2 hgrow _
    have hb2 := below_step hb1 hb1.size hown hgrow
    clear hgrow hown
    go_wp2
    go_ret
    refine ⟨_, rfl, own_nonnil hown2 (by omega), ?_, hb2⟩
    rw [List.length_append, encR_len, e, bv_append, enc_three h0 h1 h2]
    exact hown2
  · rw [e] at cw
    go_wp2_with fail
    refine (cw _).mono ?_
    rintro e' w' ⟨rfl, rfl⟩
    have hm1 : (240 + n / 262144) % 256 = 240 + n / 262144 := by omega
    have hm2 : (128 + n / 4096 % 64) % 256 = 128 + n / 4096 % 64 := by omega
    have hm3 : (128 + n / 64 % 64) % 256 = 128 + n / 64 % 64 := by omega
    have hm4 : (128 + n % 64) % 256 = 128 + n % 64 := by omega
    go_wp2_with (at_builtin; refine wpList_append_own _ rfl _ _ 22 rfl w.heap.size 5 i0 (.int .u8 0) 1 1 Tryd.underlying22 hi hz0 hz1 hz2 rfl (by decide) _ _ _ rfl (hown.alloc _) ⟨w1.heap.size, 0, none⟩ 4 4 [.int .u8 (240 + n / 262144), .int .u8 (128 + n / 4096 % 64), .int .u8 (128 + n / 64 % 64), .int .u8 (128 + n % 64)] rfl rfl ?c1 ?c2 ?c3 ?c4 ?c5 ?_)
    case c1 =>
      intro j u hj
      match j, hj with
      | 0, hj => simp at hj; subst hj; simp [Addr.add]
      | 1, hj => simp at hj; subst hj; simp [Addr.add]
      | 2, hj => simp at hj; subst hj; simp [Addr.add]
      | 3, hj => simp at hj; subst hj; simp [Addr.add]
      | (j + 4), hj => simp at hj
    case c2 => intro u hu; simp at hu; rcases hu with rfl | rfl | rfl | rfl <;> rfl
    case c3 => unfold maxLen; omega
    case c4 => omega
    case c5 => have := hb1.size; simp; omega
    intro v2 w2 hown2 hgrow _
    have hb2 := below_step hb1 hb1.size hown hgrow
    clear hgrow hown
    go_wp2
    go_ret
    refine ⟨_, rfl, own_nonnil hown2 (by omega), ?_, hb2⟩
    rw [List.length_append, encR_len, e, bv_append, enc_four h0 h1]
    exact hown2
  · rw [e] at cw
    go_wp2_with fail
    refine (cw _).mono ?_
    rintro e' w' ⟨rfl, rfl⟩
    go_wp2
    go_ret
    refine ⟨_, rfl, HN.out, ?_, hb1⟩
    rw [enc_bad h0, List.append_nil]
    exact hown
theorem append_impl (w : World) (B : Nat) (v : Value) (l : List UInt8) (n : Int) (hown : w.ownsRow B 5 1 v l.length (bv l)) (hB : B ≤ w.heap.size) (hl : l.length ≤ 140737488355000) :
    Calls Tryd.prog 40 #[v, .int .i64 n] w fun e w' => ∃ v', e = .returned v' ∧ (v ≠ .slice none 0 0 → v' ≠ .slice none 0 0) ∧ w'.ownsRow B 5 1 v' (l ++ encR n).length (bv (l ++ encR n)) ∧ Below B w w' := by
  by_cases h : okR n
  · have c := runeok_impl_yes h w
    have h2 := okR_un h
    have hn0 : -2147483648 ≤ n := by omega
    have hn1 : n ≤ 2147483647 := by omega
    have ca := Tryd.utf8_AppendRune_plain B v l.length (bv l) n hn0 hn1 w hown (by omega) hB
    have hlt := hown.lt
    have e1 : Lib.runeCells n = bv (encR n) := by
      unfold encR; rw [if_pos h, bv_cells, Lib.byteCells_encodeRune]
    rw [e1, bv_length] at ca
    clear h2 hown
    go_enter Tryd.func40, Tryd.ntmps40
    go_wp2_with fail
    refine c.mono ?_
    rintro e w' ⟨rfl, rfl⟩
    go_wp2_with fail
    refine ca.mono ?_
    rintro e w' ⟨v', rfl, hown, o, hg⟩
    go_wp2
    go_ret
    have hpos : 0 < l.length + (encR n).length := by
      rw [encR_len]; rcases wideR_cases n with h' | h' | h' | h' | ⟨h', _⟩ <;> first | omega | exact absurd h h'
    exact ⟨_, rfl, fun _ => own_nonnil hown hpos, by rw [List.length_append, bv_append]; exact hown, ((Below.refl B w).alloc hB o).trans (grown_belowN hg (by simp; omega) (fun k hk => (hlt k hk).1))⟩
  · have c := runeok_impl_no h w
    rw [enc_bad h, List.append_nil]
    go_enter Tryd.func40, Tryd.ntmps40
    go_wp2_with fail
    refine c.mono ?_
    rintro e w' ⟨rfl, rfl⟩
    go_wp2
    go_ret
    exact ⟨_, rfl, id, hown, Below.refl _ _⟩
end Go.Proofs.YtaelepaogkakmaaDoor
