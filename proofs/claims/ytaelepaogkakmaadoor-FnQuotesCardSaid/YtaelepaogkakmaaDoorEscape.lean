/- The escape of a character: the program's (a map, a row under way) and the model's answers. -/
import Derived.Test.YtaelepaogkakmaaDoorMapI
import Derived.Test.YtaelepaogkakmaaDoorQuoteMath
import Derived.Test.YtaelepaogkakmaaDoorPutRune
import Derived.Test.YtaelepaogkakmaaDoorFromRunes
import Derived.Test.YtaelepaogkakmaaDoorHex
import Derived.Lib.AppendStr
import Derived.Lib.Hide
namespace Go.Proofs.YtaelepaogkakmaaDoor
open Go.RowKit Go.Maps
set_option maxRecDepth 100000
def f1 (k : Int) : Option Int := (escB k).map fun c => (c.toNat : Int)
theorem f1_upd : upd (upd (upd (upd (upd (upd (upd (fun _ => none) 34 34) 92 92) 8 98) 9 116) 10 110) 12 102) 13 114 = f1 := by
  funext x
  rcases escB_cases x with ⟨rfl, e⟩ | ⟨rfl, e⟩ | ⟨rfl, e⟩ | ⟨rfl, e⟩ | ⟨rfl, e⟩ | ⟨rfl, e⟩ | ⟨rfl, e⟩ | ⟨h1, h2, h3, h4, h5, h6, h7, e⟩
  all_goals unfold f1; rw [e]
  all_goals first | rfl | (unfold upd; simp only [if_neg h1, if_neg h2, if_neg h3, if_neg h4, if_neg h5, if_neg h6, if_neg h7]; rfl)
/-- block b is the program's map of letters -/
def MapL (w : World) (b : Nat) : Prop := MapI Tryd.prog 3 5 .i64 .u8 w b 7 f1
theorem MapL.kept {w w' : World} {b : Nat} {row : Option Nat} (h : MapL w b) (hg : w.grownBy w' row) (hne : some b ≠ row) : MapL w' b := MapI.kept h hg hne
theorem MapL.below {w w' : World} {b N : Nat} (h : MapL w b) (hb : Below N w w') (hN : b < N) : MapL w' b := MapI.below h hb hN
theorem MapL.lt {w : World} {b : Nat} (h : MapL w b) : b < w.heap.size := MapI.lt h
theorem zero8 (w : World) : (zeroValue 5).run Tryd.prog w = .ok (.int .u8 0) w := by kernel_rfl
theorem wf_i64 {n : Int} (h0 : -9223372036854775808 ≤ n) (h1 : n ≤ 9223372036854775807) : (Lit.int .i64 n).wf = true := WalkArith.wf_i64 (by omega)
theorem letters_impl (w : World) : Calls Tryd.prog 31 #[] w fun e w' => ∃ b, e = .returned (.map (some b)) ∧ w.heap.size ≤ b ∧ MapL w' b ∧ Below w.heap.size w w' := by
  have hmm := @run_makeMap Tryd.prog
  have hown : MapI Tryd.prog 3 5 .i64 .u8 (w.alloc (.map #[] 0)) w.heap.size 0 (fun _ => none) := MapI.made w
  have hb := below_alloc w (.map #[] 0)
  go_enter Tryd.func31, Tryd.ntmps31
  go_wp2_with (refine wpList_insert_I _ rfl _ _ _ _ rfl 3 5 .i64 .u8 Tryd.underlying3 Tryd.underlying5 Tryd.underlying42 _ _ _ rfl hown (by unfold maxLen; omega) _ _ rfl rfl (by decide) (by decide) ?_; intro w1 h1 g1; replace hb := hb.trans (grown_belowN g1 hb.size (fun k hk => by cases hk; exact Nat.le_refl _)); replace hown := h1; clear h1 g1)
  rw [f1_upd] at hown
  go_ret
  exact ⟨_, rfl, Nat.le_refl _, hown, hb⟩
/-- a row under way that has come to hold l -/
def Grew (w : World) (B : Nat) (v : Value) (l : List UInt8) (e : Ending) (w' : World) : Prop :=
  ∃ v', e = .returned v' ∧ w'.ownsRow B 5 1 v' l.length (bv l) ∧ w.grownBy w' v.ownBlock
theorem alloc_grown {w w' : World} {o : Obj} {r : Option Nat} (h : (w.alloc o).grownBy w' r) : w.grownBy w' r :=
  ⟨h.os, h.tape, h.output, by have := h.size; simp at this; omega, fun i hi hr => (h.block i (by simp; omega) hr).trans (heap_alloc_old w o hi)⟩
theorem append_grown (w : World) (B : Nat) (v : Value) (l : List UInt8) (n : Int) (hown : w.ownsRow B 5 1 v l.length (bv l)) (hB : B ≤ w.heap.size) (hl : l.length ≤ 140737488355000) :
    Calls Tryd.prog 40 #[v, .int .i64 n] w (Grew w B v (l ++ encR n)) := by
  by_cases h : okR n
  · have c := runeok_impl_yes h w
    have h2 := okR_un h
    have hn0 : -2147483648 ≤ n := by omega
    have hn1 : n ≤ 2147483647 := by omega
    have ca := Tryd.utf8_AppendRune_plain B v l.length (bv l) n hn0 hn1 w hown (by omega) hB
    have e1 : Lib.runeCells n = bv (encR n) := by
      unfold encR; rw [if_pos h, bv_cells, Lib.byteCells_encodeRune]
    rw [e1, bv_length] at ca
    clear h2 hown
    go_enter Tryd.func40, Tryd.ntmps40
    go_wp2_with fail
    refine c.mono ?_
    rintro e w' ⟨rfl, rfl⟩
    go_wp2_with fail
    refine ca.mono ?_
    rintro e w' ⟨v', rfl, hown, o, hg⟩
    go_wp2
    go_ret
    exact ⟨_, rfl, by rw [List.length_append, bv_append]; exact hown, alloc_grown hg⟩
  · have c := runeok_impl_no h w
    rw [enc_bad h, List.append_nil]
    go_enter Tryd.func40, Tryd.ntmps40
    go_wp2_with fail
    refine c.mono ?_
    rintro e w' ⟨rfl, rfl⟩
    go_wp2
    go_ret
    exact ⟨_, rfl, hown, ⟨rfl, rfl, rfl, Nat.le_refl _, fun _ _ _ => rfl⟩⟩
theorem below_grown {w w1 w2 : World} {r : Option Nat} (hb : Below w.heap.size w w1) (h : w1.grownBy w2 r) : w.grownBy w2 r :=
  ⟨h.os.trans hb.os, h.tape.trans hb.tape, h.output.trans hb.output, Nat.le_trans hb.size h.size, fun i hi hr => (h.block i (Nat.lt_of_lt_of_le hi hb.size) hr).trans (hb.block i hi)⟩
theorem bv_two (c d : UInt8) : bv [c, d] = [.int .u8 c.toNat, .int .u8 d.toNat] := rfl
theorem one_byte {n : Int} (h0 : 0 ≤ n) (h1 : n < 256) : bv [UInt8.ofNat n.toNat] = [.int .u8 n] := by
  have : (UInt8.ofNat n.toNat).toNat = n.toNat := by simp; omega
  show [Value.int .u8 ((UInt8.ofNat n.toNat).toNat : Int)] = _
  rw [this]; congr 2; omega
theorem one_slc (w : World) (n : Int) (h0 : 0 ≤ n) (h1 : n < 256) : Slc (w.alloc (.cells #[.int .u8 n] 5)) (.slice (some ⟨w.heap.size, 0, none⟩) 1 1) (bv [UInt8.ofNat n.toNat]) := by
  rw [one_byte h0 h1]
  refine .inr ⟨_, 0, 1, rfl, fun j u hu => ?_⟩
  match j, hu with
  | 0, hu => have := cell_one_new w (.int .u8 n) 5 0 u hu; rw [addr_add] at this; exact this
  | (j + 1), hu => simp at hu
theorem ba_app (a b : List UInt8) : (ByteArray.mk a.toArray) ++ (ByteArray.mk b.toArray) = ByteArray.mk (a ++ b).toArray := by apply ByteArray.ext; simp
theorem size_cat4 (h : List UInt8) : (({ data := #[92, 117, 48, 48] } : ByteArray) ++ { data := h.toArray }).size = 4 + h.length := by simp [ByteArray.size]; omega
theorem str_cat4 (h : List UInt8) : Lib.strCells (({ data := #[92, 117, 48, 48] } : ByteArray) ++ { data := h.toArray }) = bv ([92, 117, 48, 48] ++ h) := by simp [Lib.strCells, bv]
theorem appescape_impl (w : World) (B : Nat) (v : Value) (l : List UInt8) (n : Int) (b : Nat) (h0 : -9223372036854775808 ≤ n) (h1 : n ≤ 9223372036854775807) (hown : w.ownsRow B 5 1 v l.length (bv l)) (hB : B ≤ w.heap.size) (hl : l.length ≤ 140737488350000) (hM : MapL w b) :
    Calls Tryd.prog 32 #[v, .int .i64 n, .map (some b)] w (Grew w B v (l ++ escL n)) := by
  obtain ⟨i0, hi, hz0, hz1, hz2⟩ := info_parts byteInfo'
  have hlk := MapI.look hM Tryd.underlying3 Tryd.underlying5 Tryd.underlying42 (zero8 w) n (wf_i64 h0 h1)
  have HO := Lib.hid hown
  clear hown hM
  cases hE : escB n with
  | some c =>
    have e1 : f1 n = some (c.toNat : Int) := by unfold f1; rw [hE]; rfl
    rw [e1] at hlk
    rw [escL_letter hE]
    simp only [Option.getD_some, Option.isSome_some] at hlk
    clear hE e1
    go_enter Tryd.func32, Tryd.ntmps32
    go_wp2_with (at_builtin; refine wpList_append_own _ rfl _ _ 22 rfl B 5 i0 (.int .u8 0) 1 1 Tryd.underlying22 hi hz0 hz1 hz2 rfl (by decide) _ _ _ rfl (HO.out.alloc _) ⟨w.heap.size, 0, none⟩ 2 2 [.int .u8 92, .int .u8 c.toNat] rfl rfl ?c1 ?c2 ?c3 ?c4 ?c5 ?_)
    case c1 => exact World.news_of_block (cs := #[.int .u8 92, .int .u8 c.toNat]) (t := 5) (fr := (0, 0)) (heap_alloc_new w _)
    case c2 => intro u hu; simp at hu; rcases hu with rfl | rfl <;> rfl
    case c3 => unfold maxLen; omega
    case c4 => omega
    case c5 => simp; omega
    intro v' w1 hown1 hg1 _
    go_wp2
    go_ret
    refine ⟨_, rfl, ?_, alloc_grown hg1⟩
    rw [List.length_append, bv_append]
    exact hown1
  | none =>
    have e1 : f1 n = none := by unfold f1; rw [hE]; rfl
    rw [e1] at hlk
    simp only [Option.getD_none, Option.isSome_none] at hlk
    clear e1
    by_cases hn : 0 ≤ n ∧ n < 32
    · rw [escL_low hE hn.1 hn.2]
      obtain ⟨hn0, hn1⟩ := hn
      have hcv := conv_str (w.alloc (.cells #[.int .u8 n] 5)) _ _ (one_slc w n hn0 (by omega))
      have hx := hextext_impl [UInt8.ofNat n.toNat] (w.alloc (.cells #[.int .u8 n] 5)) (by simp)
      have hwr : IntKind.u8.wrap n = n := by rw [IntKind.wrap_u8']; omega
      have hxl : (hexL [UInt8.ofNat n.toNat]).length = 2 := rfl
      generalize hexL [UInt8.ofNat n.toNat] = hx2 at *
      have hsz : (ByteArray.mk hx2.toArray).size = 2 := by rw [size_l]; exact hxl
      clear hE h0 h1
      generalize (ByteArray.mk [UInt8.ofNat n.toNat].toArray) = s1 at *
      go_enter Tryd.func32, Tryd.ntmps32
      go_wp2_with fail
      refine hx.mono ?_
      rintro e w1 ⟨rfl, b1⟩
      have hb1 : Below w.heap.size w w1 := (below_alloc w _).trans (b1.mono (by simp))
      have hown1 := own_below HO.out hb1
      have HO1 := Lib.hid hown1
      have HB1 := Lib.hid hb1
      clear b1 hown1 hb1 hcv hx
      have hcat : ¬ (9223372036854775807 < [(92 : UInt8), 117, 48, 48].length + hx2.length) := by simp; omega
      go_wp2_with (at_builtin; refine Lib.wpList_append_own_string _ rfl _ _ 22 9 rfl B 5 i0 Tryd.underlying22 Tryd.underlying9 hi hz0 hz1 hz2 _ _ _ rfl HO1.out _ rfl ?c3 ?c4 ?c5 ?_)
      case c3 => simp only [size_cat4, hxl]; unfold maxLen; omega
      case c4 => simp only [size_cat4, hxl]; omega
      case c5 => exact Nat.le_trans hB HB1.out.size
      intro v' w2 hown2 hg2 _
      have hg := below_grown HB1.out hg2
      rw [str_cat4] at hown2
      have HO2 := Lib.hid hown2
      have HG2 := Lib.hid hg
      clear hown2 hg2 hg hcat
      go_wp2
      go_ret
      refine ⟨_, rfl, ?_, HG2.out⟩
      have hfin := HO2.out
      have e6 : l.length + 6 = l.length + ([92, 117, 48, 48] ++ hx2).length := by simp; omega
      rw [e6] at hfin
      rw [List.length_append, bv_append]
      exact hfin
    · rw [escL_plain hE hn]
      have ca := append_grown w B v l n HO.out hB (by omega)
      have hn' : ¬ (0 ≤ n) ∨ (0 ≤ n ∧ ¬ n < 32) := by omega
      clear hE
      rcases hn' with hn | ⟨hn, hn2⟩
      · clear h0 h1
        go_enter Tryd.func32, Tryd.ntmps32
        go_wp2_with fail
        refine ca.mono ?_
        rintro e w1 ⟨v', rfl, hown1, hg1⟩
        go_wp2
        go_ret
        exact ⟨_, rfl, hown1, hg1⟩
      · clear h0 h1
        go_enter Tryd.func32, Tryd.ntmps32
        go_wp2_with fail
        refine ca.mono ?_
        rintro e w1 ⟨v', rfl, hown1, hg1⟩
        go_wp2
        go_ret
        exact ⟨_, rfl, hown1, hg1⟩
theorem escapeof_impl (n : Int) (w : World) (h0 : -9223372036854775808 ≤ n) (h1 : n ≤ 9223372036854775807) : Calls Tryd.prog 19 #[.int .i64 n] w fun e w' => e = .returned (.string ⟨(escL n).toArray⟩) ∧ Below w.heap.size w w' := by
  have hl := letters_impl w
  have CA := Lib.hid (fun (w1 : World) (b : Nat) (hM : MapL w1 b) => appescape_impl w1 w1.heap.size (.slice none 0 0) [] n b h0 h1 (World.ownsRow_nil _ _ _ _) (Nat.le_refl _) (by simp) hM)
  clear h0 h1
  go_enter Tryd.func19, Tryd.ntmps19
  go_wp2_with fail
  refine hl.mono ?_
  rintro e w1 ⟨b, rfl, _, hM, b1⟩
  have ca := CA.out w1 b hM
  rw [List.nil_append] at ca
  have B1 := Lib.hid b1
  clear b1 hM hl
  go_wp2_with fail
  refine ca.mono ?_
  rintro e w2 ⟨v', rfl, hown, hg⟩
  have hcv := conv_str w2 _ _ (own_slc hown)
  have b2 := Below.trans B1.out (grown_belowN (N := w.heap.size) hg B1.out.size (fun k hk => by cases hk))
  have B2 := Lib.hid b2
  generalize hs : (ByteArray.mk (escL n).toArray) = s at *
  have HS := Lib.hid hs
  clear hown hg b2 ca hs
  go_wp2
  go_ret
  exact ⟨by rw [HS.out]; rfl, B2.out⟩
theorem ok_encL {n : Int} (h : escB n = none) (hn : 32 ≤ n) : escL n = encR n := escL_plain h (by omega)
set_option maxHeartbeats 1000000 in
theorem escapeof_spec (n : Int) (w : World) : Calls Tryd.prog 24 #[.int .i64 n] w fun e w' => e = .returned (.string ⟨(escL n).toArray⟩) ∧ Below w.heap.size w w' := by
  by_cases hok : okR n
  · have c := runeok_spec_yes hok w
    rcases escB_cases n with ⟨rfl, e⟩ | ⟨rfl, e⟩ | ⟨rfl, e⟩ | ⟨rfl, e⟩ | ⟨rfl, e⟩ | ⟨rfl, e⟩ | ⟨rfl, e⟩ | ⟨h1, h2, h3, h4, h5, h6, h7, e⟩
    all_goals first
      | (rw [escL_letter e]
         clear e hok
         go_enter Tryd.func24, Tryd.ntmps24
         go_wp2_with fail
         refine c.mono ?_
         rintro e w' ⟨rfl, rfl⟩
         go_wp2
         go_ret
         exact ⟨rfl, Below.refl _ _⟩)
      | skip
    have g1 : ((n : Int) == 34) = false := by simp; exact h1
    have g2 : ((n : Int) == 92) = false := by simp; exact h2
    have g3 : ((n : Int) == 8) = false := by simp; exact h3
    have g4 : ((n : Int) == 9) = false := by simp; exact h4
    have g5 : ((n : Int) == 10) = false := by simp; exact h5
    have g6 : ((n : Int) == 12) = false := by simp; exact h6
    have g7 : ((n : Int) == 13) = false := by simp; exact h7
    have hu := okR_un hok
    have hn0 : 0 ≤ n := by omega
    clear h1 h2 h3 h4 h5 h6 h7
    by_cases hn : n < 32
    · rw [escL_low e hn0 hn]
      have hcv := conv_str (w.alloc (.cells #[.int .u8 n] 5)) _ _ (one_slc w n hn0 (by omega))
      have hx := hextext_spec [UInt8.ofNat n.toNat] (w.alloc (.cells #[.int .u8 n] 5)) (by simp)
      have hwr : IntKind.u8.wrap n = n := by rw [IntKind.wrap_u8']; omega
      have hxl : (hexL [UInt8.ofNat n.toNat]).length = 2 := rfl
      generalize hexL [UInt8.ofNat n.toNat] = hx2 at *
      have hcat : ¬ (9223372036854775807 < [(92 : UInt8), 117, 48, 48].length + hx2.length) := by simp; omega
      have hsz : (ByteArray.mk hx2.toArray).size = 2 := by rw [size_l]; exact hxl
      clear e hok hu
      generalize (ByteArray.mk [UInt8.ofNat n.toNat].toArray) = s1 at *
      go_enter Tryd.func24, Tryd.ntmps24
      go_wp2_with fail
      refine c.mono ?_
      rintro e w' ⟨rfl, rfl⟩
      go_wp2_with fail
      refine hx.mono ?_
      rintro e w1 ⟨rfl, b1⟩
      have hb1 : Below w.heap.size w w1 := (below_alloc w _).trans (b1.mono (by simp))
      have HB1 := Lib.hid hb1
      clear b1 hb1 hcv hx
      go_wp2
      go_ret
      exact ⟨by simp; exact ba_app [92, 117, 48, 48] hx2, HB1.out⟩
    · rw [escL_plain e (by omega)]
      have cf := fromrunes_spec (w.alloc (.cells #[.int .i64 n] 3)) (.slice (some ⟨w.heap.size, 0, none⟩) 1 1) [n] (one_reads w n) (by simp)
      rw [flat_one] at cf
      clear e hok hu hn0
      go_enter Tryd.func24, Tryd.ntmps24
      go_wp2_with fail
      refine c.mono ?_
      rintro e w' ⟨rfl, rfl⟩
      go_wp2_with fail
      refine cf.mono ?_
      rintro e w1 ⟨rfl, b1⟩
      have hb1 : Below w.heap.size w w1 := (below_alloc w _).trans (b1.mono (by simp))
      go_wp2
      go_ret
      exact ⟨rfl, hb1⟩
  · have c := runeok_spec_no hok w
    have e1 : escL n = [] := by
      have hne : escB n = none := by
        cases h : escB n with
        | none => rfl
        | some c => have := escB_ok h; exact absurd (okR_mk (by omega)) hok
      have : ¬ (0 ≤ n ∧ n < 32) := fun g => hok (okR_mk (by omega))
      rw [escL_plain hne this, enc_bad' hok]
    rw [e1]
    clear e1 hok
    go_enter Tryd.func24, Tryd.ntmps24
    go_wp2_with fail
    refine c.mono ?_
    rintro e w' ⟨rfl, rfl⟩
    go_wp2
    go_ret
    exact ⟨rfl, Below.refl _ _⟩
where
  one_reads (w : World) (n : Int) : Reads (w.alloc (.cells #[.int .i64 n] 3)) (.slice (some ⟨w.heap.size, 0, none⟩) 1 1) (iv [n]) := by
    refine ⟨_, 1, rfl, fun j hj => ⟨w.heap.size, 0, rfl, ?_⟩⟩
    match j, hj with
    | 0, _ => have := cell_one_new w (.int .i64 n) 3 0 _ rfl; rw [addr_add] at this; exact this
end Go.Proofs.YtaelepaogkakmaaDoor
