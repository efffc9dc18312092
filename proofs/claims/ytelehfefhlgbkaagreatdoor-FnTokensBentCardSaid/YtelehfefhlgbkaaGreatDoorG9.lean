import Derived.Test.YtelehfefhlgbkaaGreatDoorG8
import Derived.Test.YtelehfefhlgbkaaGreatDoorG7
import Derived.Test.YtelehfefhlgbkaaGreatDoorG2
import Derived.Test.YtelehfefhlgbkaaGreatDoorG3
import Derived.Lib.AppendStr
import Derived.Lib.Hide
import Derived.Test.YtelehfefhlgbkaaGreatDoorG4
import Derived.Test.YtelehfefhlgbkaaGreatDoorRows
import Derived.Test.YtelehfefhlgbkaaGreatDoorG0
import Derived.Test.YtelehfefhlgbkaaGreatDoorG1
import Derived.WalkKit
import Derived.Lib.ItoaNum
import Derived.Outline
import Derived.ProofKit
/- The escape of a character: the program's (a map, a row under way) and the model's answers. -/
namespace Go.Proofs.YtelehfefhlgbkaaGreatDoor
open Go.RowKit Go.Maps
set_option maxRecDepth 100000
def f1 (k : Int) : Option Int := (escB k).map fun c => (c.toNat : Int)
theorem f1_upd : upd (upd (upd (upd (upd (upd (upd (fun _ => none) 34 34) 92 92) 8 98) 9 116) 10 110) 12 102) 13 114 = f1 := by
  funext x
  rcases escB_cases x with ⟨rfl, e⟩ | ⟨rfl, e⟩ | ⟨rfl, e⟩ | ⟨rfl, e⟩ | ⟨rfl, e⟩ | ⟨rfl, e⟩ | ⟨rfl, e⟩ | ⟨h1, h2, h3, h4, h5, h6, h7, e⟩
  all_goals unfold f1; rw [e]
  all_goals first | rfl | (unfold upd; simp only [if_neg h1, if_neg h2, if_neg h3, if_neg h4, if_neg h5, if_neg h6, if_neg h7]; rfl)
/-- block b is the program's map of letters -/
def MapL (w : World) (b : Nat) : Prop := MapI Tryz.prog 3 5 .i64 .u8 w b 7 f1
theorem MapL.kept {w w' : World} {b : Nat} {row : Option Nat} (h : MapL w b) (hg : w.grownBy w' row) (hne : some b ≠ row) : MapL w' b := MapI.kept h hg hne
theorem MapL.below {w w' : World} {b N : Nat} (h : MapL w b) (hb : Below N w w') (hN : b < N) : MapL w' b := MapI.below h hb hN
theorem MapL.lt {w : World} {b : Nat} (h : MapL w b) : b < w.heap.size := MapI.lt h
theorem zero8 (w : World) : (zeroValue 5).run Tryz.prog w = .ok (.int .u8 0) w := by kernel_rfl
theorem wf_i64 {n : Int} (h0 : -9223372036854775808 ≤ n) (h1 : n ≤ 9223372036854775807) : (Lit.int .i64 n).wf = true := WalkArith.wf_i64 (by omega)
theorem letters_impl (w : World) : Calls Tryz.prog 53 #[] w fun e w' => ∃ b, e = .returned (.map (some b)) ∧ w.heap.size ≤ b ∧ MapL w' b ∧ Below w.heap.size w w' := by
  have hmm := @run_makeMap Tryz.prog
  have hown : MapI Tryz.prog 3 5 .i64 .u8 (w.alloc (.map #[] 0)) w.heap.size 0 (fun _ => none) := MapI.made w
  have hb := below_alloc w (.map #[] 0)
  go_enter Tryz.func53, Tryz.ntmps53
  go_wp2_with (refine wpList_insert_I _ rfl _ _ _ _ rfl 3 5 .i64 .u8 Tryz.underlying3 Tryz.underlying5 Tryz.underlying76 _ _ _ rfl hown (by unfold maxLen; omega) _ _ rfl rfl (by decide) (by decide) ?_; intro w1 h1 g1; replace hb := hb.trans (grown_belowN g1 hb.size (fun k hk => by cases hk; exact Nat.le_refl _)); replace hown := h1; clear h1 g1)
  rw [f1_upd] at hown
  go_ret
  exact ⟨_, rfl, Nat.le_refl _, hown, hb⟩
/-- a row under way that has come to hold l -/
def Grew (w : World) (B : Nat) (v : Value) (l : List UInt8) (e : Ending) (w' : World) : Prop :=
  ∃ v', e = .returned v' ∧ w'.ownsRow B 5 1 v' l.length (bv l) ∧ w.grownBy w' v.ownBlock
theorem alloc_grown {w w' : World} {o : Obj} {r : Option Nat} (h : (w.alloc o).grownBy w' r) : w.grownBy w' r :=
  ⟨h.os, h.tape, h.output, by have := h.size; simp at this; omega, fun i hi hr => (h.block i (by simp; omega) hr).trans (heap_alloc_old w o hi)⟩
theorem append_grown (w : World) (B : Nat) (v : Value) (l : List UInt8) (n : Int) (hown : w.ownsRow B 5 1 v l.length (bv l)) (hB : B ≤ w.heap.size) (hl : l.length ≤ 140737488355000) :
    Calls Tryz.prog 75 #[v, .int .i64 n] w (Grew w B v (l ++ encR n)) := by
  by_cases h : okR n
  · have c := runeok_impl_yes h w
    have h2 := okR_un h
    have hn0 : -2147483648 ≤ n := by omega
    have hn1 : n ≤ 2147483647 := by omega
    have ca := Tryz.utf8_AppendRune_plain B v l.length (bv l) n hn0 hn1 w hown (by omega) hB
    have e1 : Lib.runeCells n = bv (encR n) := by
      unfold encR; rw [if_pos h, bv_cells, Lib.byteCells_encodeRune]
    rw [e1, bv_length] at ca
    clear h2 hown
    go_enter Tryz.func75, Tryz.ntmps75
    go_wp2_with fail
    refine c.mono ?_
    rintro e w' ⟨rfl, rfl⟩
    go_wp2_with fail
    refine ca.mono ?_
    rintro e w' ⟨v', rfl, hown, o, hg⟩
    go_wp2
    go_ret
    exact ⟨_, rfl, by rw [List.length_append, bv_append]; exact hown, alloc_grown hg⟩
  · have c := runeok_impl_no h w
    rw [enc_bad h, List.append_nil]
    go_enter Tryz.func75, Tryz.ntmps75
    go_wp2_with fail
    refine c.mono ?_
    rintro e w' ⟨rfl, rfl⟩
    go_wp2
    go_ret
    exact ⟨_, rfl, hown, ⟨rfl, rfl, rfl, Nat.le_refl _, fun _ _ _ => rfl⟩⟩
theorem below_grown {w w1 w2 : World} {r : Option Nat} (hb : Below w.heap.size w w1) (h : w1.grownBy w2 r) : w.grownBy w2 r :=
  ⟨h.os.trans hb.os, h.tape.trans hb.tape, h.output.trans hb.output, Nat.le_trans hb.size h.size, fun i hi hr => (h.block i (Nat.lt_of_lt_of_le hi hb.size) hr).trans (hb.block i hi)⟩
theorem bv_two (c d : UInt8) : bv [c, d] = [.int .u8 c.toNat, .int .u8 d.toNat] := rfl
theorem one_byte {n : Int} (h0 : 0 ≤ n) (h1 : n < 256) : bv [UInt8.ofNat n.toNat] = [.int .u8 n] := by
  have : (UInt8.ofNat n.toNat).toNat = n.toNat := by simp; omega
  show [Value.int .u8 ((UInt8.ofNat n.toNat).toNat : Int)] = _
  rw [this]; congr 2; omega
theorem one_slc (w : World) (n : Int) (h0 : 0 ≤ n) (h1 : n < 256) : Slc (w.alloc (.cells #[.int .u8 n] 5)) (.slice (some ⟨w.heap.size, 0, none⟩) 1 1) (bv [UInt8.ofNat n.toNat]) := by
  rw [one_byte h0 h1]
  refine .inr ⟨_, 0, 1, rfl, fun j u hu => ?_⟩
  match j, hu with
  | 0, hu => have := cell_one_new w (.int .u8 n) 5 0 u hu; rw [addr_add] at this; exact this
  | (j + 1), hu => simp at hu
theorem ba_app (a b : List UInt8) : (ByteArray.mk a.toArray) ++ (ByteArray.mk b.toArray) = ByteArray.mk (a ++ b).toArray := by apply ByteArray.ext; simp
theorem size_cat4 (h : List UInt8) : (({ data := #[92, 117, 48, 48] } : ByteArray) ++ { data := h.toArray }).size = 4 + h.length := by simp [ByteArray.size]; omega
theorem str_cat4 (h : List UInt8) : Lib.strCells (({ data := #[92, 117, 48, 48] } : ByteArray) ++ { data := h.toArray }) = bv ([92, 117, 48, 48] ++ h) := by simp [Lib.strCells, bv]
theorem appescape_impl (w : World) (B : Nat) (v : Value) (l : List UInt8) (n : Int) (b : Nat) (h0 : -9223372036854775808 ≤ n) (h1 : n ≤ 9223372036854775807) (hown : w.ownsRow B 5 1 v l.length (bv l)) (hB : B ≤ w.heap.size) (hl : l.length ≤ 140737488350000) (hM : MapL w b) :
    Calls Tryz.prog 54 #[v, .int .i64 n, .map (some b)] w (Grew w B v (l ++ escL n)) := by
  obtain ⟨i0, hi, hz0, hz1, hz2⟩ := info_parts byteInfo'
  have hlk := MapI.look hM Tryz.underlying3 Tryz.underlying5 Tryz.underlying76 (zero8 w) n (wf_i64 h0 h1)
  have HO := Lib.hid hown
  clear hown hM
  cases hE : escB n with
  | some c =>
    have e1 : f1 n = some (c.toNat : Int) := by unfold f1; rw [hE]; rfl
    rw [e1] at hlk
    rw [escL_letter hE]
    simp only [Option.getD_some, Option.isSome_some] at hlk
    clear hE e1
    go_enter Tryz.func54, Tryz.ntmps54
    go_wp2_with (at_builtin; refine wpList_append_own _ rfl _ _ 22 rfl B 5 i0 (.int .u8 0) 1 1 Tryz.underlying22 hi hz0 hz1 hz2 rfl (by decide) _ _ _ rfl (HO.out.alloc _) ⟨w.heap.size, 0, none⟩ 2 2 [.int .u8 92, .int .u8 c.toNat] rfl rfl ?c1 ?c2 ?c3 ?c4 ?c5 ?_)
    case c1 => exact World.news_of_block (cs := #[.int .u8 92, .int .u8 c.toNat]) (t := 5) (fr := (0, 0)) (heap_alloc_new w _)
    case c2 => intro u hu; simp at hu; rcases hu with rfl | rfl <;> rfl
    case c3 => unfold maxLen; omega
    case c4 => omega
    case c5 => simp; omega
    intro v' w1 hown1 hg1 _
    go_wp2
    go_ret
    refine ⟨_, rfl, ?_, alloc_grown hg1⟩
    rw [List.length_append, bv_append]
    exact hown1
  | none =>
    have e1 : f1 n = none := by unfold f1; rw [hE]; rfl
    rw [e1] at hlk
    simp only [Option.getD_none, Option.isSome_none] at hlk
    clear e1
    by_cases hn : 0 ≤ n ∧ n < 32
    · rw [escL_low hE hn.1 hn.2]
      obtain ⟨hn0, hn1⟩ := hn
      have hcv := conv_str (w.alloc (.cells #[.int .u8 n] 5)) _ _ (one_slc w n hn0 (by omega))
      have hx := hextext_impl [UInt8.ofNat n.toNat] (w.alloc (.cells #[.int .u8 n] 5)) (by simp)
      have hwr : IntKind.u8.wrap n = n := by rw [IntKind.wrap_u8']; omega
      have hxl : (hexL [UInt8.ofNat n.toNat]).length = 2 := rfl
      generalize hexL [UInt8.ofNat n.toNat] = hx2 at *
      have hsz : (ByteArray.mk hx2.toArray).size = 2 := by rw [size_l]; exact hxl
      clear hE h0 h1
      generalize (ByteArray.mk [UInt8.ofNat n.toNat].toArray) = s1 at *
      go_enter Tryz.func54, Tryz.ntmps54
      go_wp2_with fail
      refine hx.mono ?_
      rintro e w1 ⟨rfl, b1⟩
      have hb1 : Below w.heap.size w w1 := (below_alloc w _).trans (b1.mono (by simp))
      have hown1 := own_below HO.out hb1
      have HO1 := Lib.hid hown1
      have HB1 := Lib.hid hb1
      clear b1 hown1 hb1 hcv hx
      have hcat : ¬ (9223372036854775807 < [(92 : UInt8), 117, 48, 48].length + hx2.length) := by simp; omega
      go_wp2_with (at_builtin; refine Lib.wpList_append_own_string _ rfl _ _ 22 9 rfl B 5 i0 Tryz.underlying22 Tryz.underlying9 hi hz0 hz1 hz2 _ _ _ rfl HO1.out _ rfl ?c3 ?c4 ?c5 ?_)
      case c3 => simp only [size_cat4, hxl]; unfold maxLen; omega
      case c4 => simp only [size_cat4, hxl]; omega
      case c5 => exact Nat.le_trans hB HB1.out.size
      intro v' w2 hown2 hg2 _
      have hg := below_grown HB1.out hg2
      rw [str_cat4] at hown2
      have HO2 := Lib.hid hown2
      have HG2 := Lib.hid hg
      clear hown2 hg2 hg hcat
      go_wp2
      go_ret
      refine ⟨_, rfl, ?_, HG2.out⟩
      have hfin := HO2.out
      have e6 : l.length + 6 = l.length + ([92, 117, 48, 48] ++ hx2).length := by simp; omega
      rw [e6] at hfin
      rw [List.length_append, bv_append]
      exact hfin
    · rw [escL_plain hE hn]
      have ca := append_grown w B v l n HO.out hB (by omega)
      have hn' : ¬ (0 ≤ n) ∨ (0 ≤ n ∧ ¬ n < 32) := by omega
      clear hE
      rcases hn' with hn | ⟨hn, hn2⟩
      · clear h0 h1
        go_enter Tryz.func54, Tryz.ntmps54
        go_wp2_with fail
        refine ca.mono ?_
        rintro e w1 ⟨v', rfl, hown1, hg1⟩
        go_wp2
        go_ret
        exact ⟨_, rfl, hown1, hg1⟩
      · clear h0 h1
        go_enter Tryz.func54, Tryz.ntmps54
        go_wp2_with fail
        refine ca.mono ?_
        rintro e w1 ⟨v', rfl, hown1, hg1⟩
        go_wp2
        go_ret
        exact ⟨_, rfl, hown1, hg1⟩
theorem ok_encL {n : Int} (h : escB n = none) (hn : 32 ≤ n) : escL n = encR n := escL_plain h (by omega)
set_option maxHeartbeats 1000000 in
theorem escapeof_spec (n : Int) (w : World) : Calls Tryz.prog 58 #[.int .i64 n] w fun e w' => e = .returned (.string ⟨(escL n).toArray⟩) ∧ Below w.heap.size w w' := by
  by_cases hok : okR n
  · have c := runeok_spec_yes hok w
    rcases escB_cases n with ⟨rfl, e⟩ | ⟨rfl, e⟩ | ⟨rfl, e⟩ | ⟨rfl, e⟩ | ⟨rfl, e⟩ | ⟨rfl, e⟩ | ⟨rfl, e⟩ | ⟨h1, h2, h3, h4, h5, h6, h7, e⟩
    all_goals first
      | (rw [escL_letter e]
         clear e hok
         go_enter Tryz.func58, Tryz.ntmps58
         go_wp2_with fail
         refine c.mono ?_
         rintro e w' ⟨rfl, rfl⟩
         go_wp2
         go_ret
         exact ⟨rfl, Below.refl _ _⟩)
      | skip
    have g1 : ((n : Int) == 34) = false := by simp; exact h1
    have g2 : ((n : Int) == 92) = false := by simp; exact h2
    have g3 : ((n : Int) == 8) = false := by simp; exact h3
    have g4 : ((n : Int) == 9) = false := by simp; exact h4
    have g5 : ((n : Int) == 10) = false := by simp; exact h5
    have g6 : ((n : Int) == 12) = false := by simp; exact h6
    have g7 : ((n : Int) == 13) = false := by simp; exact h7
    have hu := okR_un hok
    have hn0 : 0 ≤ n := by omega
    clear h1 h2 h3 h4 h5 h6 h7
    by_cases hn : n < 32
    · rw [escL_low e hn0 hn]
      have hcv := conv_str (w.alloc (.cells #[.int .u8 n] 5)) _ _ (one_slc w n hn0 (by omega))
      have hx := hextext_spec [UInt8.ofNat n.toNat] (w.alloc (.cells #[.int .u8 n] 5)) (by simp)
      have hwr : IntKind.u8.wrap n = n := by rw [IntKind.wrap_u8']; omega
      have hxl : (hexL [UInt8.ofNat n.toNat]).length = 2 := rfl
      generalize hexL [UInt8.ofNat n.toNat] = hx2 at *
      have hcat : ¬ (9223372036854775807 < [(92 : UInt8), 117, 48, 48].length + hx2.length) := by simp; omega
      have hsz : (ByteArray.mk hx2.toArray).size = 2 := by rw [size_l]; exact hxl
      clear e hok hu
      generalize (ByteArray.mk [UInt8.ofNat n.toNat].toArray) = s1 at *
      go_enter Tryz.func58, Tryz.ntmps58
      go_wp2_with fail
      refine c.mono ?_
      rintro e w' ⟨rfl, rfl⟩
      go_wp2_with fail
      refine hx.mono ?_
      rintro e w1 ⟨rfl, b1⟩
      have hb1 : Below w.heap.size w w1 := (below_alloc w _).trans (b1.mono (by simp))
      have HB1 := Lib.hid hb1
      clear b1 hb1 hcv hx
      go_wp2
      go_ret
      exact ⟨by simp; exact ba_app [92, 117, 48, 48] hx2, HB1.out⟩
    · rw [escL_plain e (by omega)]
      have cf := fromrunes_spec (w.alloc (.cells #[.int .i64 n] 3)) (.slice (some ⟨w.heap.size, 0, none⟩) 1 1) [n] (one_reads w n) (by simp)
      rw [flat_one] at cf
      clear e hok hu hn0
      go_enter Tryz.func58, Tryz.ntmps58
      go_wp2_with fail
      refine c.mono ?_
      rintro e w' ⟨rfl, rfl⟩
      go_wp2_with fail
      refine cf.mono ?_
      rintro e w1 ⟨rfl, b1⟩
      have hb1 : Below w.heap.size w w1 := (below_alloc w _).trans (b1.mono (by simp))
      go_wp2
      go_ret
      exact ⟨rfl, hb1⟩
  · have c := runeok_spec_no hok w
    have e1 : escL n = [] := by
      have hne : escB n = none := by
        cases h : escB n with
        | none => rfl
        | some c => have := escB_ok h; exact absurd (okR_mk (by omega)) hok
      have : ¬ (0 ≤ n ∧ n < 32) := fun g => hok (okR_mk (by omega))
      rw [escL_plain hne this, enc_bad' hok]
    rw [e1]
    clear e1 hok
    go_enter Tryz.func58, Tryz.ntmps58
    go_wp2_with fail
    refine c.mono ?_
    rintro e w' ⟨rfl, rfl⟩
    go_wp2
    go_ret
    exact ⟨rfl, Below.refl _ _⟩
where
  one_reads (w : World) (n : Int) : Reads (w.alloc (.cells #[.int .i64 n] 3)) (.slice (some ⟨w.heap.size, 0, none⟩) 1 1) (iv [n]) := by
    refine ⟨_, 1, rfl, fun j hj => ⟨w.heap.size, 0, rfl, ?_⟩⟩
    match j, hj with
    | 0, _ => have := cell_one_new w (.int .i64 n) 3 0 _ rfl; rw [addr_add] at this; exact this
end Go.Proofs.YtelehfefhlgbkaaGreatDoor
/- Quote: the program's and the model's answers. -/
namespace Go.Proofs.YtelehfefhlgbkaaGreatDoor
open Go.RowKit Go.Maps
set_option maxRecDepth 100000
theorem own_ne_obj {w : World} {B E n b : Nat} {v : Value} {xs : List Value} {o : Obj} (h : w.ownsRow B E 1 v n xs) (hb : w.heap[b]? = some o) (ho : ∀ C T fz, o ≠ .cells C T fz) : v.ownBlock ≠ some b := by
  intro e
  rcases h.2 with ⟨rfl, _⟩ | ⟨g, cap, cur, rfl, _, hg, _⟩
  · simp [Value.ownBlock] at e
  · simp [Value.ownBlock] at e
    subst e
    rw [hg] at hb
    injection hb with hb
    exact ho _ _ _ hb.symm
theorem MapL.ne {w : World} {B E n b : Nat} {v : Value} {xs : List Value} (h : w.ownsRow B E 1 v n xs) (hM : MapL w b) : some b ≠ v.ownBlock := by
  obtain ⟨D, ⟨es, clock, hb, _⟩, _⟩ := hM
  exact fun e => own_ne_obj h hb (fun _ _ _ g => by cases g) e.symm
theorem quote_impl_none (l : List UInt8) (w : World) (hl : l.length ≤ 1073741824) (hr : runes l = none) : Calls Tryz.prog 31 #[.string ⟨l.toArray⟩] w fun e w' => e = .returned (.string ⟨(quoteL l).toArray⟩) ∧ Below w.heap.size w w' := by
  have ct := textok_impl l w (by omega)
  rw [hr] at ct
  rw [quoteL_none hr]
  generalize (ByteArray.mk l.toArray) = s at *
  go_enter Tryz.func31, Tryz.ntmps31
  go_wp2_with fail
  refine ct.mono ?_
  rintro e w1 ⟨rfl, b1⟩
  go_wp2
  go_ret
  exact ⟨rfl, b1⟩
theorem lit_own (w : World) (x : UInt8) : (w.alloc (.cells #[.int .u8 x.toNat] 5)).ownsRow w.heap.size 5 1 (.slice (some ⟨w.heap.size, 0, none⟩) 1 1) 1 (bv [x]) :=
  World.ownsRow_lit w #[.int .u8 x.toNat] 1 (Nat.le_refl _) (by decide) rfl
set_option maxHeartbeats 2000000 in
theorem quote_impl_some (l : List UInt8) (rs : List Int) (w : World) (hl : l.length ≤ 1073741824) (hr : runes l = some rs) : Calls Tryz.prog 31 #[.string ⟨l.toArray⟩] w fun e w' => e = .returned (.string ⟨(quoteL l).toArray⟩) ∧ Below w.heap.size w w' := by
  obtain ⟨i0, hi, hz0, hz1, hz2⟩ := info_parts byteInfo'
  have ct := textok_impl l w (by omega)
  have hr0 : runesAt l 0 = some rs := hr
  rw [hr] at ct
  have hlen := runes_len _ l rs (Nat.le_refl _) hr
  rw [quoteL_some hr]
  have hsz := size_l l
  have hszz : ((ByteArray.mk l.toArray).size : Int) = l.length := by rw [hsz]
  clear hr
  have CL := Lib.hid (fun w => letters_impl w)
  have CA := Lib.hid (fun w B v l n b h0 h1 ho hB hl hM => appescape_impl w B v l n b h0 h1 ho hB hl hM)
  generalize hs : (ByteArray.mk l.toArray) = s at *
  have HS := Lib.hid hs
  clear hs
  go_enter Tryz.func31, Tryz.ntmps31
  go_wp2_with fail
  refine ct.mono ?_
  rintro e w1 ⟨rfl, b1⟩
  have B1 := Lib.hid b1
  clear ct b1
  go_wp2_with fail
  refine (CL.out w1).mono ?_
  rintro e w2 ⟨bm, rfl, hbm, hM, b2⟩
  have hb := B1.out.trans (b2.mono B1.out.size)
  have HB := Lib.hid hb
  have HM := Lib.hid hM
  have HO := Lib.hid (own_base (lit_own w2 34) hb.size)
  clear hb hM b2
  go_wp2
  generalize hW3 : w2.alloc (.cells #[.int .u8 34] 5) = w3 at *
  have HB3 := Lib.hid (show Below w.heap.size w w3 by rw [← hW3]; exact HB.out.alloc HB.out.size _)
  have HM3 := Lib.hid (show MapL w3 bm by rw [← hW3]; exact HM.out.below (below_alloc w2 _) HM.out.lt)
  have HO3 := Lib.hid (show w3.ownsRow w.heap.size 5 1 (.slice (some ⟨w2.heap.size, 0, none⟩) 1 1) 1 (bv [34]) by rw [← hW3]; exact HO.out)
  have hz : w2.heap.size + 1 = w3.heap.size := by rw [← hW3]; simp
  clear HM HB HO hW3
  rw [hz]
  have HZ := Lib.hid hz
  clear hz
  go_loopw [4] (fun v wr => ∃ (pos : Nat) (acc rest : List Int), wr.heap[w3.heap.size]? = some (.stringIter s pos) ∧ wr.ownsRow w.heap.size 5 1 v (34 :: escsL acc).length (bv (34 :: escsL acc)) ∧ MapL wr bm ∧ Below w.heap.size w wr ∧ pos ≤ l.length ∧ runesAt l pos = some rest ∧ acc ++ rest = rs) (fun _ wr => l.length - wr.iterPos w3.heap.size)
  case atStart => exact ⟨0, [], rs, World.iter_heap w3 s 0, own_below HO3.out ((Below.refl w3.heap.size w3).alloc (Nat.le_refl _) _), HM3.out.below ((Below.refl w3.heap.size w3).alloc (Nat.le_refl _) _) HM3.out.lt, HB3.out.alloc HB3.out.size _, Nat.zero_le _, hr0, rfl⟩
  case round =>
    obtain ⟨pos, acc, rest, hit, hown, hM, hb, hpos, hra, hac⟩ := hrel
    have hal : acc.length ≤ rs.length := by rw [← hac]; simp
    have hel := escsL_len acc
    have hd : Utf8.decode s pos = dec l pos := by rw [← HS.out]; rfl
    by_cases hp : pos < l.length
    · have hpz : pos < s.size := by omega
      have HP0 := Lib.hid (show wr.iterPos w3.heap.size = pos by unfold World.iterPos; rw [hit])
      have hnx : ∀ ty, (Instr.next (.pointer (some ⟨w3.heap.size, 0, none⟩)) true ty).run Tryz.prog wr = _ := fun ty => Lib.run_next_any_at wr w3.heap.size s pos ty hit hpz
      rw [hd] at hnx
      have hwd := dec_pos hp
      have hle : (dec l pos).1 ≤ 2147483647 := by rw [← hd]; exact decode_le s pos
      have hgood : dec l pos ≠ (65533, 1) := by
        intro g
        rw [runesAt_bad hp g] at hra
        cases hra
      rw [runesAt_good hp hgood, Option.map_eq_some_iff] at hra
      obtain ⟨rest', hra, rfl⟩ := hra
      generalize hk : (dec l pos).2 = k at *
      generalize hq : (dec l pos).1 = q at *
      generalize hwr : wr.iterAt w3.heap.size s (pos + k) = w4 at *
      have hon := iter_only wr w3.heap.size s (pos + k)
      rw [hwr] at hon
      have hit2 : w4.heap[w3.heap.size]? = some (.stringIter s (pos + k)) := by rw [← hwr]; exact iter_new hit
      have hown2 := own_only hown hon (own_ne_iter hown hit)
      have hM2 : MapL w4 bm := by
        obtain ⟨D, ⟨es, clock, hbm', hrest⟩, hD⟩ := hM
        refine ⟨D, ⟨es, clock, ?_, hrest⟩, hD⟩
        have hne : bm ≠ w3.heap.size := by intro e; subst e; rw [hit] at hbm'; cases hbm'
        rw [hon.block bm (Array.getElem?_eq_some_iff.1 hbm').1 hne]; exact hbm'
      have hb2 := only_below hb hon HB3.out.size hb.size
      have hlen2 := hb2.size
      have ca := CA.out w4 w.heap.size _ _ (q : Int) bm (by omega) (by omega) hown2 hlen2 (by simp; omega) hM2
      have HI := Lib.hid hit2
      have HW := Lib.hid hwd
      have HR := Lib.hid hra
      have HA := Lib.hid hac
      have HB2 := Lib.hid hb2
      have HM2 := Lib.hid hM2
      have HO2 := Lib.hid hown2
      have hq1 : (q : Int) ≤ 2147483647 := by omega
      clear hon hgood hd hown hb hwr hit hpz hk hq hit2 hwd hra hac hal hel hb2 hM2 hown2 hM hle hlen2
      go_wp2_with fail
      refine ca.mono ?_
      rintro e w5 ⟨v', rfl, hown3, hg⟩
      have hkeep : w5.heap[w3.heap.size]? = some (.stringIter s (pos + k)) := by
        have h1 : w3.heap.size < w4.heap.size := (Array.getElem?_eq_some_iff.1 HI.out).1
        rw [hg.block _ h1 (fun e => own_ne_iter HO2.out HI.out e.symm)]
        exact HI.out
      have HK := Lib.hid hkeep
      have HX : w5.iterPos w3.heap.size = pos + k := by unfold World.iterPos; rw [hkeep]
      have HM5 := Lib.hid (HM2.out.kept hg (MapL.ne HO2.out HM2.out))
      have HB5 := Lib.hid (HB2.out.trans (grown_belowN hg HB2.out.size (fun k hk => (HO2.out.lt k hk).1)))
      have HO5 := Lib.hid hown3
      clear hkeep hown3 hg ca HO2 HM2 HB2
      go_wp2
      go_roundw
      case rel =>
        have hw := HW.out
        refine ⟨pos + k, acc ++ [(q : Int)], rest', HK.out, ?_, HM5.out, HB5.out, hw.2, HR.out, by rw [List.append_assoc]; exact HA.out⟩
        have e1 : 34 :: escsL (acc ++ [(q : Int)]) = (34 :: escsL acc) ++ escL q := by rw [escsL_app]; simp [escsL]
        rw [e1]
        exact HO5.out
      case measure =>
        have hw := HW.out
        have := HP0.out
        omega
    · have hpz : ¬ pos < s.size := by omega
      have hnx : ∀ ty, (Instr.next (.pointer (some ⟨w3.heap.size, 0, none⟩)) true ty).run Tryz.prog wr = _ := fun ty => Lib.run_next_end_at wr w3.heap.size s pos ty hit hpz
      rw [runesAt_end hp] at hra
      injection hra with hra
      subst hra
      rw [List.append_nil] at hac
      subst hac
      have HO2 := Lib.hid hown
      have HB2 := Lib.hid hb
      clear hown hb hit hd hM
      go_wp2_with (at_builtin; refine wpList_append_own _ rfl _ _ 22 rfl w.heap.size 5 i0 (.int .u8 0) 1 1 Tryz.underlying22 hi hz0 hz1 hz2 rfl (by decide) _ _ _ rfl (HO2.out.alloc _) ⟨wr.heap.size, 0, none⟩ 1 1 [.int .u8 34] rfl rfl ?c1 ?c2 ?c3 ?c4 ?c5 ?_)
      case c1 => exact cell_one_new wr (.int .u8 34) 5
      case c2 => intro u hu; simp at hu; rcases hu with rfl; rfl
      case c3 => simp; unfold maxLen; omega
      case c4 => simp; omega
      case c5 => have := HB2.out.size; simp; omega
      intro v' w5 hown3 hg _
      have hb5 := below_step HB2.out HB2.out.size HO2.out hg
      have hcat : bv (34 :: escsL acc) ++ [.int .u8 34] = bv (34 :: (escsL acc ++ [34])) := by simp [bv]
      rw [hcat] at hown3
      have hcv := conv_str w5 _ _ (own_slc hown3)
      have HB5 := Lib.hid hb5
      generalize hs2 : (ByteArray.mk (34 :: (escsL acc ++ [34])).toArray) = s2 at *
      have HS2 := Lib.hid hs2
      clear hown3 hg hb5 hcat hs2 HB2 HO2
      go_wp2
      go_ret
      exact ⟨by rw [HS2.out]; rfl, HB5.out⟩
theorem quote_impl (l : List UInt8) (w : World) (hl : l.length ≤ 1073741824) : Calls Tryz.prog 31 #[.string ⟨l.toArray⟩] w fun e w' => e = .returned (.string ⟨(quoteL l).toArray⟩) ∧ Below w.heap.size w w' := by
  cases hr : runes l with
  | none => exact quote_impl_none l w hl hr
  | some rs => exact quote_impl_some l rs w hl hr
theorem quote_spec_none (l : List UInt8) (w : World) (hl : l.length ≤ 1073741824) (hr : runes l = none) : Calls Tryz.prog 33 #[.string ⟨l.toArray⟩] w fun e w' => e = .returned (.string ⟨(quoteL l).toArray⟩) ∧ Below w.heap.size w w' := by
  have ct := textok_spec l w (by omega)
  rw [hr] at ct
  rw [quoteL_none hr]
  generalize (ByteArray.mk l.toArray) = s at *
  go_enter Tryz.func33, Tryz.ntmps33
  go_wp2_with fail
  refine ct.mono ?_
  rintro e w1 ⟨rfl, b1⟩
  go_wp2
  go_ret
  exact ⟨rfl, b1⟩
set_option maxHeartbeats 2000000 in
theorem quote_spec_some (l : List UInt8) (rs : List Int) (w : World) (hl : l.length ≤ 1073741824) (hr : runes l = some rs) : Calls Tryz.prog 33 #[.string ⟨l.toArray⟩] w fun e w' => e = .returned (.string ⟨(quoteL l).toArray⟩) ∧ Below w.heap.size w w' := by
  have ct := textok_spec l w (by omega)
  have CR := Lib.hid (fun w => runesof_spec_some l rs w hl hr)
  rw [hr] at ct
  have hlen := runes_len _ l rs (Nat.le_refl _) hr
  rw [quoteL_some hr]
  clear hr
  have CE := Lib.hid (fun n w => escapeof_spec n w)
  generalize hs : (ByteArray.mk l.toArray) = s at *
  clear hs
  go_enter Tryz.func33, Tryz.ntmps33
  go_wp2_with fail
  refine ct.mono ?_
  rintro e w1 ⟨rfl, b1⟩
  have B1 := Lib.hid b1
  clear ct b1
  go_wp2_with fail
  refine (CR.out w1).mono ?_
  rintro e w2 ⟨v, rfl, hown, b2⟩
  obtain ⟨a, cap, rfl, hcs⟩ := reads_int (own_reads hown)
  have HB := Lib.hid (B1.out.trans (b2.mono B1.out.size))
  have HC := Lib.hid hcs
  clear b2 hown hcs
  go_wp2
  go_loopw [3, 5] (fun out i wr => ∃ (i' : Nat), i = .int .i64 i' ∧ i' ≤ rs.length ∧ out = .string ⟨(34 :: escsL (rs.take i')).toArray⟩ ∧ Below w2.heap.size w2 wr) (fun _ i _ => rs.length - (intOf i).toNat)
  case atStart => exact ⟨0, rfl, Nat.zero_le _, rfl, Below.refl _ _⟩
  case round =>
    obtain ⟨i, rfl, hi', rfl, hb⟩ := hrel
    have hel := escsL_len (rs.take i)
    have htk : (rs.take i).length ≤ i := by simp; omega
    by_cases hlt : i < rs.length
    · obtain ⟨b', o, rfl, hcl⟩ := HC.out i hlt
      have hcl' : wr.cell? ⟨b', o + i, none⟩ = some (.int .i64 rs[i]) := by rw [hb.cell (p := ⟨b', o + i, none⟩) (cell_lt hcl)]; exact hcl
      have HT := Lib.hid (escsL_take rs i hlt)
      have HL := Lib.hid hlt
      have HBB := Lib.hid hb
      have hqe := escL_len rs[i]
      generalize rs[i] = q at *
      have ce := CE.out q wr
      generalize hF : (34 :: escsL (rs.take i)) = F at *
      have hFl : F.length ≤ 6 * rs.length + 1 := by rw [← hF]; simp; omega
      have HF := Lib.hid hF
      have hcat : ¬ (9223372036854775807 < F.length + (escL q).length) := by omega
      clear hcl hb hel htk hF hqe
      generalize hE : escL q = E at *
      have HE := Lib.hid hE
      clear hE
      go_wp2_with fail
      refine ce.mono ?_
      rintro e w3 ⟨rfl, b3⟩
      have HB3 := Lib.hid (HBB.out.trans (b3.mono HBB.out.size))
      clear b3 ce
      go_wp2
      go_roundw
      case rel =>
        refine ⟨i + 1, by go_num, HL.out, ?_, HB3.out⟩
        rw [HT.out, ba_app, ← HF.out]
        simp
      case measure => have := HL.out; simp [intOf]; omega
    · obtain rfl : i = rs.length := by omega
      rw [List.take_of_length_le (Nat.le_refl _)] at hel ⊢
      have hcat : ¬ (9223372036854775807 < (34 :: escsL rs).length + [(34 : UInt8)].length) := by simp; omega
      have HB4 := Lib.hid (HB.out.trans (hb.mono HB.out.size))
      generalize hF : (34 :: escsL rs) = F at *
      have HF := Lib.hid hF
      clear hel htk hb hF
      go_wp2
      go_ret
      refine ⟨?_, HB4.out⟩
      have e1 : 34 :: (escsL rs ++ [34]) = F ++ [34] := by rw [← HF.out]; rfl
      rw [e1]
      exact congrArg (fun x => Ending.returned (.string x)) (ba_app F [34])
theorem quote_spec (l : List UInt8) (w : World) (hl : l.length ≤ 1073741824) : Calls Tryz.prog 33 #[.string ⟨l.toArray⟩] w fun e w' => e = .returned (.string ⟨(quoteL l).toArray⟩) ∧ Below w.heap.size w w' := by
  cases hr : runes l with
  | none => exact quote_spec_none l w hl hr
  | some rs => exact quote_spec_some l rs w hl hr
/-- nothing is escaped -/
def bareB (l : List UInt8) : Bool := quoteL l == 34 :: (l ++ [34])
theorem ba_two (l : List UInt8) : (ByteArray.mk #[34]) ++ (ByteArray.mk l.toArray) ++ (ByteArray.mk #[34]) = ByteArray.mk (34 :: (l ++ [34])).toArray := by
  apply ByteArray.ext; simp
theorem ba_two_list (l : List UInt8) : ((ByteArray.mk #[34]) ++ (ByteArray.mk l.toArray) ++ (ByteArray.mk #[34])).toList = 34 :: (l ++ [34]) := by rw [ba_two]; simp
end Go.Proofs.YtelehfefhlgbkaaGreatDoor
/- What NumText of the program and NumText of the model return: the decimal numeral, for every integer. -/
namespace Go.Proofs.YtelehfefhlgbkaaGreatDoor
open Go.RowKit
def digs (m : Nat) : List UInt8 := if m = 0 then [] else Lib.decDigits m
theorem digs_zero : digs 0 = [] := rfl
theorem digs_step (m : Nat) (h : m ≠ 0) : digs m = digs (m / 10) ++ [UInt8.ofNat (48 + m % 10)] := by
  unfold digs
  rw [if_neg h, Lib.decDigits]
  by_cases h10 : m < 10
  · rw [dif_pos h10, if_pos (by omega), show m % 10 = m by omega]; rfl
  · rw [dif_neg h10, if_neg (by omega)]
theorem str_eq {k l : List UInt8} (h : k = l) : Ending.returned (.string ⟨k.toArray⟩) = .returned (.string ⟨l.toArray⟩) := by rw [h]
theorem digs_len (m : Nat) : (digs m).length ≤ m / 10 + 1 := by
  induction m using Nat.strongRecOn with
  | _ m ih =>
    by_cases h : m = 0
    · subst h; rw [digs_zero]; exact Nat.zero_le _
    · rw [digs_step m h, List.length_append]
      have h1 := ih (m / 10) (by omega)
      have h2 : ([UInt8.ofNat (48 + m % 10)] : List UInt8).length = 1 := rfl
      by_cases h10 : m < 10
      · rw [show m / 10 = 0 by omega] at h1 ⊢; rw [digs_zero]; exact Nat.le_refl _
      · omega
theorem cat_eq (a b : List UInt8) : ((⟨a.toArray⟩ : ByteArray) ++ (⟨b.toArray⟩ : ByteArray)) = ⟨(a ++ b).toArray⟩ := by
  apply ByteArray.ext
  simp [ByteArray.data_append]
theorem conv_cell (W : World) (B : Nat) (c : Int) (h : W.cell? ⟨B, 0, none⟩ = some (.int .u8 c)) : ∀ i, i < 1 → W.cell? ⟨B, 0 + i, none⟩ = some (.int .u8 (([c] : List Int).getD i 0)) := by
  intro i hi
  obtain rfl : i = 0 := by omega
  simpa using h
theorem conv_one (W : World) (B : Nat) (c : Int) (h : W.cell? ⟨B, 0, none⟩ = some (.int .u8 c)) : (convert 22 9 (.slice (some ⟨B, 0, none⟩) 1 1)).run Tryz.prog W = .ok (.string ⟨#[UInt8.ofNat c.toNat]⟩) W :=
  run_convert_bytes_arg W _ _ Tryz.underlying22 Tryz.underlying5 B 0 1 1 [c] rfl (conv_cell W B c h) _ Tryz.underlying9
theorem itoa_pos (n : Int) (h : 1 ≤ n) : Lib.itoa n = digs n.toNat := by
  unfold Lib.itoa digs; rw [if_neg (by omega), if_neg (by omega)]
theorem itoa_neg' (m : Nat) (h : 1 ≤ m) : Lib.itoa (-(m : Int)) = 45 :: digs m := by
  unfold Lib.itoa digs; rw [if_pos (by omega), if_neg (by omega)]; simp
theorem dg_eq (m : Nat) : (48 : UInt8) + UInt8.ofNat (m % 10) = UInt8.ofNat (48 + m % 10) := by
  have : m % 10 < 10 := Nat.mod_lt _ (by omega)
  have key : ∀ i : Fin 10, (48 : UInt8) + UInt8.ofNat i.val = UInt8.ofNat (48 + i.val) := by decide
  exact key ⟨m % 10, this⟩
theorem numtext_spec_pos (n : Nat) (w : World) (h0 : 1 ≤ n) (h1 : (n : Int) ≤ 9223372036854775807) : Calls Tryz.prog 34 #[.int .i64 n] w fun e w' => e = .returned (.string ⟨(digs n).toArray⟩) ∧ Below w.heap.size w w' := by
  have hn : ((n : Int) == 0) = false := by simp; omega
  go_enter Tryz.func34, Tryz.ntmps34
  go_wp2
  go_loopw [3, 4, 5] (fun s x d wr => ∃ (x' : Nat) (acc : List UInt8), x = .int .i64 x' ∧ s = .string ⟨acc.toArray⟩ ∧ digs x' ++ acc = digs n ∧ x' ≤ n ∧ Below w.heap.size w wr) (fun _ x _ _ => (intOf x).toNat)
  case atStart => exact ⟨n, [], rfl, rfl, by simp, Nat.le_refl _, Below.refl _ _⟩
  case round =>
    obtain ⟨x', acc, rfl, rfl, hk, hb, hbel⟩ := hrel
    by_cases hz : x' = 0
    · subst hz
      go_wp2
      go_ret
      rw [digs_zero, List.nil_append] at hk
      exact ⟨str_eq hk, hbel⟩
    · have hz' : ((x' : Int) != 0) = true := by simp; omega
      have h2 : (0 : Int) ≤ x' := by omega
      have h3 : (x' : Int) ≤ 9223372036854775807 := by omega
      have hl1 := congrArg List.length hk
      have hl2 := digs_len n
      rw [List.length_append] at hl1
      have hl3 : acc.length ≤ 922337203685477581 := by omega
      have HK := Lib.hid hk
      have hcv := conv_one
      clear hk hl1 hl2
      go_wp2
      go_roundw
      case rel => exact ⟨x' / 10, [UInt8.ofNat (48 + x' % 10)] ++ acc, by go_num, by rw [← cat_eq, ← dg_eq], by rw [← HK.out, digs_step x' hz, List.append_assoc], by omega, hbel.alloc hbel.size _⟩
      case measure => simp [intOf]; omega
theorem neg_tdiv (m : Nat) : (-(m : Int)).tdiv 10 = -((m / 10 : Nat) : Int) := by rw [Int.neg_tdiv]; rfl
theorem neg_tmod (m : Nat) : (-(m : Int)).tmod 10 = -((m % 10 : Nat) : Int) := by rw [Int.neg_tmod]; rfl
theorem numtext_spec_neg (n : Nat) (w : World) (h0 : 1 ≤ n) (h1 : (n : Int) ≤ 9223372036854775808) : Calls Tryz.prog 34 #[.int .i64 (-(n : Int))] w fun e w' => e = .returned (.string ⟨(45 :: digs n).toArray⟩) ∧ Below w.heap.size w w' := by
  have hn : ((-(n : Int)) == 0) = false := by simp; omega
  go_enter Tryz.func34, Tryz.ntmps34
  go_wp2
  go_loopw [3, 4, 5] (fun s x d wr => ∃ (x' : Nat) (acc : List UInt8), x = .int .i64 (-(x' : Int)) ∧ s = .string ⟨acc.toArray⟩ ∧ digs x' ++ acc = digs n ∧ x' ≤ n ∧ Below w.heap.size w wr) (fun _ x _ _ => (intOf x).natAbs)
  case atStart => exact ⟨n, [], rfl, rfl, by simp, Nat.le_refl _, Below.refl _ _⟩
  case round =>
    obtain ⟨x', acc, rfl, rfl, hk, hb, hbel⟩ := hrel
    have hl1 := congrArg List.length hk
    have hl2 := digs_len n
    rw [List.length_append] at hl1
    have hl3 : acc.length ≤ 922337203685477581 := by omega
    by_cases hz : x' = 0
    · subst hz
      have HK := Lib.hid hk
      clear hk hl1 hl2
      go_wp2
      go_ret
      have hk := HK.out
      rw [digs_zero, List.nil_append] at hk
      exact ⟨by rw [← hk]; exact congrArg (fun x => Ending.returned (.string x)) (cat_eq [45] acc), hbel⟩
    · have hz' : ((-(x' : Int)) != 0) = true := by simp; omega
      have h2 : (0 : Int) ≤ x' := by omega
      have h3 : (x' : Int) ≤ 9223372036854775808 := by omega
      have HK := Lib.hid hk
      have hcv := conv_one
      clear hk hl1 hl2
      have e1 := neg_tdiv x'
      have e2 := neg_tmod x'
      go_wp2
      · go_roundw
        case rel => exact ⟨x' / 10, [UInt8.ofNat (48 + x' % 10)] ++ acc, by go_num, by rw [← cat_eq, ← dg_eq], by rw [← HK.out, digs_step x' hz, List.append_assoc], by omega, hbel.alloc hbel.size _⟩
        case measure => simp [intOf]; omega
      · have hm : x' % 10 = 0 := by omega
        go_roundw
        case rel => exact ⟨x' / 10, [UInt8.ofNat (48 + x' % 10)] ++ acc, by go_num, by rw [← cat_eq, hm, show (x' : Int) % 10 = 0 by omega]; rfl, by rw [← HK.out, digs_step x' hz, List.append_assoc], by omega, hbel.alloc hbel.size _⟩
        case measure => simp [intOf]; omega
theorem numtext_spec (n : Int) (w : World) (h0 : -9223372036854775808 ≤ n) (h1 : n ≤ 9223372036854775807) : Calls Tryz.prog 34 #[.int .i64 n] w fun e w' => e = .returned (.string ⟨(Lib.itoa n).toArray⟩) ∧ Below w.heap.size w w' := by
  by_cases hp : 1 ≤ n
  · obtain ⟨m, rfl⟩ : ∃ m : Nat, n = m := ⟨n.toNat, by omega⟩
    rw [itoa_pos _ hp]
    exact numtext_spec_pos m w (by omega) h1
  · by_cases hz : n = 0
    · subst hz
      go_enter Tryz.func34, Tryz.ntmps34
      go_wp2
      go_ret
      exact ⟨str_eq (by decide +kernel), Below.refl _ _⟩
    · obtain ⟨m, rfl⟩ : ∃ m : Nat, n = -(m : Int) := ⟨n.natAbs, by omega⟩
      rw [itoa_neg' m (by omega)]
      exact numtext_spec_neg m w (by omega) (by omega)
theorem below_grow {w : World} {k : Nat} {os : Array Obj} : Below w.heap.size w (Sort.grow (w.drewN k) os) := by
  refine ⟨rfl, rfl, rfl, ?_, fun i hi => ?_⟩
  · show w.heap.size ≤ (w.heap ++ os).size
    rw [Array.size_append]; omega
  · show (w.heap ++ os)[i]? = w.heap[i]?
    rw [Array.getElem?_append_left hi]
theorem var_below {P : Program} {w w' : World} {n : String} {cs : Array Value} (hb : Below w.heap.size w w') (h : w.var? P n = some cs) : w'.var? P n = some cs := by
  unfold World.var? at h ⊢
  cases hg : P.globalNamed n with
  | none => simp [hg] at h
  | some g =>
    simp only [hg, Option.bind_some] at h ⊢
    have hlt : g < w.heap.size := by
      rcases Nat.lt_or_ge g w.heap.size with h' | h'
      · exact h'
      · simp [Array.getElem?_eq_none h'] at h
    rw [hb.block g hlt]
    exact h
theorem numtext_impl (n : Int) (w : World) (h0 : -9223372036854775808 ≤ n) (h1 : n ≤ 9223372036854775807) (htab : Lib.TabIs Tryz.prog w "internal/strconv.uint64pow10" .u64 Lib.pow10Tab) : Calls Tryz.prog 55 #[.int .i64 n] w fun e w' => e = .returned (.string ⟨(Lib.itoa n).toArray⟩) ∧ Below w.heap.size w w' := by
  go_enter Tryz.func55, Tryz.ntmps55
  go_wp2_with (go_at_call 76; refine (Tryz.strconv_Itoa n h0 h1 _ htab).mono ?_; rintro e w' ⟨rfl, k, os, rfl⟩)
  go_ret
  exact ⟨rfl, below_grow⟩
end Go.Proofs.YtelehfefhlgbkaaGreatDoor
