/- The string of given characters: the program's and the model's answers. -/
import Derived.Test.YtaelepaogkakmaaDoorPutRune
import Derived.Test.YtaelepaogkakmaaDoorText
import Derived.Test.YtaelepaogkakmaaDoorConv
import Derived.Laws.BytesArg
namespace Go.Proofs.YtaelepaogkakmaaDoor
open Go.RowKit
set_option maxRecDepth 100000
theorem flat_nil : flat [] = [] := rfl
theorem flat_append (a b : List Int) : flat (a ++ b) = flat a ++ flat b := by simp [flat]
theorem flat_one (n : Int) : flat [n] = encR n := by simp [flat]
theorem flat_len (l : List Int) : (flat l).length ≤ 4 * l.length := by
  induction l with
  | nil => exact Nat.zero_le _
  | cons n l ih =>
    have : flat (n :: l) = encR n ++ flat l := rfl
    rw [this, List.length_append, encR_len, List.length_cons]
    have : wideR n ≤ 4 := by rcases wideR_cases n with h | h | h | h | h <;> omega
    omega
theorem flat_take (l : List Int) (i : Nat) (h : i < l.length) : flat (l.take (i + 1)) = flat (l.take i) ++ encR l[i] := by
  rw [List.take_succ_eq_append_getElem h, flat_append, flat_one]
theorem fromrunes_impl (w : World) (v : Value) (l : List Int) (h : Reads w v (iv l)) (hl : l.length ≤ 1073741824) :
    Calls Tryd.prog 28 #[v] w fun e w' => e = .returned (.string ⟨(flat l).toArray⟩) ∧ Below w.heap.size w w' := by
  obtain ⟨a, cap, rfl, hc⟩ := reads_int h
  have HC := Lib.hid hc
  clear hc h
  go_enter Tryd.func28, Tryd.ntmps28
  go_wp2
  go_loopw [3, 9] (fun b i wr => ∃ i' : Nat, i = .int .i64 i' ∧ i' ≤ l.length ∧ wr.ownsRow w.heap.size 5 1 b (flat (l.take i')).length (bv (flat (l.take i'))) ∧ Below w.heap.size w wr) (fun _ i _ => l.length - (intOf i).toNat)
  case atStart => exact ⟨0, rfl, Nat.zero_le _, World.ownsRow_made w #[] 0 (Nat.le_refl _) (by decide) rfl, (Below.refl w.heap.size w).alloc (Nat.le_refl _) _⟩
  case round =>
    obtain ⟨i', rfl, hi', hown, hb⟩ := hrel
    have HO := Lib.hid hown
    have HB := Lib.hid hb
    by_cases hlt : i' < l.length
    · obtain ⟨b', o, rfl, hcl⟩ := HC.out i' hlt
      have hcl' : wr.cell? ⟨b', o + i', none⟩ = some (.int .i64 l[i']) := by rw [hb.cell (p := ⟨b', o + i', none⟩) (cell_lt hcl)]; exact hcl
      have hfl := flat_len (l.take i')
      rw [List.length_take] at hfl
      have ca := append_impl wr w.heap.size _ _ l[i'] hown hb.size (by omega)
      rw [← flat_take l i' hlt] at ca
      have HT := Lib.hid hlt
      generalize hq : l[i'] = q at *
      clear hq
      clear hcl hown hb hfl
      go_wp2_with (go_at_call 40; refine ca.mono ?_; rintro e w' ⟨v', rfl, _, hown, hb⟩)
      go_roundw
      case rel => exact ⟨i' + 1, by go_num, HT.out, hown, HB.out.trans hb⟩
      case measure => have := HT.out; simp [intOf]; omega
    · obtain rfl : i' = l.length := by omega
      rw [List.take_of_length_le (Nat.le_refl _)] at hown
      have hcv := conv_str wr _ _ (own_slc hown)
      generalize hs : (ByteArray.mk (flat l).toArray) = s at hcv
      have HS := Lib.hid hs
      clear hown hb HO hs
      go_wp2
      go_ret
      exact ⟨by rw [HS.out]; rfl, HB.out⟩
theorem fromrunes_spec (w : World) (v : Value) (l : List Int) (h : Reads w v (iv l)) (hl : l.length ≤ 1073741824) :
    Calls Tryd.prog 41 #[v] w fun e w' => e = .returned (.string ⟨(flat l).toArray⟩) ∧ Below w.heap.size w w' := by
  obtain ⟨a, cap, rfl, hc⟩ := reads_int h
  have HC := Lib.hid hc
  clear hc h
  go_enter Tryd.func41, Tryd.ntmps41
  go_wp2
  go_loopw [3, 4] (fun b i wr => ∃ (i' : Nat) (g c : Nat), i = .int .i64 i' ∧ i' ≤ l.length ∧ b = .slice (some ⟨g, 0, none⟩) (flat (l.take i')).length c ∧ wr.ownsRow w.heap.size 5 1 b (flat (l.take i')).length (bv (flat (l.take i'))) ∧ Below w.heap.size w wr) (fun _ i _ => l.length - (intOf i).toNat)
  case atStart => exact ⟨0, w.heap.size, 0, rfl, Nat.zero_le _, rfl, World.ownsRow_made w #[] 0 (Nat.le_refl _) (by decide) rfl, (Below.refl w.heap.size w).alloc (Nat.le_refl _) _⟩
  case round =>
    obtain ⟨i', g, c, rfl, hi', rfl, hown, hb⟩ := hrel
    have HO := Lib.hid hown
    have HB := Lib.hid hb
    by_cases hlt : i' < l.length
    · obtain ⟨b', o, rfl, hcl⟩ := HC.out i' hlt
      have hcl' : wr.cell? ⟨b', o + i', none⟩ = some (.int .i64 l[i']) := by rw [hb.cell (p := ⟨b', o + i', none⟩) (cell_lt hcl)]; exact hcl
      have hfl := flat_len (l.take i')
      rw [List.length_take] at hfl
      have ca := put_spec wr g 0 c (flat (l.take i')) l[i'] (fun j u hu => by rw [Nat.zero_add, hown.cellAt j (by have := (List.getElem?_eq_some_iff.1 hu).1; simpa using this)]; exact hu) (by omega)
      rw [← flat_take l i' hlt] at ca
      have HT := Lib.hid hlt
      generalize hq : l[i'] = q at *
      clear hq hcl hown hb hfl
      go_wp2_with (go_at_call 60; refine ca.mono ?_; rintro e w' ⟨v', rfl, hv, hown, hb⟩)
      obtain ⟨g', c', hv', _⟩ : ∃ g' c', v' = .slice (some ⟨g', 0, none⟩) (flat (l.take (i' + 1))).length c' ∧ True := by
        rcases hown.2 with ⟨h, _⟩ | ⟨g', cap', cur, h, _⟩
        · exact absurd h hv
        · exact ⟨g', cap', h, trivial⟩
      clear hv
      go_roundw
      case rel => exact ⟨i' + 1, g', c', by go_num, HT.out, hv', own_base hown (HB.out.size), HB.out.trans (hb.mono HB.out.size)⟩
      case measure => have := HT.out; simp [intOf]; omega
    · obtain rfl : i' = l.length := by omega
      have hcv := conv_str wr _ _ (own_slc hown)
      rw [List.take_of_length_le (Nat.le_refl _)] at hcv
      generalize hs : (ByteArray.mk (flat l).toArray) = s at hcv
      have HS := Lib.hid hs
      clear hown hb HO hs
      go_wp2
      go_ret
      exact ⟨by rw [HS.out]; rfl, HB.out⟩
end Go.Proofs.YtaelepaogkakmaaDoor
