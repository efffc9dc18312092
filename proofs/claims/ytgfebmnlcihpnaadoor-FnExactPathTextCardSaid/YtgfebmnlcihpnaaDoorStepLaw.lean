/- What the exact laws' helpers on steps return. -/
import Derived.Test.YtgfebmnlcihpnaaDoorStep
import Derived.StillTailTactics
namespace Go.Proofs.YtgfebmnlcihpnaaDoor
open Go.RowKit
set_option maxRecDepth 100000
theorem tostep_any (n : Int) (b : Bool) (w : World) : Calls Tryd.prog 50 #[.agg #[.int .i64 n, .bool b]] w fun e w' => e = .returned (.agg #[.int .i64 n, .bool b]) ∧ Below w.heap.size w w' := by
  go_enter Tryd.func50, Tryd.ntmps50
  go_wp2
  refine bodyPost_ret (v := .agg #[.int .i64 n, .bool b]) (by simp [results, Tryd.results50, go_sem]) rfl ⟨rfl, ?_⟩
  exact (((Below.refl _ _).alloc (Nat.le_refl _) _).alloc (by simp) _).alloc (by simp; omega) _
theorem szStepS_any (l : List St) (a : Option Addr) (cap left : Nat) (w : World) (hl : l.length ≤ 9223372036854775807) (hleft : left ≤ 1048576) :
    Calls Tryd.prog 25 #[.slice a l.length cap, .int .i64 left] w fun e w' => e = .returned (.int .i64 (szR l.length left)) ∧ Below w.heap.size w w' := by
  by_cases h : l.length ≤ left
  · have hr : szR l.length left = (left : Int) - l.length := by unfold szR; rw [if_pos h]
    have h2 : ¬ ((left : Int) - l.length < 0) := by omega
    rw [hr]
    go_enter Tryd.func25, Tryd.ntmps25
    go_wp2
    go_ret
    exact ⟨rfl, Below.refl _ _⟩
  · have hr : szR l.length left = -1 := by unfold szR; rw [if_neg h]
    have h2 : (left : Int) - l.length < 0 := by omega
    rw [hr]
    go_enter Tryd.func25, Tryd.ntmps25
    go_wp2
    go_ret
    exact ⟨rfl, Below.refl _ _⟩
theorem set_two (xs zs : List Value) (p : Nat) (v0 v1 : Value) (hx : xs.length = p) (hz : 2 ≤ zs.length) : ((xs ++ zs).set p v0).set (p + 1) v1 = xs ++ [v0, v1] ++ zs.drop 2 := by
  subst hx
  match zs, hz with
  | z0 :: z1 :: r, _ => simp [List.set_append]
theorem toStepS_any (w : World) (N : Nat) (a : Option Addr) (cap : Nat) (l : List St) (h : SAt w N a cap l) (hN : N ≤ w.heap.size) (hl : l.length ≤ 1048576) :
    Calls Tryd.prog 27 #[.slice a l.length cap] w fun e w' => ∃ a' cap', e = .returned (.slice a' l.length cap') ∧ OwnS w' w.heap.size a' cap' l ∧ Below w.heap.size w w' := by
  obtain ⟨i0, hi, hz0, hz1, hz2⟩ := info_parts stepInfo
  have H := Lib.hid h
  clear h
  go_enter Tryd.func27, Tryd.ntmps27
  go_wp2_with (at_make; refine wpList_make_full _ rfl _ _ _ rfl w.heap.size 34 i0 (.agg #[.int .i64 0, .bool false]) 2 Tryd.underlying28 hi hz0 hz1 _ _ _ _ l.length rfl rfl rfl rfl ?b2 ?b3 ?b4 ?_)
  case b2 => rw [hz2]; omega
  case b3 => unfold maxLen; omega
  case b4 => exact Nat.le_refl _
  intro w1 hown hgrow
  obtain ⟨z, hzl, hown⟩ : ∃ z : List Value, z.length = l.length * 2 ∧ w1.ownsRow w.heap.size 34 2 (.slice (some ⟨w.heap.size, 0, none⟩) l.length l.length) l.length z :=
    ⟨_, by rw [Array.length_toList, size_madeCells], hown⟩
  go_wp2
  go_loopw [4] (fun i wr => ∃ i' : Nat, i = .int .i64 i' ∧ i' ≤ l.length ∧ wr.ownsRow w.heap.size 34 2 (.slice (some ⟨w.heap.size, 0, none⟩) l.length l.length) l.length (sv (l.take i') ++ z.drop (i' * 2)) ∧ Below w.heap.size w wr) (fun i _ => l.length - (intOf i).toNat)
  case atStart => exact ⟨0, rfl, Nat.zero_le _, by simpa using hown, grown_below0 hgrow (by simp)⟩
  case round =>
    obtain ⟨i', rfl, hi', hown', hb⟩ := hrel
    have HO := Lib.hid hown'
    have HB := Lib.hid hb
    clear hown hgrow
    by_cases hlt : i' < l.length
    · obtain ⟨b, o, rfl, hbN, c0, c1⟩ := H.out.cell i' hlt
      replace c0 := (hb.cell (p := ⟨b, o + i' * 2, none⟩) (by show b < w.heap.size; omega)).trans c0
      replace c1 := (hb.cell (p := ⟨b, o + i' * 2 + 1, none⟩) (by show b < w.heap.size; omega)).trans c1
      have HTK : Hid (sv (l.take (i' + 1)) = sv (l.take i') ++ [.int .i64 (l[i']).1, .bool (l[i']).2]) := Lib.hid (by rw [List.take_succ_eq_append_getElem hlt, sv_append]; rfl)
      obtain ⟨⟨n, q⟩, hs⟩ : ∃ s : St, s = l[i'] := ⟨_, rfl⟩
      rw [← hs] at c0 c1 HTK
      have hlen : (sv (l.take i')).length = i' * 2 := by rw [sv_length, List.length_take]; omega
      have HL := Lib.hid hlen
      clear hs hown' hb hlen
      go_wp2_with fail
      refine (tostep_any n q _).mono ?_
      rintro e w2 ⟨rfl, hb2⟩
      have hOR := own_heap HO.out (w' := w2) (fun g hg => hb2.block g (HO.out.lt g hg).2)
      have hcell : ∀ c, c < 2 → ∃ u, w2.cell? ⟨w.heap.size, i' * 2 + c, none⟩ = some u := fun c hc => by
        have h1 : i' * 2 + c < l.length * 2 := by omega
        exact ⟨_, (hOR.cellAt (i' * 2 + c) h1).trans (List.getElem?_eq_getElem (by rw [hOR.1]; exact h1))⟩
      obtain ⟨u0, k0⟩ := hcell 0 (by omega)
      obtain ⟨u1, k1⟩ := hcell 1 (by omega)
      rw [Nat.add_zero] at k0
      have hfr := hOR.frozenAt
      have HB2 := Lib.hid hb2
      have HOR := Lib.hid hOR
      clear hb2 hOR hcell c0 c1
      go_wp2
      go_roundw
      case rel =>
        refine ⟨i' + 1, by go_num, by omega, ?_, bset (bset (HB.out.trans (HB2.out.mono HB.out.size)) (Nat.le_refl _)) (Nat.le_refl _)⟩
        have h1 := (HOR.out.stored (i' * 2) (.int .i64 n)).1
        have h2 := (h1.stored (i' * 2 + 1) (.bool q)).1
        rw [set_two _ _ _ _ _ HL.out (by rw [List.length_drop]; omega), List.drop_drop] at h2
        rw [HTK.out, show (i' + 1) * 2 = i' * 2 + 2 by omega]
        exact h2
      case measure => simp [intOf]; omega
    · obtain rfl : i' = l.length := by omega
      clear hown' hb
      go_wp2
      go_ret
      refine ⟨_, _, rfl, ?_, HB.out⟩
      have h1 := HO.out
      rw [List.take_of_length_le (Nat.le_refl _), List.drop_eq_nil_of_le (by omega), List.append_nil] at h1
      exact h1
theorem eqstep_yes (s : St) (w : World) : Calls Tryd.prog 52 #[.agg #[.int .i64 s.1, .bool s.2], .agg #[.int .i64 s.1, .bool s.2]] w fun e w' => e = .returned (.bool true) ∧ Below w.heap.size w w' := by
  obtain ⟨n, b⟩ := s
  have h1 : (n != n) = false := by simp
  have h2 : (b != b) = false := by simp
  go_enter Tryd.func52, Tryd.ntmps52
  go_wp2
  go_ret
  exact ⟨rfl, boxes2 _ _ _⟩
theorem eqStepS_yes (l : List St) (w : World) (N : Nat) (a b : Option Addr) (cap cap2 : Nat) (h : SAt w N a cap l) (h2 : SAt w N b cap2 l) (hN : N ≤ w.heap.size) (hl : l.length ≤ 9223372036854775807) :
    Calls Tryd.prog 29 #[.slice a l.length cap, .slice b l.length cap2] w fun e w' => e = .returned (.bool true) ∧ Below w.heap.size w w' := by
  have H := Lib.hid h
  have H2 := Lib.hid h2
  clear h h2
  go_enter Tryd.func29, Tryd.ntmps29
  go_wp2
  go_loopw [5] (fun i wr => ∃ i' : Nat, i = .int .i64 i' ∧ i' ≤ l.length ∧ Below w.heap.size w wr) (fun i _ => l.length - (intOf i).toNat)
  case atStart => exact ⟨0, rfl, Nat.zero_le _, Below.refl _ _⟩
  case round =>
    obtain ⟨i', rfl, hi', hb⟩ := hrel
    have HB := Lib.hid hb
    by_cases hlt : i' < l.length
    · obtain ⟨g, o, rfl, hgN, c0, c1⟩ := H.out.cell i' hlt
      obtain ⟨g2, o2, rfl, hgN2, d0, d1⟩ := H2.out.cell i' hlt
      replace c0 := (hb.cell (p := ⟨g, o + i' * 2, none⟩) (by show g < w.heap.size; omega)).trans c0
      replace c1 := (hb.cell (p := ⟨g, o + i' * 2 + 1, none⟩) (by show g < w.heap.size; omega)).trans c1
      replace d0 := (hb.cell (p := ⟨g2, o2 + i' * 2, none⟩) (by show g2 < w.heap.size; omega)).trans d0
      replace d1 := (hb.cell (p := ⟨g2, o2 + i' * 2 + 1, none⟩) (by show g2 < w.heap.size; omega)).trans d1
      obtain ⟨⟨n, q⟩, hs⟩ : ∃ s : St, s = l[i'] := ⟨_, rfl⟩
      rw [← hs] at c0 c1 d0 d1
      have hc := fun W => eqstep_yes (n, q) W
      have HC := Lib.hid hc
      clear hs hb hc
      go_wp2_with fail
      go_still_tail 8, (by kernel_rfl)
      go_wp2_with fail
      refine (HC.out _).mono ?_
      rintro e w2 ⟨rfl, hb2⟩
      go_wp2
      go_roundw
      case rel => exact ⟨i' + 1, by go_num, by omega, HB.out.trans (((Below.refl wr.heap.size wr).drew).trans hb2 |>.mono HB.out.size)⟩
      case measure => simp [intOf]; omega
    · go_wp2
      go_ret
      exact ⟨rfl, HB.out⟩
end Go.Proofs.YtgfebmnlcihpnaaDoor
