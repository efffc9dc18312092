/- What the exact laws' helpers on byte slices return: a copy, whether two are equal, marks written and found again. -/
import Derived.Test.YtilgncebhgplaaaRows
import Derived.Test.YtilgncebhgplaaaIn
import Derived.Test.YtilgncebhgplaaaMem
import Derived.Test.YtilgncebhgplaaaFill
import Derived.WalkKit
import Derived.Lib.Hide
import Derived.Outline
import Derived.ProofKit
namespace Go.Proofs.Ytilgncebhgplaaa
open Go.RowKit
theorem byteInfo : (Try.prog.info? 5).map (fun i => (i.zero, i.size, i.bytes)) = some (some (.int .u8 0), 1, 1) := by kernel_rfl
theorem toByteS_any (w : World) (v : Value) (l : List UInt8) (h : Reads w v (bv l)) (hl : l.length ≤ 1099511627776) :
    Calls Try.prog 13 #[v] w fun e w' => ∃ v', v' = .slice (some ⟨w.heap.size, 0, none⟩) l.length l.length ∧ e = .returned v' ∧ w'.ownsRow w.heap.size 5 1 v' l.length (bv l) ∧ Below w.heap.size w w' := by
  obtain ⟨i0, hi, hz0, hz1, hz2⟩ := info_parts byteInfo
  have hR := Lib.hid h
  obtain ⟨a, cap, rfl, hc⟩ := reads_byte h
  have HC := Lib.hid hc
  clear hc h
  go_enter Try.func13, Try.ntmps13
  go_wp2_with (at_make; refine wpList_make_full _ rfl _ _ _ rfl w.heap.size 5 i0 (.int .u8 0) 1 Try.underlying34 hi hz0 hz1 _ _ _ _ l.length rfl rfl rfl rfl ?b2 ?b3 ?b4 ?_)
  case b2 => rw [hz2]; omega
  case b3 => unfold maxLen; omega
  case b4 => exact Nat.le_refl _
  intro w1 hown hgrow
  obtain ⟨z, hzl, hown⟩ : ∃ z : List Value, z.length = l.length ∧ w1.ownsRow w.heap.size 5 1 (.slice (some ⟨w.heap.size, 0, none⟩) l.length l.length) l.length z :=
    ⟨_, by rw [Array.length_toList, size_madeCells], hown⟩
  go_wp2
  go_loopw [4] (fun i wr => ∃ i' : Nat, i = .int .i64 i' ∧ i' ≤ l.length ∧ wr.ownsRow w.heap.size 5 1 (.slice (some ⟨w.heap.size, 0, none⟩) l.length l.length) l.length ((bv l).take i' ++ z.drop i') ∧ Below w.heap.size w wr) (fun i _ => l.length - (intOf i).toNat)
  case atStart => exact ⟨0, rfl, Nat.zero_le _, by simpa using hown, grown_below0 hgrow (by simp)⟩
  case round =>
    obtain ⟨i', rfl, hi', hown', hb⟩ := hrel
    have HO := Lib.hid hown'
    have HB := Lib.hid hb
    by_cases hlt : i' < l.length
    · obtain ⟨b, o, rfl, hcl⟩ := HC.out i' hlt
      have hcl' : wr.cell? ⟨b, o + i', none⟩ = some (.int .u8 (l[i']).toNat) := by rw [hb.cell (p := ⟨b, o + i', none⟩) (cell_lt hcl)]; exact hcl
      have hfr := hown'.frozenAt i'
      have hat : wr.cell? ⟨w.heap.size, i', none⟩ = _ := hown'.cellAt i' (by omega)
      have hu : ((bv l).take i' ++ z.drop i')[i']? = some z[i'] := by
        rw [List.getElem?_append_right (by simp; omega)]
        simp [List.getElem?_drop]
        rw [Nat.min_eq_left (by omega), Nat.sub_self, Nat.add_zero, List.getElem?_eq_getElem (by omega)]
      rw [hu] at hat
      clear hu hown' hb hown hgrow
      go_wp2
      go_roundw
      case rel =>
        have hst := HO.out.stored i' (.int .u8 (l[i']).toNat)
        refine ⟨i' + 1, by go_num, by omega, ?_, HB.out.trans ((grown_belowN hst.2 (HB.out.size) (by simp)))⟩
        have := fill_set (bv l) z i' (by simpa using hlt) (by simp [hzl])
        rw [bv_getElem] at this
        rw [← this]
        exact hst.1
      case measure => simp [intOf]; omega
    · obtain rfl : i' = l.length := by omega
      clear hown' hb
      go_wp2
      go_ret
      refine ⟨_, rfl, rfl, ?_, HB.out⟩
      have h1 := HO.out
      rw [List.take_of_length_le (by simp), List.drop_eq_nil_of_le (by omega), List.append_nil] at h1
      exact h1
theorem eq_list_of {l m : List UInt8} (h : l.length = m.length) (k : ∀ j (h1 : j < l.length) (h2 : j < m.length), l[j] = m[j]) : l = m := List.ext_getElem h k
/-- the loop of an equality test of byte slices -/
theorem eqByteS_len (w : World) (v u : Value) (l m : List UInt8) (h : Reads w v (bv l)) (k : Reads w u (bv m)) (hlen : l.length ≠ m.length) :
    Calls Try.prog 15 #[v, u] w fun e w' => e = .returned (.bool false) ∧ Below w.heap.size w w' := by
  obtain ⟨a, cap, rfl, hc⟩ := reads_byte h
  obtain ⟨a2, cap2, rfl, hc2⟩ := reads_byte k
  clear hc hc2 h k
  have hne : ((l.length : Int) != m.length) = true := by simp; omega
  go_enter Try.func15, Try.ntmps15
  go_wp2
  go_ret
  exact ⟨rfl, Below.refl _ _⟩
theorem eqByteS_any (w : World) (v u : Value) (l m : List UInt8) (h : Reads w v (bv l)) (k : Reads w u (bv m)) (hl : l.length ≤ 1099511627776) :
    Calls Try.prog 15 #[v, u] w fun e w' => e = .returned (.bool (decide (l = m))) ∧ Below w.heap.size w w' := by
  by_cases hlen : l.length = m.length
  · have hle := hlen
    obtain ⟨a, cap, rfl, hc⟩ := reads_byte h
    obtain ⟨a2, cap2, rfl, hc2⟩ := reads_byte k
    have HC := Lib.hid hc
    have HC2 := Lib.hid hc2
    have HL := Lib.hid hlen
    clear hc hc2 h k
    have hne : ((l.length : Int) != m.length) = false := by simp; omega
    rw [← hlen] at hne ⊢
    clear hlen
    go_enter Try.func15, Try.ntmps15
    go_wp2
    go_loopw [5] (fun i wr => ∃ i' : Nat, i = .int .i64 i' ∧ i' ≤ l.length ∧ l.take i' = m.take i' ∧ Below w.heap.size w wr) (fun i _ => l.length - (intOf i).toNat)
    case atStart => exact ⟨0, rfl, Nat.zero_le _, rfl, Below.refl _ _⟩
    case round =>
      obtain ⟨i', rfl, hi', heq, hb⟩ := hrel
      have HB := Lib.hid hb
      have HE := Lib.hid heq
      clear heq
      by_cases hlt : i' < l.length
      · have hlt2 : i' < m.length := by omega
        obtain ⟨b, o, rfl, hcl⟩ := HC.out i' hlt
        obtain ⟨b2, o2, rfl, hcl2⟩ := HC2.out i' hlt2
        have hcl' : wr.cell? ⟨b, o + i', none⟩ = some (.int .u8 (l[i']).toNat) := by rw [hb.cell (p := ⟨b, o + i', none⟩) (cell_lt hcl)]; exact hcl
        have hcl2' : wr.cell? ⟨b2, o2 + i', none⟩ = some (.int .u8 (m[i']).toNat) := by rw [hb.cell (p := ⟨b2, o2 + i', none⟩) (cell_lt hcl2)]; exact hcl2
        clear hb hcl hcl2
        by_cases hx : l[i'] = m[i']
        · have hxx : (((l[i'].toNat : Nat) : Int) != (m[i'].toNat : Nat)) = false := by rw [hx]; simp
          go_wp2
          all_goals go_quiet (fail)
          all_goals go_wp2
          go_roundw
          case rel => exact ⟨i' + 1, by go_num, by omega, by rw [List.take_succ_eq_append_getElem hlt, List.take_succ_eq_append_getElem hlt2, HE.out, hx], below_drewN HB.out _⟩
          case measure => simp [intOf]; omega
        · have hxx : (((l[i'].toNat : Nat) : Int) != (m[i'].toNat : Nat)) = true := by
            simp only [bne_iff_ne, ne_eq, Int.natCast_inj]
            exact fun e => hx (UInt8.toNat_inj.1 e)
          go_wp2
          all_goals go_quiet (fail)
          all_goals go_wp2
          go_ret
          refine ⟨?_, below_drewN HB.out _⟩
          have : l ≠ m := fun e => hx (by subst e; rfl)
          simp [this]
      · obtain rfl : i' = l.length := by omega
        clear hb
        go_wp2
        go_ret
        refine ⟨?_, HB.out⟩
        have h1 := HE.out
        rw [List.take_of_length_le (Nat.le_refl _), List.take_of_length_le (by omega)] at h1
        simp [h1]
  · refine (eqByteS_len w v u l m h k hlen).mono ?_
    rintro e w' ⟨rfl, hb⟩
    refine ⟨?_, hb⟩
    have : l ≠ m := fun e => hlen (by rw [e])
    simp [this]
theorem eqByteS_yes (w : World) (v u : Value) (l : List UInt8) (h : Reads w v (bv l)) (k : Reads w u (bv l)) (hl : l.length ≤ 1099511627776) :
    Calls Try.prog 15 #[v, u] w fun e w' => e = .returned (.bool true) ∧ Below w.heap.size w w' := by
  have := eqByteS_any w v u l l h k hl
  rw [decide_eq_true rfl] at this
  exact this
end Go.Proofs.Ytilgncebhgplaaa
