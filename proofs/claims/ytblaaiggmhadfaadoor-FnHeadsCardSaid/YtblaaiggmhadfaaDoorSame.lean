/- Whether two slices of bytes are equal: the other helper of the laws. -/
import Derived.Test.YtblaaiggmhadfaaDoorRows
import Derived.Test.YtblaaiggmhadfaaDoorMem
import Derived.WalkKit
import Derived.Lib.Hide
import Derived.Deep.QuietTactic
import Derived.BigQuiet
import Derived.ProofKit
namespace Go.Proofs.YtblaaiggmhadfaaDoor
open Go.RowKit
theorem eq_listB_of {l m : List UInt8} (h : l.length = m.length) (k : ∀ j (h1 : j < l.length) (h2 : j < m.length), l[j] = m[j]) : l = m := List.ext_getElem h k
/-- the loop of an equality test of byte slices -/
theorem same_len (w : World) (v u : Value) (l m : List UInt8) (h : Reads w v (bv l)) (k : Reads w u (bv m)) (hlen : l.length ≠ m.length) :
    Calls Tryd.prog 13 #[v, u] w fun e w' => e = .returned (.bool false) ∧ Below w.heap.size w w' := by
  obtain ⟨a, cap, rfl, hc⟩ := reads_byte h
  obtain ⟨a2, cap2, rfl, hc2⟩ := reads_byte k
  clear hc hc2 h k
  have hne : ((l.length : Int) != m.length) = true := by simp; omega
  go_enter Tryd.func13, Tryd.ntmps13
  go_wp2
  go_ret
  exact ⟨rfl, Below.refl _ _⟩
theorem same_any (w : World) (v u : Value) (l m : List UInt8) (h : Reads w v (bv l)) (k : Reads w u (bv m)) (hl : l.length ≤ 1099511627776) :
    Calls Tryd.prog 13 #[v, u] w fun e w' => e = .returned (.bool (decide (l = m))) ∧ Below w.heap.size w w' := by
  by_cases hlen : l.length = m.length
  · have hle := hlen
    obtain ⟨a, cap, rfl, hc⟩ := reads_byte h
    obtain ⟨a2, cap2, rfl, hc2⟩ := reads_byte k
    have HC := Lib.hid hc
    have HC2 := Lib.hid hc2
    have HL := Lib.hid hlen
    clear hc hc2 h k
    have hne : ((l.length : Int) != m.length) = false := by simp; omega
    rw [← hlen] at hne ⊢
    clear hlen
    go_enter Tryd.func13, Tryd.ntmps13
    go_wp2
    go_loopw [5] (fun i wr => ∃ i' : Nat, i = .int .i64 i' ∧ i' ≤ l.length ∧ l.take i' = m.take i' ∧ Below w.heap.size w wr) (fun i _ => l.length - (intOf i).toNat)
    case atStart => exact ⟨0, rfl, Nat.zero_le _, rfl, Below.refl _ _⟩
    case round =>
      obtain ⟨i', rfl, hi', heq, hb⟩ := hrel
      have HB := Lib.hid hb
      have HE := Lib.hid heq
      clear heq
      by_cases hlt : i' < l.length
      · have hlt2 : i' < m.length := by omega
        obtain ⟨b, o, rfl, hcl⟩ := HC.out i' hlt
        obtain ⟨b2, o2, rfl, hcl2⟩ := HC2.out i' hlt2
        have hcl' : wr.cell? ⟨b, o + i', none⟩ = some (.int .u8 (l[i']).toNat) := by rw [hb.cell (p := ⟨b, o + i', none⟩) (cell_lt hcl)]; exact hcl
        have hcl2' : wr.cell? ⟨b2, o2 + i', none⟩ = some (.int .u8 (m[i']).toNat) := by rw [hb.cell (p := ⟨b2, o2 + i', none⟩) (cell_lt hcl2)]; exact hcl2
        clear hb hcl hcl2
        by_cases hx : l[i'] = m[i']
        · have hxx : (((l[i'].toNat : Nat) : Int) != (m[i'].toNat : Nat)) = false := by rw [hx]; simp
          go_wp2
          all_goals go_quiet (fail)
          all_goals go_wp2
          go_roundw
          case rel => exact ⟨i' + 1, by go_num, by omega, by rw [List.take_succ_eq_append_getElem hlt, List.take_succ_eq_append_getElem hlt2, HE.out, hx], below_drewN HB.out _⟩
          case measure => simp [intOf]; omega
        · have hxx : (((l[i'].toNat : Nat) : Int) != (m[i'].toNat : Nat)) = true := by
            simp only [bne_iff_ne, ne_eq, Int.natCast_inj]
            exact fun e => hx (UInt8.toNat_inj.1 e)
          go_wp2
          all_goals go_quiet (fail)
          all_goals go_wp2
          go_ret
          refine ⟨?_, below_drewN HB.out _⟩
          have : l ≠ m := fun e => hx (by subst e; rfl)
          simp [this]
      · obtain rfl : i' = l.length := by omega
        clear hb
        go_wp2
        go_ret
        refine ⟨?_, HB.out⟩
        have h1 := HE.out
        rw [List.take_of_length_le (Nat.le_refl _), List.take_of_length_le (by omega)] at h1
        simp [h1]
  · refine (same_len w v u l m h k hlen).mono ?_
    rintro e w' ⟨rfl, hb⟩
    refine ⟨?_, hb⟩
    have : l ≠ m := fun e => hlen (by rw [e])
    simp [this]
theorem same_yes (w : World) (v u : Value) (l : List UInt8) (h : Reads w v (bv l)) (k : Reads w u (bv l)) (hl : l.length ≤ 1099511627776) :
    Calls Tryd.prog 13 #[v, u] w fun e w' => e = .returned (.bool true) ∧ Below w.heap.size w w' := by
  have := same_any w v u l l h k hl
  rw [decide_eq_true rfl] at this
  exact this
end Go.Proofs.YtblaaiggmhadfaaDoor
