/- A row of the call's own: facts. -/
import Derived.Test.YtblaaiggmhadfaaDoorMem
import Derived.WalkKit
import Derived.ProofKit
namespace Go.Proofs.YtblaaiggmhadfaaDoor
open Go.RowKit
theorem byteInfo' : (Tryd.prog.info? 5).map (fun i => (i.zero, i.size, i.bytes)) = some (some (.int .u8 0), 1, 1) := by kernel_rfl
theorem addr_add (b o j : Nat) : (⟨b, o, none⟩ : Addr).add j = ⟨b, o + j, none⟩ := by unfold Addr.add; split <;> simp_all
theorem own_nonnil {w : World} {B E n : Nat} {v : Value} {xs : List Value} (h : w.ownsRow B E 1 v n xs) (hn : 0 < n) : v ≠ .slice none 0 0 := by
  rcases h.2 with ⟨_, h0⟩ | ⟨g, cap, cur, rfl, _⟩
  · omega
  · intro e; cases e
/-- what PutRune hands on: a row of its own that holds the bytes l -/
def Fresh (w : World) (l : List UInt8) (e : Ending) (w' : World) : Prop := ∃ v', e = .returned v' ∧ v' ≠ .slice none 0 0 ∧ w'.ownsRow w.heap.size 5 1 v' l.length (bv l) ∧ Below w.heap.size w w'
theorem own_take {w : World} {B E n cap g k : Nat} {xs : List Value} (h : w.ownsRow B E 1 (.slice (some ⟨g, 0, none⟩) n cap) n xs) (hk : k ≤ n) : w.ownsRow B E 1 (.slice (some ⟨g, 0, none⟩) k cap) k (xs.take k) := by
  have hl := h.1
  refine ⟨by rw [List.length_take]; omega, ?_⟩
  rcases h.2 with ⟨h, _⟩ | ⟨g', cap', cur, h, hb, hg, hnc, hcm, hcs, htake⟩
  · cases h
  · injection h with h1 h2 h3
    injection h1 with h1
    injection h1 with h1
    subst h1
    subst h3
    refine .inr ⟨g, cap, cur, rfl, hb, hg, by omega, hcm, hcs, ?_⟩
    rw [← htake, List.take_take]
    congr 1
    omega
theorem bv_take (l : List UInt8) (k : Nat) : (bv l).take k = bv (l.take k) := by simp [bv, List.map_take]
theorem bv_set (l : List UInt8) (k : Nat) (z : Int) (h0 : 0 ≤ z) (h1 : z < 256) : (bv l).set k (.int .u8 z) = bv (l.set k (UInt8.ofNat z.toNat)) := by
  unfold bv
  rw [List.map_set]
  congr 2
  have : (UInt8.ofNat z.toNat).toNat = z.toNat % 256 := by simp
  rw [this]
  omega
theorem own_shape {w : World} {B E n : Nat} {v : Value} {xs : List Value} (h : w.ownsRow B E 1 v n xs) (hv : v ≠ .slice none 0 0) : ∃ g cap, v = .slice (some ⟨g, 0, none⟩) n cap ∧ B ≤ g ∧ n ≤ cap ∧ cap ≤ maxLen := by
  rcases h.2 with ⟨h, _⟩ | ⟨g, cap, cur, rfl, hb, _, h1, h2, _⟩
  · exact absurd h hv
  · exact ⟨g, cap, rfl, hb, h1, h2⟩
theorem own_base {w : World} {B B' E n : Nat} {v : Value} {xs : List Value} (h : w.ownsRow B E 1 v n xs) (hB : B' ≤ B) : w.ownsRow B' E 1 v n xs := by
  refine ⟨h.1, ?_⟩
  rcases h.2 with h | ⟨g, cap, cur, hv, hb, rest⟩
  · exact .inl h
  · exact .inr ⟨g, cap, cur, hv, Nat.le_trans hB hb, rest⟩
theorem own_cells {w : World} {B E n cap g : Nat} {xs : List Value} (h : w.ownsRow B E 1 (.slice (some ⟨g, 0, none⟩) n cap) n xs) (j : Nat) (u : Value) (hu : xs[j]? = some u) : w.cell? ⟨g, 0 + j, none⟩ = some u := by
  have h1 := (List.getElem?_eq_some_iff.1 hu).1
  have h2 := h.1
  rw [Nat.zero_add, h.cellAt j (by omega)]
  exact hu
theorem sub_reads {w : World} {g n c off len c' j k : Nat} {l : List UInt8} (h : Reads w (.slice (some ⟨g, 0, none⟩) n c) (bv l)) (hjk : j + k ≤ l.length) (ho : off = j) (hl : len = k) : Reads w (.slice (some ⟨g, off, none⟩) len c') (bv ((l.drop j).take k)) := by
  subst ho hl
  refine ⟨_, c', by rw [bv_length, List.length_take, List.length_drop, Nat.min_eq_left (by omega)], fun i hi => ⟨g, off, rfl, ?_⟩⟩
  have hi' : i < len := by rw [bv_length, List.length_take, List.length_drop] at hi; omega
  obtain ⟨a, c2, e, hc⟩ := h
  obtain ⟨b, o, ha, hcl⟩ := hc (off + i) (by rw [bv_length]; omega)
  injection e with e1 e2 e3
  rw [ha] at e1
  injection e1 with e1
  injection e1 with e1 e4
  subst e1
  subst e4
  rw [Nat.zero_add] at hcl
  rw [hcl]
  simp [bv]
theorem slc_sl {w : World} {v : Value} {xs : List Value} (h : Sl w v xs) : Slc w v xs := .inr h
theorem below_alloc (w : World) (o : Obj) : Below w.heap.size w (w.alloc o) := (Below.refl w.heap.size w).alloc (Nat.le_refl _) o
end Go.Proofs.YtblaaiggmhadfaaDoor
