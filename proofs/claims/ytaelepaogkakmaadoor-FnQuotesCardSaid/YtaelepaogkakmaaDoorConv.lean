/- A string's bytes as a slice, and back. -/
import Derived.Test.YtaelepaogkakmaaDoorRows
import Derived.Test.YtaelepaogkakmaaDoorMem
import Derived.Test.YtaelepaogkakmaaDoorFresh
import Derived.WalkKit
import Derived.Laws.IdiomStrings
import Derived.Laws.BytesArg
namespace Go.Proofs.YtaelepaogkakmaaDoor
open Go.RowKit
theorem size_l (l : List UInt8) : (ByteArray.mk l.toArray).size = l.length := by simp [ByteArray.size]
theorem conv_bytes (w : World) (l : List UInt8) : ∃ cap w1, (convert 9 22 (.string ⟨l.toArray⟩)).run Tryd.prog w = .ok (.slice (some ⟨w.heap.size, 0, none⟩) l.length cap) w1 ∧ Reads w1 (.slice (some ⟨w.heap.size, 0, none⟩) l.length cap) (bv l) ∧ Below w.heap.size w w1 ∧ ∃ C fz, w1.heap[w.heap.size]? = some (.cells C 5 fz) := by
  have h := run_bytes_of_string (P := Tryd.prog) w 9 22 5 ⟨l.toArray⟩ Tryd.underlying9 Tryd.underlying22 Tryd.underlying5
  rw [size_l] at h
  refine ⟨_, _, h, ⟨_, _, by rw [bv_length], fun j hj => ⟨_, _, rfl, ?_⟩⟩, ?_⟩
  · have hj' : j < l.length := by simpa using hj
    rw [show (w.heap.size) = w.drew.heap.size from rfl, Nat.zero_add, World.cell?_alloc_mark, bytesRow_at _ _ _ (by simpa using hj'), bv_getElem]
    simp
  · exact ⟨((Below.refl w.heap.size w).drew).alloc (Nat.le_refl _) _, _, _, heap_alloc_new w.drew _⟩
theorem conv_bytes_cap (w : World) (l : List UInt8) (hl : l.length ≤ maxLen) : ∃ cap w1, l.length ≤ cap ∧ cap ≤ maxLen ∧ (convert 9 22 (.string ⟨l.toArray⟩)).run Tryd.prog w = .ok (.slice (some ⟨w.heap.size, 0, none⟩) l.length cap) w1 ∧ Reads w1 (.slice (some ⟨w.heap.size, 0, none⟩) l.length cap) (bv l) ∧ Below w.heap.size w w1 ∧ ∃ C fz, w1.heap[w.heap.size]? = some (.cells C 5 fz) := by
  have h := run_bytes_of_string (P := Tryd.prog) w 9 22 5 ⟨l.toArray⟩ Tryd.underlying9 Tryd.underlying22 Tryd.underlying5
  rw [size_l] at h
  refine ⟨_, _, grownCap_ge _ _ _ _, grownCap_le_maxLen _ _ _ _ hl, h, ⟨_, _, by rw [bv_length], fun j hj => ⟨_, _, rfl, ?_⟩⟩, ?_⟩
  · have hj' : j < l.length := by simpa using hj
    rw [show (w.heap.size) = w.drew.heap.size from rfl, Nat.zero_add, World.cell?_alloc_mark, bytesRow_at _ _ _ (by simpa using hj'), bv_getElem]
    simp
  · exact ⟨((Below.refl w.heap.size w).drew).alloc (Nat.le_refl _) _, _, _, heap_alloc_new w.drew _⟩
theorem nums_of (l : List UInt8) : strOfNums (l.map fun x => (x.toNat : Int)) = ⟨l.toArray⟩ := by
  unfold strOfNums
  congr 1
  rw [List.map_map]
  congr 1
  rw [show ((fun n : Int => UInt8.ofNat n.toNat) ∘ fun x : UInt8 => (x.toNat : Int)) = id from by funext x; simp]
  simp
theorem conv_str (w : World) (v : Value) (l : List UInt8) (h : Slc w v (bv l)) : (convert 22 9 v).run Tryd.prog w = .ok (.string ⟨l.toArray⟩) w := by
  rcases h with ⟨rfl, h⟩ | ⟨b, o, cap, rfl, hc⟩
  · obtain rfl : l = [] := by cases l with | nil => rfl | cons x l => simp [bv] at h
    exact run_convert_bytes_nil w _ _ Tryd.underlying22 Tryd.underlying5 0 0 _ Tryd.underlying9
  · rw [← nums_of, bv_length]
    refine run_convert_bytes_arg w _ _ Tryd.underlying22 Tryd.underlying5 b o l.length cap _ (by simp) (fun j hj => ?_) _ Tryd.underlying9
    rw [hc j _ (by rw [List.getElem?_eq_getElem (by simpa using hj), bv_getElem])]
    simp [List.getD_eq_getElem?_getD, hj]
theorem slice_cells {w : World} {b len cap : Nat} {l : List UInt8} (h : Reads w (.slice (some ⟨b, 0, none⟩) len cap) (bv l)) : len = l.length ∧ ∀ j u, (bv l)[j]? = some u → w.cell? ⟨b, 0 + j, none⟩ = some u := by
  obtain ⟨a, c, e, hc⟩ := h
  injection e with e1 e2 e3
  refine ⟨by rw [e2, bv_length], fun j u hu => ?_⟩
  obtain ⟨hj, hju⟩ := List.getElem?_eq_some_iff.1 hu
  obtain ⟨b', o, ha, hcl⟩ := hc j hj
  rw [ha] at e1
  injection e1 with e1
  injection e1 with e1 e4
  subst e1
  subst e4
  rw [hcl, hju]
end Go.Proofs.YtaelepaogkakmaaDoor
