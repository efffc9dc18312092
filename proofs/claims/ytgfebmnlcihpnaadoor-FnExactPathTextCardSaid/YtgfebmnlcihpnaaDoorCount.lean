/- CountOf and DeepOf of the model. -/
import Derived.Test.YtgfebmnlcihpnaaDoorTree
import Derived.Test.YtgfebmnlcihpnaaDoorIn
import Derived.Lib.Hide
import Derived.Outline
import Derived.ProofKit
namespace Go.Proofs.YtgfebmnlcihpnaaDoor
open Go.RowKit
theorem cntL_le (l : List PT) (M : Nat) (h : ∀ t ∈ l, t.sz ≤ M) : PT.cntL l ≤ l.length + PT.szL l := by
  induction l with
  | nil => simp [PT.cntL]
  | cons t l ih =>
    have h1 := cnt_le_sz t
    have h2 := ih (fun u hu => h u (by simp [hu]))
    simp only [PT.cntL, PT.szL, List.length_cons]
    omega
theorem take_step (l : List AT) (i : Nat) (h : i < l.length) : i < (AT.ptL l).length ∧ (AT.ptL l)[i]? = some (l[i]).pt := by
  rw [AT.ptL_length]
  exact ⟨h, by simp [AT.ptL_eq, List.getElem?_eq_getElem h]⟩
theorem ptL_get (l : List AT) (i : Nat) (h : i < l.length) : (AT.ptL l)[i]'(by rw [AT.ptL_length]; exact h) = (l[i]).pt := by simp [AT.ptL_eq]
theorem box5 (w : World) (k n x : Int) (s : ByteArray) (a : Option Addr) (len cap : Nat) (t : TypeId) {wr : World} (hb : Below (w.heap.size + 1) (w.alloc (.cells #[.int .i64 k, .int .i64 n, .int .i64 x, .string s, .slice a len cap] t)) wr) :
    wr.cell? ⟨w.heap.size, 0, none⟩ = some (.int .i64 k) ∧ wr.cell? ⟨w.heap.size, 1, none⟩ = some (.int .i64 n) ∧ wr.cell? ⟨w.heap.size, 2, none⟩ = some (.int .i64 x) ∧ wr.cell? ⟨w.heap.size, 3, none⟩ = some (.string s) ∧ wr.cell? ⟨w.heap.size, 4, none⟩ = some (.slice a len cap) := by
  refine ⟨?_, ?_, ?_, ?_, ?_⟩ <;> exact (hb.cell (by simp)).trans (by simp [go_sem])
theorem szL_ge {l : List AT} {t : AT} (h : t ∈ l) : t.pt.sz ≤ PT.szL (AT.ptL l) := sz_mem (by rw [AT.ptL_eq]; exact List.mem_map_of_mem h)
end Go.Proofs.YtgfebmnlcihpnaaDoor
