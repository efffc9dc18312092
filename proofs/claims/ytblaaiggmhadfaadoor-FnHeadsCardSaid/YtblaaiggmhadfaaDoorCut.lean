/- A piece of a slice: what the program's cut hands on. -/
import Derived.Test.YtblaaiggmhadfaaDoorMem
import Derived.WalkKit
import Derived.Lib.Hide
import Derived.Outline
import Derived.ProofKit
namespace Go.Proofs.YtblaaiggmhadfaaDoor
open Go.RowKit
theorem sub_cells {w : World} {b o : Nat} {l : List UInt8} {i k : Nat} (hc : ∀ j u, (bv l)[j]? = some u → w.cell? ⟨b, o + j, none⟩ = some u) (j : Nat) (u : Value) (hu : (bv ((l.drop i).take k))[j]? = some u) : w.cell? ⟨b, o + i + j, none⟩ = some u := by
  rw [Nat.add_assoc]
  refine hc (i + j) u ?_
  simp only [bv, List.map_take, List.map_drop] at hu ⊢
  rw [List.getElem?_take] at hu
  split at hu
  · rw [List.getElem?_drop] at hu; exact hu
  · cases hu
theorem ret_slice {a : Option Addr} {m n : Nat} (h : m = n) : Ending.returned (.slice a m m) = .returned (.slice a n n) := by rw [h]
theorem cut_any (w : World) (b o cap : Nat) (l : List UInt8) (i k : Nat) (hc : ∀ j u, (bv l)[j]? = some u → w.cell? ⟨b, o + j, none⟩ = some u) (hik : i + k ≤ l.length) (hcap : l.length ≤ cap) (hm : cap ≤ maxLen) :
    Calls Tryd.prog 57 #[.slice (some ⟨b, o, none⟩) l.length cap, .int .i64 i, .int .i64 k] w fun e w' => ∃ o', e = .returned (.slice (some ⟨b, o', none⟩) k k) ∧ (∀ j u, (bv ((l.drop i).take k))[j]? = some u → w.cell? ⟨b, o' + j, none⟩ = some u) ∧ w = w' := by
  have HC := Lib.hid hc
  have h1 : (i : Int) + k ≤ cap := by omega
  have h2 : (i : Int) ≤ i + k := by omega
  have h3 : (cap : Int) ≤ 9223372036854775807 := by unfold maxLen at hm; omega
  clear hc
  by_cases hk : k = 0
  · subst hk
    go_enter Tryd.func57, Tryd.ntmps57
    go_wp2
    go_ret
    exact ⟨o, rfl, fun j u hu => by simp [bv] at hu, rfl⟩
  · have hk2 : ¬ i + k = i := by omega
    go_enter Tryd.func57, Tryd.ntmps57
    go_wp2
    go_ret
    exact ⟨o + i, ret_slice (by omega), fun j u hu => sub_cells HC.out j u hu, rfl⟩
end Go.Proofs.YtblaaiggmhadfaaDoor
