/- Draws of strings out of lists. -/
import Derived.Test.YtaelepaogkakmaaDoorCur
namespace Go.Proofs.YtaelepaogkakmaaDoor
open Go.RowKit
def Single (P : Int → Prop) (w : World) (e : Ending) (w' : World) : Prop := ∃ x : Int, P x ∧ e = .returned (.int .i64 x) ∧ Below w.heap.size w w'
def Word (w : World) (e : Ending) (w' : World) : Prop := ∃ l : List UInt8, l.length ≤ 1000 ∧ e = .returned (.string ⟨l.toArray⟩) ∧ Below w.heap.size w w'
def StrPost (B : Nat) (P : List UInt8 → Prop) (w : World) (e : Ending) (w' : World) : Prop := ∃ l : List UInt8, P l ∧ e = .returned (.string ⟨l.toArray⟩) ∧ Only B w w' ∧ Cur w' B
theorem below_only {w w1 w2 : World} {B : Nat} (h : Below w.heap.size w w1) (ho : Only B w1 w2) (hB : B = w.heap.size) : Below w.heap.size w w2 :=
  h.trans (ho.below w.heap.size (by omega) h.size)
def sv (l : List UInt8) : Value := .string ⟨l.toArray⟩
theorem str_any (w : World) (B b : Nat) (l : List (List UInt8)) (cap : Nat) (hC : Cur w B) (hb : b ≠ B) (hl : 0 < l.length) (hl2 : l.length ≤ 1000) (hcells : ∀ j (hj : j < l.length), w.cell? ⟨b, j, none⟩ = some (sv l[j])) :
    Calls Tryd.prog 47 #[.pointer (some ⟨B, 0, none⟩), .slice (some ⟨b, 0, none⟩) l.length cap] w (StrPost B (· ∈ l) w) := by
  unfold sv at hcells
  go_enter Tryd.func47, Tryd.ntmps47
  go_wp2_with fail
  refine (below_any w B l.length hC (by omega)).mono ?_
  rintro e w1 ⟨x, ⟨hx0, hx1⟩, rfl, ho, hc⟩
  obtain ⟨k, rfl⟩ : ∃ k : Nat, x = k := ⟨x.toNat, by omega⟩
  have hk : k < l.length := by omega
  have hcell : w1.cell? ⟨b, k, none⟩ = some (.string ⟨(l[k]).toArray⟩) := ho.cell hb (hcells k hk)
  have hmem : l[k] ∈ l := List.getElem_mem hk
  generalize l[k] = word at hcell hmem
  clear hcells
  go_wp2
  go_ret
  exact ⟨_, hmem, rfl, ho, hc⟩
theorem scell_new (w : World) (l : List (List UInt8)) (T : TypeId) (j : Nat) (hj : j < l.length) : (w.alloc (.cells (l.map sv).toArray T)).cell? ⟨w.heap.size, j, none⟩ = some (sv l[j]) := by
  have := World.cell?_alloc_mark w (l.map sv).toArray T (0, 0) j
  rw [this]
  simp [hj]
theorem str_lit (w : World) (B : Nat) (l : List (List UInt8)) (T : TypeId) (P : List UInt8 → Prop) (hC : Cur w B) (hl : 0 < l.length) (hl2 : l.length ≤ 1000) (hP : ∀ x ∈ l, P x) :
    Calls Tryd.prog 47 #[.pointer (some ⟨B, 0, none⟩), .slice (some ⟨w.heap.size, 0, none⟩) l.length l.length] (w.alloc (.cells (l.map sv).toArray T)) (StrPost B P w) :=
  (str_any _ B w.heap.size l l.length (hC.alloc _) (Nat.ne_of_gt hC.lt) hl hl2 (fun j hj => scell_new w l T j hj)).mono fun _ _ ⟨x, hx, he, ho, hc⟩ => ⟨x, hP x hx, he, ((Only.refl B w).alloc _).trans ho, hc⟩
end Go.Proofs.YtaelepaogkakmaaDoor
