/- The trees that a law is handed: what is read at the argument is a tree in memory. -/
import Derived.Test.YtgfebmnlcihpnaaDoorRows
import Derived.Test.YtgfebmnlcihpnaaDoorTree
import Derived.Test.YtgfebmnlcihpnaaDoorIn
import Derived.Test.YtgfebmnlcihpnaaDoorFresh
import Derived.WalkKit
import Derived.ProofKit
import Derived.Lib.SmallJoins
import Derived.Deep.Slices
import Derived.Deep.Fields
import Derived.ChangeSame
namespace Go.Proofs.YtgfebmnlcihpnaaDoor
open Go.RowKit Go.Joins Go.ChangeShapes Go.WideShapes Go.Deep
theorem list_of {α : Type} {P : Nat → α → Prop} : ∀ (n : Nat), (∀ i, i < n → ∃ t, P i t) → ∃ l : List α, l.length = n ∧ ∀ i (h : i < l.length), P i l[i]
  | 0, _ => ⟨[], rfl, fun i h => absurd h (by simp)⟩
  | n + 1, h => by
    obtain ⟨l, hl, hp⟩ := list_of n (fun i hi => h i (by omega))
    obtain ⟨t, ht⟩ := h n (by omega)
    refine ⟨l ++ [t], by simp [hl], fun i hi => ?_⟩
    by_cases hil : i < l.length
    · rw [List.getElem_append_left hil]; exact hp i hil
    · have : i = n := by simp at hi; omega
      subst this
      rw [List.getElem_append_right (by omega)]
      simpa [hl] using ht
section
variable {H : Type} {enc : TypeId × Value → H} {P : Program} {w : World} {base : Nat} {spare : Nat → Bool} {held : Bool}
/-- the five one-cell fields of a struct's cells -/
theorem trod_five {t : TypeId} {f0 f1 f2 f3 f4 : Field} {cs : List Value} {fuel : Nat} {x : DataW H × List MemPlace} (hs : P.underlying t = some (.struct #[f0, f1, f2, f3, f4])) (hone : oneCellFields P #[f0, f1, f2, f3, f4] = true) (hC : P.cellsOf t = 5)
    (h : DataW.trod enc P w base spare held fuel t cs = some x) :
    ∃ (v0 v1 v2 v3 v4 : Value) (y0 y1 y2 y3 y4 : DataW H × List MemPlace) (n : Nat), fuel = n + 1 ∧ cs = [v0, v1, v2, v3, v4] ∧ DataW.trod enc P w base spare held n f0.type [v0] = some y0 ∧ DataW.trod enc P w base spare held n f1.type [v1] = some y1 ∧
      DataW.trod enc P w base spare held n f2.type [v2] = some y2 ∧ DataW.trod enc P w base spare held n f3.type [v3] = some y3 ∧ DataW.trod enc P w base spare held n f4.type [v4] = some y4 := by
  obtain ⟨xs, n, hfu, _, hcl, hlen, hg⟩ := DataW.trod_struct hs h
  have hC2 := hcl.trans hC
  obtain ⟨o0, k0⟩ := hone_of hone 0 f0 rfl
  obtain ⟨o1, k1⟩ := hone_of hone 1 f1 rfl
  obtain ⟨o2, k2⟩ := hone_of hone 2 f2 rfl
  obtain ⟨o3, k3⟩ := hone_of hone 3 f3 rfl
  obtain ⟨o4, k4⟩ := hone_of hone 4 f4 rfl
  match cs, hC2, xs, hlen with
  | [c0, c1, c2, c3, c4], _, [y0, y1, y2, y3, y4], _ =>
    exact ⟨c0, c1, c2, c3, c4, y0, y1, y2, y3, y4, n, hfu, rfl, by simpa [o0, k0] using hg 0 f0 rfl, by simpa [o1, k1] using hg 1 f1 rfl, by simpa [o2, k2] using hg 2 f2 rfl, by simpa [o3, k3] using hg 3 f3 rfl, by simpa [o4, k4] using hg 4 f4 rfl⟩
end
section
variable {H : Type} {enc : TypeId × Value → H} {W : World} {base : Nat} {spare : Nat → Bool} {held : Bool}
theorem val_cells5 : Tryd.prog.cellsOf 51 = 5 := by kernel_rfl
theorem open_list_of (fuel : Nat) (ih : ∀ m, m < fuel → ∀ cs (x : DataW H × List MemPlace), DataW.trod enc Tryd.prog W base spare held m 51 cs = some x → ∃ T : AT, cs = T.cells ∧ T.In W W.heap.size ∧ T.pt.Wf)
    (cs : List Value) (x : DataW H × List MemPlace) (h : DataW.trod enc Tryd.prog W base spare held fuel 49 cs = some x) :
    ∃ a cap l, cs = [.slice a l.length cap] ∧ Lv W W.heap.size a cap l ∧ l.length ≤ 9223372036854775807 ∧ ∀ t ∈ l, t.pt.Wf := by
  rcases DataW.trod_slice Tryd.underlying49 h with ⟨rfl, _⟩ | ⟨a, len, cap, elems, rest, n, hfu, rfl, _, _, hlc, hcm, hel, hread, _, _⟩
  · exact ⟨none, 0, [], rfl, ⟨Nat.le_refl _, fun j hj => absurd hj (by simp), by simp⟩, by simp, by simp⟩
  · rw [val_cells5] at hread
    have hsp : 0 < len → a.spot = none := by
      intro h0
      have key := hread 0 h0
      rw [List.getElem?_eq_getElem (by omega)] at key
      obtain ⟨cs', h1, h2⟩ := Option.bind_eq_some_iff.1 key
      obtain ⟨T, rfl, _, _⟩ := ih n (by omega) _ _ h2
      obtain ⟨_, _, hat⟩ := World.cells?_some h1
      simpa [Addr.add] using World.cell?_spot ((hat 0 (by omega)).trans (show T.cells[0]? = some _ from rfl))
    obtain ⟨l, hl, hp⟩ := list_of (P := fun i T => ∃ b o, a = ⟨b, o, none⟩ ∧ b < W.heap.size ∧ CellsAt W b (o + i * 5) T ∧ T.In W W.heap.size ∧ T.pt.Wf) len (fun i hi => by
      have key := hread i hi
      rw [List.getElem?_eq_getElem (by omega)] at key
      obtain ⟨cs', h1, h2⟩ := Option.bind_eq_some_iff.1 key
      obtain ⟨T, rfl, hin, hwf⟩ := ih n (by omega) _ _ h2
      obtain ⟨_, _, hat⟩ := World.cells?_some h1
      obtain ⟨b, off, spot⟩ := a
      obtain rfl : spot = none := hsp (by omega)
      have ha : ∀ j, j < 5 → W.cell? ⟨b, off + i * 5 + j, none⟩ = T.cells[j]? := fun j hj => by
        have := hat j hj
        rw [addr_add, addr_add] at this
        exact this
      refine ⟨T, b, off, rfl, cell_lt (p := ⟨b, off + i * 5 + 0, none⟩) ((ha 0 (by omega)).trans rfl), ⟨?_, ?_, ?_, ?_, ?_⟩, hin, hwf⟩
      · exact (ha 0 (by omega)).trans rfl
      · exact (ha 1 (by omega)).trans rfl
      · exact (ha 2 (by omega)).trans rfl
      · exact (ha 3 (by omega)).trans rfl
      · exact (ha 4 (by omega)).trans rfl)
    refine ⟨some a, cap, l, by rw [hl], ⟨by omega, fun j hj => ?_, fun t ht => ?_⟩, ?_, fun t ht => ?_⟩
    · obtain ⟨b, o, rfl, hb, hc, _⟩ := hp j hj
      exact ⟨b, o, rfl, hb, hc⟩
    · obtain ⟨j, hj, rfl⟩ := List.getElem_of_mem ht
      obtain ⟨b, o, _, hb, hc, hin, _⟩ := hp j hj
      exact hin
    · unfold maxLen at hcm; omega
    · obtain ⟨j, hj, rfl⟩ := List.getElem_of_mem ht
      obtain ⟨b, o, _, hb, hc, _, hwf⟩ := hp j hj
      exact hwf
set_option maxRecDepth 100000 in
theorem open_val_of (fuel : Nat) : ∀ cs (x : DataW H × List MemPlace), DataW.trod enc Tryd.prog W base spare held fuel 51 cs = some x → ∃ T : AT, cs = T.cells ∧ T.In W W.heap.size ∧ T.pt.Wf := by
  induction fuel using Nat.strongRecOn with
  | ind fuel ih =>
    intro cs x h
    obtain ⟨v0, v1, v2, v3, v4, y0, y1, y2, y3, y4, n, hfu, rfl, h0, h1, h2, h3, h4⟩ := trod_five Tryd.underlying51 (by kernel_rfl) val_cells5 h
    obtain ⟨k, hk, _, wk⟩ := DataW.trod_int Tryd.underlying3 h0
    obtain ⟨N, hN, _, wN⟩ := DataW.trod_int Tryd.underlying3 h1
    obtain ⟨X, hX, _, wX⟩ := DataW.trod_int Tryd.underlying3 h2
    obtain ⟨s, hs, _, ws⟩ := DataW.trod_string Tryd.underlying9 h3
    obtain ⟨a, cap, l, hl, hLv, hlen, hwf⟩ := open_list_of n (fun m hm => ih m (by omega)) _ _ h4
    simp only [List.cons.injEq, and_true] at hk hN hX hs hl
    subst hk hN hX hs hl
    refine ⟨.mk k N X s.data.toList a cap l, rfl, hLv.in, ?_⟩
    refine .mk (wf_le wk) (wf_le wN) (wf_le wX) ?_ (by rw [AT.ptL_length]; exact hlen) ?_
    · have : s.size = s.data.toList.length := (Array.length_toList (xs := s.data)).symm
      unfold maxLen at ws; omega
    · intro t ht
      rw [AT.ptL_eq] at ht
      obtain ⟨u, hu, rfl⟩ := List.mem_map.1 ht
      exact hwf u hu
set_option maxRecDepth 100000 in
/-- an argument that is a tree -/
theorem open_val {v : Value} {d : DataW H} {p : List MemPlace} {r : Reach} {b0 : Nat} (hv : Value.okWide Tryd.prog W r b0 51 v) (h : DataW.Trod enc Tryd.prog W base spare held 51 v d p) : ∃ T : AT, v = T.val ∧ T.In W W.heap.size ∧ T.pt.Wf := by
  obtain ⟨cs, rfl, hsz⟩ := okWide_struct Tryd.underlying51 hv
  obtain ⟨fuel, hf⟩ := h
  obtain ⟨T, hc, hin, hwf⟩ := open_val_of fuel _ _ hf
  refine ⟨T, ?_, hin, hwf⟩
  have : cs.toList = T.cells := hc
  rw [← Array.toArray_toList (xs := cs), this]
  rfl
set_option maxRecDepth 100000 in
/-- an argument that is a slice of trees -/
theorem open_vals {v : Value} {d : DataW H} {p : List MemPlace} {r : Reach} {b0 : Nat} (hv : Value.okWide Tryd.prog W r b0 49 v) (h : DataW.Trod enc Tryd.prog W base spare held 49 v d p) :
    ∃ a cap l, v = .slice a l.length cap ∧ Lv W W.heap.size a cap l ∧ l.length ≤ 9223372036854775807 ∧ ∀ t ∈ l, t.pt.Wf := by
  obtain ⟨a0, len, cap, rfl⟩ := WideShapes.okWide_slice Tryd.underlying49 hv
  obtain ⟨fuel, hf⟩ := h
  obtain ⟨a, cap, l, hc, hl, hlen, hwf⟩ := open_list_of fuel (fun m _ => open_val_of m) _ _ hf
  simp only [Value.cells, List.cons.injEq, and_true] at hc
  exact ⟨a, cap, l, hc, hl, hlen, hwf⟩
end
end Go.Proofs.YtgfebmnlcihpnaaDoor
