/- The steps that a law is handed. -/
import Derived.Test.YtgfebmnlcihpnaaDoorOpen
import Derived.Test.YtgfebmnlcihpnaaDoorStep
namespace Go.Proofs.YtgfebmnlcihpnaaDoor
open Go.RowKit Go.Joins Go.ChangeShapes Go.WideShapes Go.Deep
section
variable {H : Type} {enc : TypeId × Value → H} {P : Program} {w : World} {base : Nat} {spare : Nat → Bool} {held : Bool}
theorem trod_two {t : TypeId} {f0 f1 : Field} {cs : List Value} {fuel : Nat} {x : DataW H × List MemPlace} (hs : P.underlying t = some (.struct #[f0, f1])) (hone : oneCellFields P #[f0, f1] = true) (hC : P.cellsOf t = 2)
    (h : DataW.trod enc P w base spare held fuel t cs = some x) :
    ∃ (v0 v1 : Value) (y0 y1 : DataW H × List MemPlace) (n : Nat), fuel = n + 1 ∧ cs = [v0, v1] ∧ DataW.trod enc P w base spare held n f0.type [v0] = some y0 ∧ DataW.trod enc P w base spare held n f1.type [v1] = some y1 := by
  obtain ⟨xs, n, hfu, _, hcl, hlen, hg⟩ := DataW.trod_struct hs h
  have hC2 := hcl.trans hC
  obtain ⟨o0, k0⟩ := hone_of hone 0 f0 rfl
  obtain ⟨o1, k1⟩ := hone_of hone 1 f1 rfl
  match cs, hC2, xs, hlen with
  | [c0, c1], _, [y0, y1], _ =>
    exact ⟨c0, c1, y0, y1, n, hfu, rfl, by simpa [o0, k0] using hg 0 f0 rfl, by simpa [o1, k1] using hg 1 f1 rfl⟩
end
section
variable {H : Type} {enc : TypeId × Value → H} {W : World} {base : Nat} {spare : Nat → Bool} {held : Bool}
theorem step_cells2 : Tryd.prog.cellsOf 80 = 2 := by kernel_rfl
theorem open_step_of (fuel : Nat) (cs : List Value) (x : DataW H × List MemPlace) (h : DataW.trod enc Tryd.prog W base spare held fuel 80 cs = some x) :
    ∃ s : St, cs = [.int .i64 s.1, .bool s.2] ∧ -9223372036854775808 ≤ s.1 ∧ s.1 ≤ 9223372036854775807 := by
  obtain ⟨v0, v1, y0, y1, n, _, rfl, h0, h1⟩ := trod_two Tryd.underlying80 (by kernel_rfl) step_cells2 h
  obtain ⟨k, hk, _, wk⟩ := DataW.trod_int Tryd.underlying3 h0
  obtain ⟨b, hb, _⟩ := DataW.trod_bool Tryd.underlying4 h1
  simp only [List.cons.injEq, and_true] at hk hb
  subst hk hb
  exact ⟨(k, b), rfl, (wf_le wk).1, (wf_le wk).2⟩
set_option maxRecDepth 100000 in
/-- an argument that is a step -/
theorem open_step {v : Value} {d : DataW H} {p : List MemPlace} {r : Reach} {b0 : Nat} (hv : Value.okWide Tryd.prog W r b0 80 v) (h : DataW.Trod enc Tryd.prog W base spare held 80 v d p) :
    ∃ s : St, v = s.val ∧ -9223372036854775808 ≤ s.1 ∧ s.1 ≤ 9223372036854775807 := by
  obtain ⟨cs, rfl, hsz⟩ := okWide_struct Tryd.underlying80 hv
  obtain ⟨fuel, hf⟩ := h
  obtain ⟨s, hc, h0, h1⟩ := open_step_of fuel _ _ hf
  refine ⟨s, ?_, h0, h1⟩
  have : cs.toList = [.int .i64 s.1, .bool s.2] := hc
  rw [← Array.toArray_toList (xs := cs), this]
set_option maxRecDepth 100000 in
/-- an argument that is a slice of steps -/
theorem open_steps {v : Value} {d : DataW H} {p : List MemPlace} {r : Reach} {b0 : Nat} (hv : Value.okWide Tryd.prog W r b0 52 v) (h : DataW.Trod enc Tryd.prog W base spare held 52 v d p) :
    ∃ a cap l, v = .slice a (List.length l) cap ∧ SAt W W.heap.size a cap l ∧ l.length ≤ 9223372036854775807 ∧ ∀ s ∈ l, -9223372036854775808 ≤ s.1 ∧ s.1 ≤ 9223372036854775807 := by
  obtain ⟨a0, len0, cap0, rfl⟩ := WideShapes.okWide_slice Tryd.underlying52 hv
  obtain ⟨fuel, hf⟩ := h
  rcases DataW.trod_slice Tryd.underlying52 hf with ⟨hc, _⟩ | ⟨a, len, cap, elems, rest, n, hfu, hc, _, _, hlc, hcm, hel, hread, _, _⟩
  · simp only [Value.cells, List.cons.injEq, and_true] at hc
    exact ⟨none, 0, [], hc, SAt.nil _ _ _ _, by simp, by simp⟩
  · rw [step_cells2] at hread
    have hsp : 0 < len → a.spot = none := by
      intro h0
      have key := hread 0 h0
      rw [List.getElem?_eq_getElem (by omega)] at key
      obtain ⟨cs', h1, h2⟩ := Option.bind_eq_some_iff.1 key
      obtain ⟨T, rfl, _, _⟩ := open_step_of n _ _ h2
      obtain ⟨_, _, hat⟩ := World.cells?_some h1
      simpa [Addr.add] using World.cell?_spot (hat 0 (by omega))
    obtain ⟨l, hl, hp⟩ := list_of (P := fun i (T : St) => ∃ b o, a = ⟨b, o, none⟩ ∧ b < W.heap.size ∧ (W.cell? ⟨b, o + i * 2, none⟩ = some (.int .i64 T.1) ∧ W.cell? ⟨b, o + i * 2 + 1, none⟩ = some (.bool T.2)) ∧ (-9223372036854775808 ≤ T.1 ∧ T.1 ≤ 9223372036854775807)) len (fun i hi => by
      have key := hread i hi
      rw [List.getElem?_eq_getElem (by omega)] at key
      obtain ⟨cs', h1, h2⟩ := Option.bind_eq_some_iff.1 key
      obtain ⟨T, rfl, hin, hwf⟩ := open_step_of n _ _ h2
      obtain ⟨_, _, hat⟩ := World.cells?_some h1
      obtain ⟨b, off, spot⟩ := a
      obtain rfl : spot = none := hsp (by omega)
      have ha : ∀ j, j < 2 → W.cell? ⟨b, off + i * 2 + j, none⟩ = [Value.int .i64 T.1, .bool T.2][j]? := fun j hj => by
        have := hat j hj
        rw [addr_add, addr_add] at this
        exact this
      exact ⟨T, b, off, rfl, cell_lt (p := ⟨b, off + i * 2 + 0, none⟩) ((ha 0 (by omega)).trans rfl), ⟨(ha 0 (by omega)).trans rfl, (ha 1 (by omega)).trans rfl⟩, hin, hwf⟩)
    simp only [Value.cells, List.cons.injEq, and_true] at hc
    refine ⟨some a, cap, l, by rw [hc, hl], ⟨by omega, fun j hj => ?_⟩, ?_, fun t ht => ?_⟩
    · obtain ⟨b, o, rfl, hb, hc, _⟩ := hp j hj
      exact ⟨b, o, rfl, hb, hc.1, hc.2⟩
    · unfold maxLen at hcm; omega
    · obtain ⟨j, hj, rfl⟩ := List.getElem_of_mem ht
      obtain ⟨b, o, _, hb, hc, hwf⟩ := hp j hj
      exact hwf
end
end Go.Proofs.YtgfebmnlcihpnaaDoor
