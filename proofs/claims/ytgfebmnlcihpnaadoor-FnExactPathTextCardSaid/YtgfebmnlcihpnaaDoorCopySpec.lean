/- l6Copy, l6All and ListVal of the model: copies in rows of their own. -/
import Derived.Test.YtgfebmnlcihpnaaDoorToVal
import Derived.Test.YtgfebmnlcihpnaaDoorCount
import Derived.Test.YtgfebmnlcihpnaaDoorKeepVal
import Derived.Deep.AppendLies
namespace Go.Proofs.YtgfebmnlcihpnaaDoor
open Go.RowKit
theorem ownBlock_slice (a : Option Addr) (n cap : Nat) : (Value.slice a n cap).ownBlock = a.map (·.block) := by cases a <;> rfl
/-- one more element at the end of a row of trees -/
theorem row_push {W w' : World} {K gg cap cap' : Nat} {a : Option Addr} {lr : List AT} {T : AT} (h0 : OwnL W K a cap lr) (hnd : ((a.map (·.block)).toList ++ AT.blksL lr).Nodup) (hT : T.Own W K) (hTn : T.blks.Nodup) (hdis : ∀ k ∈ T.blks, k ∉ (a.map (·.block)).toList ++ AT.blksL lr)
    (hown : w'.ownsRow K 26 5 (.slice (some ⟨gg, 0, none⟩) (lr.length + 1) cap') (lr.length + 1) (cellsL lr ++ T.cells)) (hgrow : W.grownBy w' (Value.slice a lr.length cap).ownBlock) (hat : (Value.slice a lr.length cap).ownBlock = some gg ∨ gg = W.heap.size) :
    OwnL w' K (some ⟨gg, 0, none⟩) cap' (lr ++ [T]) ∧ (gg :: AT.blksL (lr ++ [T])).Nodup := by
  rw [ownBlock_slice] at hgrow hat
  have hlt : ∀ k ∈ AT.blksL lr, k < W.heap.size := fun k hk => by
    obtain ⟨t, ht, hkt⟩ := AT.mem_blksL.1 hk
    exact ((h0.sub t ht).lt k hkt).2
  have hsub : ∀ t : AT, t.Own W K → (∀ k ∈ t.blks, k ∉ (a.map (·.block)).toList) → t.Own w' K := fun t ht hd => ht.kept fun k hk => hgrow.block k (ht.lt k hk).2 (fun e => hd k hk (by rw [← e]; simp))
  rw [List.nodup_append] at hnd
  have hrow : w'.ownsRow K 26 5 (.slice (some ⟨gg, 0, none⟩) (lr ++ [T]).length cap') (lr ++ [T]).length (cellsL (lr ++ [T])) := by
    rw [cellsL_append, cellsL_one, List.length_append, List.length_singleton]; exact hown
  refine ⟨⟨hrow, fun t ht => ?_⟩, ?_⟩
  · rcases List.mem_append.1 ht with ht | ht
    · exact hsub t (h0.sub t ht) (fun k hk hk2 => hnd.2.2 k hk2 k (AT.mem_blksL.2 ⟨t, ht, hk⟩) rfl)
    · obtain rfl : t = T := by simpa using ht
      exact hsub t hT (fun k hk hk2 => hdis k hk (by simp only [List.mem_append]; exact .inl hk2))
  · rw [AT.blksL_append, AT.blksL_one, List.nodup_cons, List.nodup_append]
    refine ⟨fun hm => ?_, hnd.2.1, hTn, fun x hx y hy e => hdis y hy (by rw [← e, List.mem_append]; exact .inr hx)⟩
    rcases hat with hat | hat
    · have hga : gg ∈ (a.map (·.block)).toList := by rw [hat]; simp
      rcases List.mem_append.1 hm with hm | hm
      · exact hnd.2.2 gg hga gg hm rfl
      · exact hdis gg hm (by simp only [List.mem_append]; exact .inl hga)
    · rcases List.mem_append.1 hm with hm | hm
      · have := hlt gg hm; omega
      · have := (hT.lt gg hm).2; omega
theorem OwnL.blw {w w' : World} {B : Nat} {a : Option Addr} {cap : Nat} {l : List AT} (h : OwnL w B a cap l) (hb : Below w.heap.size w w') : OwnL w' B a cap l :=
  (AT.Own.blw (T := .mk 0 0 0 [] a cap l) h.own hb).l
theorem OwnL.lt {w : World} {B : Nat} {a : Option Addr} {cap : Nat} {l : List AT} (h : OwnL w B a cap l) : ∀ k ∈ (a.map (·.block)).toList ++ AT.blksL l, B ≤ k ∧ k < w.heap.size :=
  AT.Own.lt (T := .mk 0 0 0 [] a cap l) h.own
theorem below_push {w2 W w3 : World} {row : Option Nat} {K : Nat} (hg : W.grownBy w3 row) (hr : ∀ k, row = some k → K ≤ k) (hb : Below w2.heap.size w2 W) (hK : K ≤ w2.heap.size) : Below K w2 w3 :=
  (hb.mono hK).trans ⟨hg.os, hg.tape, hg.output, hg.size, fun k hk => hg.block k (by have := hb.size; omega) (fun e => by have := hr k e.symm; omega)⟩
theorem frozen_blk' {w w' : World} {b o : Nat} (k : w'.heap[b]? = w.heap[b]?) : w'.frozen? ⟨b, o, none⟩ = w.frozen? ⟨b, o, none⟩ := by
  unfold World.frozen?; rw [k]
theorem AT.Own.setg' {w : World} {B g o : Nat} {u : Value} {T : AT} (h : T.Own w B) (hg : g ∉ T.blks) : T.Own (w.setCell ⟨g, o, none⟩ u) B := h.only ((Only.refl g w).setCell o u) hg
theorem emptyRow (w : World) (B : Nat) (hB : B ≤ w.heap.size) : OwnL (w.alloc (.cells #[] 26)) B (some ⟨w.heap.size, 0, none⟩) 0 [] :=
  ⟨⟨rfl, .inr ⟨w.heap.size, 0, #[], rfl, hB, heap_alloc_new w _, Nat.le_refl _, by unfold maxLen; omega, rfl, rfl⟩⟩, by simp⟩
theorem news_of_cells (W : World) (T : AT) : ∀ j u, T.cells[j]? = some u → (W.alloc (.cells #[.int .i64 T.k, .int .i64 T.n, .int .i64 T.x, .string ⟨T.s.toArray⟩, .slice T.a T.l.length T.cap] 26)).cell? ((⟨W.heap.size, 0, none⟩ : Addr).add j) = some u :=
  World.news_of_block (cs := #[.int .i64 T.k, .int .i64 T.n, .int .i64 T.x, .string ⟨T.s.toArray⟩, .slice T.a T.l.length T.cap]) (t := 26) (fr := (0, 0)) (heap_alloc_new W _)
theorem cells_one (T : AT) : ∀ u ∈ T.cells, u.oneCell' = true := by
  intro u hu
  simp only [AT.cells, List.mem_cons, List.not_mem_nil, or_false] at hu
  rcases hu with rfl | rfl | rfl | rfl | rfl <;> rfl
end Go.Proofs.YtgfebmnlcihpnaaDoor
