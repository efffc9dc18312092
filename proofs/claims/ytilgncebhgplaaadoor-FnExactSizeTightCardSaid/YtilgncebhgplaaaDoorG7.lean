import Derived.Test.YtilgncebhgplaaaDoorG6
import Derived.Test.YtilgncebhgplaaaDoorG1
import Derived.StillTailTactics
import Derived.Deep.RegionLaw
import Derived.Deep.AppendLies
/- The program's walk over a tree: the stack of slices behind a pointer, and its step. -/
namespace Go.Proofs.YtilgncebhgplaaaDoor
open Go.RowKit
/-- a slice of trees: its address, its capacity, its elements -/
structure Lev where
  a : Option Addr
  cap : Nat
  l : List AT
@[reducible] def Lev.val (L : Lev) : Value := .slice L.a L.l.length L.cap
/-- In w, at block P, lies a walk whose stack (bottom first) is S and whose depth is d; its row lies in block g; the trees lie below N. -/
structure WalkAt (w : World) (N B P g cap : Nat) (S : List Lev) (d : Int) : Prop where
  rest : w.cell? ⟨P, 0, none⟩ = some (.slice (some ⟨g, 0, none⟩) S.length cap)
  deep : w.cell? ⟨P, 1, none⟩ = some (.int .i64 d)
  fr : ∀ o, w.frozen? ⟨P, o, none⟩ = false
  row : w.ownsRow B 27 1 (.slice (some ⟨g, 0, none⟩) S.length cap) S.length (S.map Lev.val)
  pB : B ≤ P
  pN : N ≤ B
  ne : P ≠ g
  lv : ∀ L ∈ S, Lv w N L.a L.cap L.l
/-- of the elder blocks at most P and g turned -/
structure Only2 (P g : Nat) (w w' : World) : Prop where
  os : w'.os = w.os
  tape : w'.tape = w.tape
  output : w'.output = w.output
  size : w.heap.size ≤ w'.heap.size
  block : ∀ k, k < w.heap.size → k ≠ P → k ≠ g → w'.heap[k]? = w.heap[k]?
theorem Only2.refl (P g : Nat) (w : World) : Only2 P g w w := ⟨rfl, rfl, rfl, Nat.le_refl _, fun _ _ _ _ => rfl⟩
theorem Only2.trans {P g : Nat} {a b c : World} (h : Only2 P g a b) (k : Only2 P g b c) : Only2 P g a c :=
  ⟨k.os.trans h.os, k.tape.trans h.tape, k.output.trans h.output, Nat.le_trans h.size k.size, fun i hi h1 h2 => (k.block i (Nat.lt_of_lt_of_le hi h.size) h1 h2).trans (h.block i hi h1 h2)⟩
theorem Only2.of_below {P g : Nat} {w w' : World} (h : Below w.heap.size w w') : Only2 P g w w' := ⟨h.os, h.tape, h.output, h.size, fun k hk _ _ => h.block k hk⟩
theorem Only2.of_onlyP {P g : Nat} {w w' : World} (h : Only P w w') : Only2 P g w w' := ⟨h.os, h.tape, h.output, h.size, fun k hk h1 _ => h.block k hk h1⟩
theorem Only2.of_onlyG {P g : Nat} {w w' : World} (h : Only g w w') : Only2 P g w w' := ⟨h.os, h.tape, h.output, h.size, fun k hk _ h2 => h.block k hk h2⟩
theorem Only2.drew {P g : Nat} {a w : World} (h : Only2 P g a w) : Only2 P g a w.drew := ⟨h.os, h.tape, h.output, h.size, h.block⟩
theorem Only2.below {P g N : Nat} {w w' : World} (h : Only2 P g w w') (hP : N ≤ P) (hg : N ≤ g) (hN : N ≤ w.heap.size) : Below N w w' :=
  ⟨h.os, h.tape, h.output, h.size, fun k hk => h.block k (by omega) (by omega) (by omega)⟩
theorem walkInfo : (Tryd.prog.info? 27).map (fun i => (i.zero, i.size, i.bytes)) = some (some (.slice none 0 0), 1, 24) := by kernel_rfl
theorem AT.In.kept {w w' : World} {N : Nat} {T : AT} (h : T.In w N) (hk : ∀ k, k < N → w'.heap[k]? = w.heap[k]?) : T.In w' N := by
  induction T using AT.ind with
  | h k n x s a cap l ih =>
    cases h with
    | mk hc hcell hsub =>
      refine .mk hc (fun j hj => ?_) (fun t ht => ih t ht (hsub t ht))
      obtain ⟨b, o, ha, hbN, hC⟩ := hcell j hj
      exact ⟨b, o, ha, hbN, hC.keep (hk b hbN)⟩
theorem Lv.kept {w w' : World} {N : Nat} {a : Option Addr} {cap : Nat} {l : List AT} (h : Lv w N a cap l) (hk : ∀ k, k < N → w'.heap[k]? = w.heap[k]?) : Lv w' N a cap l :=
  (AT.In.kept (T := .mk 0 0 0 [] a cap l) h.in hk).lv
theorem frozen_blk {w w' : World} {b o : Nat} (k : w'.heap[b]? = w.heap[b]?) : w'.frozen? ⟨b, o, none⟩ = w.frozen? ⟨b, o, none⟩ := by
  unfold World.frozen?; rw [k]
theorem WalkAt.kept {w w' : World} {N B P g cap : Nat} {S : List Lev} {d : Int} (h : WalkAt w N B P g cap S d) (hk : ∀ k, k = P ∨ k = g ∨ k < N → w'.heap[k]? = w.heap[k]?) : WalkAt w' N B P g cap S d where
  rest := by rw [World.cell?_of_block (w := w) (w' := w') (hk P (.inl rfl))]; exact h.rest
  deep := by rw [World.cell?_of_block (w := w) (w' := w') (hk P (.inl rfl))]; exact h.deep
  fr o := by rw [frozen_blk (hk P (.inl rfl))]; exact h.fr o
  row := own_heap h.row (fun k hg => hk k (.inr (.inl (by simp [Value.ownBlock] at hg; exact hg.symm))))
  pB := h.pB
  pN := h.pN
  ne := h.ne
  lv L hL := (h.lv L hL).kept fun k hkN => hk k (.inr (.inr hkN))
theorem WalkAt.lt {w : World} {N B P g cap : Nat} {S : List Lev} {d : Int} (h : WalkAt w N B P g cap S d) : P < w.heap.size ∧ B ≤ g ∧ g < w.heap.size :=
  ⟨cell_lt h.rest, (h.row.lt g rfl).1, (h.row.lt g rfl).2⟩
theorem WalkAt.blw {w w' : World} {N B P g cap : Nat} {S : List Lev} {d : Int} (h : WalkAt w N B P g cap S d) (hb : Below w.heap.size w w') : WalkAt w' N B P g cap S d := by
  have hl := h.lt
  have h1 := h.pB
  have h2 := h.pN
  exact h.kept fun k hk => hb.block k (by rcases hk with rfl | rfl | hk <;> omega)
theorem WalkAt.setRest {w : World} {N B P g cap : Nat} {S : List Lev} {d : Int} (h : WalkAt w N B P g cap S d) (S' : List Lev) (g' cap' : Nat) (hr : w.ownsRow B 27 1 (.slice (some ⟨g', 0, none⟩) S'.length cap') S'.length (S'.map Lev.val)) (hne : P ≠ g') (hlv : ∀ L ∈ S', Lv w N L.a L.cap L.l) :
    WalkAt (w.setCell ⟨P, 0, none⟩ (.slice (some ⟨g', 0, none⟩) S'.length cap')) N B P g' cap' S' d where
  rest := by have := h.rest; simp [go_sem, this]
  deep := by have := h.deep; simp [go_sem, this]
  fr o := by have := h.fr o; simp [go_sem, this]
  row := own_heap hr (fun k hg => Below.heap_setCell _ _ _ _ (by simp [Value.ownBlock] at hg; rw [← hg]; exact fun e => hne e.symm))
  pB := h.pB
  pN := h.pN
  ne := hne
  lv L hL := (hlv L hL).kept fun k hkN => Below.heap_setCell _ _ _ _ (by have := h.pB; have := h.pN; show k ≠ P; omega)
theorem WalkAt.setDeep {w : World} {N B P g cap : Nat} {S : List Lev} {d : Int} (h : WalkAt w N B P g cap S d) (d' : Int) : WalkAt (w.setCell ⟨P, 1, none⟩ (.int .i64 d')) N B P g cap S d' where
  rest := by have := h.rest; simp [go_sem, this]
  deep := by have := h.deep; simp [go_sem, this]
  fr o := by have := h.fr o; simp [go_sem, this]
  row := own_heap h.row (fun k hg => Below.heap_setCell _ _ _ _ (by simp [Value.ownBlock] at hg; rw [← hg]; exact fun e => h.ne e.symm))
  pB := h.pB
  pN := h.pN
  ne := h.ne
  lv L hL := (h.lv L hL).kept fun k hkN => Below.heap_setCell _ _ _ _ (by have := h.pB; have := h.pN; show k ≠ P; omega)
theorem own_sub {w : World} {B E n m cap g : Nat} {xs ys : List Value} (h : w.ownsRow B E 1 (.slice (some ⟨g, 0, none⟩) n cap) n (xs ++ ys)) (hm : m = xs.length) : w.ownsRow B E 1 (.slice (some ⟨g, 0, none⟩) m cap) m xs := by
  subst hm
  have hl := h.1
  have := own_take h (k := xs.length) (by rw [List.length_append] at hl; omega)
  rwa [List.take_left] at this
theorem cell_old {w : World} {o : Obj} {p : Addr} {v : Value} (h : w.cell? p = some v) : (w.alloc o).drew.cell? p = some v := ((vbox w o).cell (cell_lt h)).trans h
theorem cell_grown {w w1 : World} {g : Nat} {n c : Nat} {p : Addr} {v : Value} (hg : w.grownBy w1 (Value.slice (some ⟨g, 0, none⟩) n c).ownBlock) (hp : p.block ≠ g) (h : w.cell? p = some v) : w1.cell? p = some v :=
  (Only.of_grown (g := g) hg).cell hp h
theorem frozen_next {wb w1 : World} {ob : Obj} {P g n c : Nat} (hg : (wb.alloc ob).drew.grownBy w1 (Value.slice (some ⟨g, 0, none⟩) n c).ownBlock) (hP : P < wb.heap.size) (hPg : P ≠ g) (hf : ∀ o, wb.frozen? ⟨P, o, none⟩ = false) : w1.frozen? ⟨P, 0, none⟩ = false := by
  have hO : Only g wb w1 := ((Only.of_below (vbox wb ob)).drew).trans (.of_grown hg)
  rw [frozen_blk (hO.block P hP hPg)]
  exact hf 0
theorem cell_set_ne {w : World} {p q : Addr} {u v : Value} (hne : p.block ≠ q.block) (h : w.cell? q = some v) : (w.setCell p u).cell? q = some v := by
  rw [World.cell?_setCell_other _ _ _ _ (fun e => hne (by rw [e]))]; exact h
/-- what is known behind the append of a step -/
theorem step_next {w wb w1 : World} {z ob : Obj} {N B P g gg cap cap2 b o : Nat} {S1 : List Lev} {L' : Lev} {t : AT} {d : Int} (hw : WalkAt wb N B P g cap (S1 ++ [L']) d) (ho : Only2 P g (w.alloc z) wb) (hgw : g < w.heap.size) (hbN : b < N) (hC : CellsAt wb b o t) (hT : Lv wb N t.a t.cap t.l)
    (hown : w1.ownsRow B 27 1 (.slice (some ⟨gg, 0, none⟩) (S1.length + 1 + 1) cap2) (S1.length + 1 + 1) ((S1 ++ [L']).map Lev.val ++ [.slice t.a t.l.length t.cap])) {n c : Nat}
    (hgrow : (wb.alloc ob).drew.grownBy w1 (Value.slice (some ⟨g, 0, none⟩) n c).ownBlock) (hat : (Value.slice (some ⟨g, 0, none⟩) n c).ownBlock = some gg ∨ gg = wb.heap.size + 1) :
    CellsAt w1 b o t ∧ WalkAt (w1.setCell ⟨P, 0, none⟩ (.slice (some ⟨gg, 0, none⟩) (S1.length + 1 + 1) cap2)) N B P gg cap2 (S1 ++ [L', ⟨t.a, t.cap, t.l⟩]) d ∧ Only2 P g (w.alloc z) w1 ∧ (gg = g ∨ w.heap.size < gg) ∧ (∀ o, w1.frozen? ⟨P, o, none⟩ = false) := by
  have hB := hw.pB
  have hN := hw.pN
  have hl := hw.lt
  have hne := hw.ne
  have hos := ho.size
  simp at hos
  have hO : Only g wb w1 := ((Only.of_below (vbox wb ob)).drew).trans (.of_grown hgrow)
  have hk : ∀ k, k < wb.heap.size → k ≠ g → w1.heap[k]? = wb.heap[k]? := hO.block
  have hgg : gg = g ∨ wb.heap.size + 1 = gg := by
    rcases hat with h | h
    · simp [Value.ownBlock] at h; exact .inl h.symm
    · exact .inr h.symm
  have hlen : (S1 ++ [L', ⟨t.a, t.cap, t.l⟩]).length = S1.length + 1 + 1 := by simp
  have hPgg : P ≠ gg := by omega
  refine ⟨hC.keep (hk b (by omega) (by omega)), ?_, ho.trans (.of_onlyG hO), by omega, fun o => by rw [frozen_blk (hk P (by omega) (by omega))]; exact hw.fr o⟩
  rw [← hlen]
  have hr0 := hw.rest
  have hrow : w1.ownsRow B 27 1 (.slice (some ⟨gg, 0, none⟩) (S1 ++ [L', ⟨t.a, t.cap, t.l⟩]).length cap2) (S1 ++ [L', ⟨t.a, t.cap, t.l⟩]).length ((S1 ++ [L', ⟨t.a, t.cap, t.l⟩]).map Lev.val) := by
    rw [hlen]
    simpa using hown
  have hkP := hk P (by omega) (by omega)
  exact {
    rest := by
      rw [World.cell?_setCell_same (u := .slice (some ⟨g, 0, none⟩) (S1 ++ [L']).length cap)]
      rw [World.cell?_of_block (w := wb) (w' := w1) hkP]; exact hr0
    deep := by
      rw [World.cell?_setCell_other _ _ _ _ (fun e => by injection e with e1 e2; cases e2), World.cell?_of_block (w := wb) (w' := w1) hkP]
      exact hw.deep
    fr := fun o => by
      have : w1.frozen? ⟨P, o, none⟩ = false := by rw [frozen_blk hkP]; exact hw.fr o
      simp [go_sem, this]
    row := own_heap hrow (fun k hg => Below.heap_setCell _ _ _ _ (by simp [Value.ownBlock] at hg; rw [← hg]; exact fun e => hPgg e.symm))
    pB := hB
    pN := hN
    ne := hPgg
    lv := fun L2 hL2 => by
      have hk2 : ∀ k, k < N → (w1.setCell ⟨P, 0, none⟩ (.slice (some ⟨gg, 0, none⟩) (S1 ++ [L', ⟨t.a, t.cap, t.l⟩]).length cap2)).heap[k]? = wb.heap[k]? := fun k hkN =>
        (Below.heap_setCell _ _ _ _ (by show k ≠ P; omega)).trans (hk k (by omega) (by omega))
      simp only [List.mem_append, List.mem_cons, List.not_mem_nil, or_false] at hL2
      rcases hL2 with h | rfl | rfl
      · exact (hw.lv L2 (by simp [h])).kept hk2
      · exact (hw.lv L2 (by simp)).kept hk2
      · exact hT.kept hk2 }
theorem zcells {w wr : World} {P g : Nat} (h : Only2 P g (w.alloc (.cells #[.int .i64 0, .int .i64 0, .int .i64 0, .string ⟨#[]⟩, .slice none 0 0] 29)) wr) (hP : P < w.heap.size) (hg : g < w.heap.size) :
    wr.cell? ⟨w.heap.size, 0, none⟩ = some (.int .i64 0) ∧ wr.cell? ⟨w.heap.size, 1, none⟩ = some (.int .i64 0) ∧ wr.cell? ⟨w.heap.size, 2, none⟩ = some (.int .i64 0) ∧ wr.cell? ⟨w.heap.size, 3, none⟩ = some (.string ⟨#[]⟩) ∧ wr.cell? ⟨w.heap.size, 4, none⟩ = some (.slice none 0 0) ∧ (∀ o, wr.frozen? ⟨w.heap.size, o, none⟩ = false) := by
  have hk := h.block w.heap.size (by simp) (by omega) (by omega)
  refine ⟨?_, ?_, ?_, ?_, ?_, fun o => ?_⟩
  · rw [World.cell?_of_block hk]; simp [go_sem]
  · rw [World.cell?_of_block hk]; simp [go_sem]
  · rw [World.cell?_of_block hk]; simp [go_sem]
  · rw [World.cell?_of_block hk]; simp [go_sem]
  · rw [World.cell?_of_block hk]; simp [go_sem]
  · rw [frozen_blk hk]; simp [go_sem]
theorem Only2.zall {P g : Nat} {w wr : World} {o : Obj} (h : Only2 P g (w.alloc o) wr) : Only2 P g w wr := (Only2.of_below (vbox w o)).trans h
theorem Only2.setG {P g o : Nat} {u : Value} {a w : World} (h : Only2 P g a w) : Only2 P g a (w.setCell ⟨g, o, none⟩ u) := h.trans (.of_onlyG ((Only.refl g w).setCell o u))
theorem Only2.setP {P g o : Nat} {u : Value} {a w : World} (h : Only2 P g a w) : Only2 P g a (w.setCell ⟨P, o, none⟩ u) := h.trans (.of_onlyP ((Only.refl P w).setCell o u))
theorem Only2.grown {P g : Nat} {a w w' : World} {o : Obj} (h : Only2 P g a w) (hg : ((w.alloc o)).drew.grownBy w' (some g)) : Only2 P g a w' :=
  h.trans ((Only2.of_below (vbox w o)).trans ⟨hg.os, hg.tape, hg.output, hg.size, fun k hk h1 h2 => hg.block k hk (by simpa using h2)⟩)
theorem Only2.zalloc {P g : Nat} {w wr : World} {o : Obj} (h : Only P (w.alloc o) wr) : Only2 P g w wr := (Only2.of_below (vbox w o)).trans (Only2.of_onlyP h)
theorem Only2.setNew {P g B : Nat} {w wr : World} {o : Nat} {u : Value} (h : Only2 P g w wr) (hB : w.heap.size ≤ B) : Only2 P g w (wr.setCell ⟨B, o, none⟩ u) :=
  ⟨h.os, h.tape, h.output, by have := h.size; simpa [World.setCell] using this, fun k hk h1 h2 => (Below.heap_setCell _ _ _ _ (by show k ≠ B; omega)).trans (h.block k hk h1 h2)⟩
theorem Only2.zset {P g B : Nat} {w wr : World} {u0 u1 u2 u3 u4 : Value} (h : Only2 P g w wr) (hB : w.heap.size ≤ B) :
    Only2 P g w (((((wr.setCell ⟨B, 0, none⟩ u0).setCell ⟨B, 1, none⟩ u1).setCell ⟨B, 2, none⟩ u2).setCell ⟨B, 3, none⟩ u3).setCell ⟨B, 4, none⟩ u4) :=
  ((((h.setNew hB).setNew hB).setNew hB).setNew hB).setNew hB
theorem WalkAt.top {w : World} {N B P g cap : Nat} {S1 : List Lev} {d : Int} {b o cl : Nat} {t : AT} {tl : List AT} (h : WalkAt w N B P g cap (S1 ++ [⟨some ⟨b, o, none⟩, cl, t :: tl⟩]) d) :
    w.cell? ⟨P, 0, none⟩ = some (.slice (some ⟨g, 0, none⟩) (S1.length + 1) cap) ∧ w.cell? ⟨g, S1.length, none⟩ = some (.slice (some ⟨b, o, none⟩) (tl.length + 1) cl) ∧ (∀ o, w.frozen? ⟨P, o, none⟩ = false) ∧ (∀ o, w.frozen? ⟨g, o, none⟩ = false) ∧ CellsAt w b o t ∧ P < w.heap.size ∧ B ≤ g ∧ g < w.heap.size := by
  have h0 := h.rest
  have hc := h.row.cellAt S1.length (by simp)
  rw [List.length_append, List.length_singleton] at h0
  rw [List.map_append, List.getElem?_append_right (by simp)] at hc
  simp only [List.length_map, Nat.sub_self, List.map_cons, List.map_nil, List.getElem?_cons_zero] at hc
  obtain ⟨b', o', hbo, _, hC⟩ := (h.lv ⟨some ⟨b, o, none⟩, cl, t :: tl⟩ (by simp)).cell 0 (by simp)
  injection hbo with hbo
  injection hbo with e1 e2
  subst e1 e2
  exact ⟨h0, hc, h.fr, h.row.frozenAt, by simpa using hC, h.lt⟩
theorem WalkAt.setTop {w : World} {N B P g cap : Nat} {S1 : List Lev} {L : Lev} {d : Int} (h : WalkAt w N B P g cap (S1 ++ [L]) d) (L' : Lev) (hL : Lv w N L'.a L'.cap L'.l) : WalkAt (w.setCell ⟨g, S1.length, none⟩ L'.val) N B P g cap (S1 ++ [L']) d where
  rest := by
    have := h.rest
    have h2 := h.ne
    rw [World.cell?_setCell_other _ _ _ _ (fun e => h2 (by injection e with e1; exact e1.symm)), this]
    simp
  deep := by
    have := h.deep
    have h2 := h.ne
    rw [World.cell?_setCell_other _ _ _ _ (fun e => h2 (by injection e with e1; exact e1.symm)), this]
  fr o := by have := h.fr o; simp [go_sem, this]
  row := by
    have := (h.row.stored S1.length L'.val).1
    rw [List.map_append, List.map_singleton, List.set_append, if_neg (by simp)] at this
    simpa using this
  pB := h.pB
  pN := h.pN
  ne := h.ne
  lv L2 hL2 := by
    have hk : ∀ k, k < N → (w.setCell ⟨g, S1.length, none⟩ L'.val).heap[k]? = w.heap[k]? := fun k hk => Below.heap_setCell _ _ _ _ (by have := h.lt; have := h.pN; show k ≠ g; omega)
    rcases List.mem_append.1 hL2 with hm | hm
    · exact (h.lv L2 (by simp [hm])).kept hk
    · obtain rfl : L2 = L' := by simpa using hm
      exact hL.kept hk
theorem WalkAt.drew {w : World} {N B P g cap : Nat} {S : List Lev} {d : Int} (h : WalkAt w N B P g cap S d) : WalkAt w.drew N B P g cap S d := h.kept (w' := w.drew) (fun _ _ => rfl)
theorem lv_tail {w : World} {N b o cl : Nat} {t : AT} {tl : List AT} (h : Lv w N (some ⟨b, o, none⟩) cl (t :: tl)) : Lv w N (some ⟨b, o + 5, none⟩) (cl - 1) tl where
  hc := by have := h.hc; simp at this; omega
  cell j hj := by
    obtain ⟨b', o', hb, hN, hC⟩ := h.cell (j + 1) (by simpa using hj)
    injection hb with hb
    injection hb with e1 e2
    subst e1 e2
    refine ⟨b, o + 5, rfl, hN, ?_⟩
    rw [show o + 5 + j * 5 = o + (j + 1) * 5 by omega]
    simpa using hC
  sub u hu := h.sub u (by simp [hu])
theorem lv_none {w : World} {N : Nat} {a : Option Addr} : Lv w N a 0 [] := ⟨Nat.le_refl _, fun j hj => absurd hj (by simp), by simp⟩
theorem WalkAt.topLv {w : World} {N B P g cap : Nat} {S1 : List Lev} {L : Lev} {d : Int} (h : WalkAt w N B P g cap (S1 ++ [L]) d) : Lv w N L.a L.cap L.l := h.lv L (by simp)
theorem WalkAt.setNew {w : World} {N B P g cap R o : Nat} {S : List Lev} {d : Int} {u : Value} (h : WalkAt w N B P g cap S d) (h1 : R ≠ P) (h2 : R ≠ g) (h3 : N ≤ R) : WalkAt (w.setCell ⟨R, o, none⟩ u) N B P g cap S d :=
  h.kept fun k hk => Below.heap_setCell _ _ _ _ (by show k ≠ R; rcases hk with rfl | rfl | hk <;> omega)
theorem WalkAt.zset {w : World} {N B P g cap R : Nat} {S : List Lev} {d : Int} {u0 u1 u2 u3 u4 : Value} (h : WalkAt w N B P g cap S d) (h1 : R ≠ P) (h2 : R ≠ g) (h3 : N ≤ R) :
    WalkAt (((((w.setCell ⟨R, 0, none⟩ u0).setCell ⟨R, 1, none⟩ u1).setCell ⟨R, 2, none⟩ u2).setCell ⟨R, 3, none⟩ u3).setCell ⟨R, 4, none⟩ u4) N B P g cap S d :=
  ((((h.setNew h1 h2 h3).setNew h1 h2 h3).setNew h1 h2 h3).setNew h1 h2 h3).setNew h1 h2 h3
def stackLen (P : Nat) (w : World) : Nat := match w.cell? ⟨P, 0, none⟩ with | some (.slice _ n _) => n | _ => 0
theorem stackLen_set {w : World} {P : Nat} {u a : Value} {n c : Nat} {ad : Option Addr} (h : w.cell? ⟨P, 0, none⟩ = some a) (hu : u = .slice ad n c) : stackLen P (w.setCell ⟨P, 0, none⟩ u) = n := by
  subst hu
  unfold stackLen
  simp [go_sem, h]
theorem stackLen_eq {w : World} {P n c : Nat} {ad : Option Addr} (h : w.cell? ⟨P, 0, none⟩ = some (.slice ad n c)) : stackLen P w = n := by
  unfold stackLen; rw [h]
/-- what a step hands on: the next value, and the stack behind it; or that there is none -/
def NextPost (w : World) (N B P g : Nat) (S : List Lev) (e : Ending) (w' : World) : Prop :=
  (∃ (S1 E : List Lev) (L : Lev) (t : AT) (tl : List AT) (a' : Option Addr) (c' g' cap' : Nat), S = S1 ++ L :: E ∧ (∀ L' ∈ E, L'.l = []) ∧ L.l = t :: tl ∧ e = .returned (.tuple #[t.val, .bool true]) ∧
    WalkAt w' N B P g' cap' (S1 ++ [⟨a', c', tl⟩, ⟨t.a, t.cap, t.l⟩]) (S1.length + 1 : Nat) ∧ (g' = g ∨ w.heap.size ≤ g') ∧ Only2 P g w w') ∨
  ((∀ L' ∈ S, L'.l = []) ∧ e = .returned (.tuple #[(AT.leaf 0 0 0 []).val, .bool false]) ∧ Only2 P g w w')
theorem snoc_or {α : Type} (l : List α) : l = [] ∨ ∃ m x, l = m ++ [x] := by
  rcases List.eq_nil_or_concat l with h | ⟨m, x, h⟩
  · exact .inl h
  · exact .inr ⟨m, x, by simpa using h⟩
set_option maxHeartbeats 4000000 in
set_option maxRecDepth 100000 in
theorem next_any (w : World) (N B P g cap : Nat) (S : List Lev) (d : Int) (h : WalkAt w N B P g cap S d) (hS : S.length ≤ 4194304) :
    Calls Tryd.prog 58 #[.pointer (some ⟨P, 0, none⟩)] w (NextPost w N B P g S) := by
  obtain ⟨i0, hi, hz0, hz1, hz2⟩ := info_parts walkInfo
  have H := Lib.hid h
  have hPlt : P < w.heap.size := cell_lt h.rest
  have HG := Lib.hid h.lt.2.2
  clear h
  go_enter Tryd.func58, Tryd.ntmps58
  go_wp2
  go_loopw [4] (fun _ wr => ∃ S' E : List Lev, S = S' ++ E ∧ (∀ L' ∈ E, L'.l = []) ∧ WalkAt wr N B P g cap S' d ∧ Only P (w.alloc (.cells #[.int .i64 0, .int .i64 0, .int .i64 0, .string ⟨#[]⟩, .slice none 0 0] 29)) wr) (fun _ wr => stackLen P wr)
  case atStart => exact ⟨S, [], by simp, by simp, H.out.blw (vbox _ _), Only.refl _ _⟩
  case round =>
    obtain ⟨S', E, hSE, hE, hw, ho⟩ := hrel
    have HW := Lib.hid hw
    have HO := Lib.hid ho
    have HSE := Lib.hid hSE
    have HE := Lib.hid hE
    have hwl := hw.lt
    have hPg := hw.ne
    have hPB := hw.pB
    have hNB := hw.pN
    have hSl : S'.length ≤ S.length := by rw [hSE]; simp
    clear hSE hE ho
    rcases snoc_or S' with rfl | ⟨S1, L, rfl⟩
    · have h0 := hw.rest
      have h1 := hw.deep
      clear hw
      simp only [List.length_nil] at h0
      obtain ⟨q0, q1, q2, q3, q4, qf⟩ := zcells (g := g) (.of_onlyP HO.out) (by omega) HG.out
      clear h1 hwl hPB hNB
      go_wp2
      refine bodyPost_ret (v := .tuple #[.agg #[.int .i64 0, .int .i64 0, .int .i64 0, .string ⟨#[]⟩, .slice none 0 0], .bool false]) (by simp [results, Tryd.results58, go_sem, q0, q1, q2, q3, q4]) rfl (.inr ⟨?_, rfl, ?_⟩)
      · intro L' hL'
        rw [HSE.out] at hL'
        exact HE.out L' (by simpa using hL')
      · exact Only2.zset (Only2.zalloc HO.out) (Nat.le_refl _)
    · have h0 := hw.rest
      have h1 := hw.deep
      have hf := hw.fr
      have hc := hw.row.cellAt S1.length (by simp)
      have hfg := hw.row.frozenAt
      have hsl : (S1 ++ [L]).length = S1.length + 1 := by simp
      have hcap := own_cap hw.row
      rw [hsl] at h0 hSl hcap
      obtain ⟨_, hcap1, hcap2⟩ := hcap
      unfold maxLen at hcap2
      have hlv := hw.lv L (by simp)
      rw [List.map_append, List.getElem?_append_right (by simp)] at hc
      simp only [List.length_map, Nat.sub_self, List.map_cons, List.map_nil, List.getElem?_cons_zero] at hc
      clear hw hsl
      obtain ⟨a, cl, l⟩ := L
      cases l with
      | nil =>
        replace hc : wr.cell? ⟨g, S1.length, none⟩ = some (.slice a 0 cl) := hc
        clear hlv
        go_wp2
        refine ⟨⟨S1, ⟨a, cl, []⟩ :: E, by rw [HSE.out]; simp, ?_, HW.out.setRest S1 g cap (own_sub (ys := [Lev.val ⟨a, cl, []⟩]) (by simpa using HW.out.row) (by simp)) hPg (fun L hL => HW.out.lv L (by simp [hL])), HO.out.setCell 0 _⟩, ?_⟩
        · intro L' hL'
          rcases List.mem_cons.1 hL' with rfl | hL'
          · rfl
          · exact HE.out L' hL'
        · rw [stackLen_set h0 rfl, stackLen_eq h0]; omega
      | cons t tl =>
        replace hc : wr.cell? ⟨g, S1.length, none⟩ = some (.slice a (tl.length + 1) cl) := hc
        obtain ⟨b, o, rfl, hbN, hC⟩ := hlv.cell 0 (by simp)
        replace hC : CellsAt wr b o t := by simpa using hC
        obtain ⟨c0, c1, c2, c3, c4⟩ := hC
        have hcl : tl.length + 1 ≤ cl := hlv.hc
        clear hlv
        have hle : (1 : Int) ≤ tl.length + 1 := by omega
        by_cases hcl1 : cl = 1
        case' pos =>
          have htl : tl.length = 0 := by omega
          go_wp2_with fail
          have HWa := Lib.hid (HW.out.setDeep ((S1.length : Int) + 1))
          have HOa := Lib.hid (Only2.of_onlyP (g := g) (HO.out.setCell 1 (.int .i64 ((S1.length : Int) + 1))))
          clear HW HO h0 h1 hf hc hfg c0 c1 c2 c3 c4 hwl
          generalize wr.setCell ⟨P, 1, none⟩ (.int .i64 ((S1.length : Int) + 1)) = wa at *
          obtain ⟨h0, hc, hfr, hfg, hC, hP, hBg, hg⟩ := HWa.out.top
          obtain ⟨c0, c1, c2, c3, c4⟩ := hC
          have hlt1 : (S1.length : Int) < S1.length + 1 := by omega
          have hlt2 : (0 : Int) ≤ S1.length := by omega
          have hlt3 : S1.length < S1.length + 1 := by omega
          go_still_tail 8, (by kernel_rfl)
          go_wp2_with fail
          obtain ⟨a1, cl1, hLv, hLL⟩ : ∃ a1 cl1, (Lev.mk a1 cl1 tl).val = .slice (some ⟨b, o, none⟩) 0 0 ∧ Lv wa N a1 cl1 tl := ⟨some ⟨b, o, none⟩, 0, by show Value.slice _ _ _ = _; rw [htl], by cases tl with
            | nil => exact lv_none
            | cons u us => simp at htl⟩
          rw [← hLv]
          clear htl
        case' neg =>
          go_wp2_with fail
          have HWa := Lib.hid (HW.out.setDeep ((S1.length : Int) + 1))
          have HOa := Lib.hid (Only2.of_onlyP (g := g) (HO.out.setCell 1 (.int .i64 ((S1.length : Int) + 1))))
          clear HW HO h0 h1 hf hc hfg c0 c1 c2 c3 c4 hwl
          generalize wr.setCell ⟨P, 1, none⟩ (.int .i64 ((S1.length : Int) + 1)) = wa at *
          obtain ⟨h0, hc, hfr, hfg, hC, hP, hBg, hg⟩ := HWa.out.top
          obtain ⟨c0, c1, c2, c3, c4⟩ := hC
          have hlt1 : (S1.length : Int) < S1.length + 1 := by omega
          have hlt2 : (0 : Int) ≤ S1.length := by omega
          have hlt3 : S1.length < S1.length + 1 := by omega
          go_still_tail 8, (by kernel_rfl)
          go_wp2_with fail
          obtain ⟨a1, cl1, hLv, hLL⟩ : ∃ a1 cl1, (Lev.mk a1 cl1 tl).val = .slice (some ⟨b, o + 5, none⟩) tl.length (cl - 1) ∧ Lv wa N a1 cl1 tl := ⟨_, _, rfl, lv_tail HWa.out.topLv⟩
          rw [← hLv]
        all_goals
            have HWb := Lib.hid (HWa.out.setTop ⟨a1, cl1, tl⟩ hLL).drew
            have HOb := Lib.hid ((HOa.out.setG (o := S1.length) (u := (Lev.mk a1 cl1 tl).val)).drew)
            have hkb : ∀ k, k < N → (wa.setCell ⟨g, S1.length, none⟩ (Lev.mk a1 cl1 tl).val).drew.heap[k]? = wa.heap[k]? := fun k hk => Below.heap_setCell _ _ _ _ (by show k ≠ g; omega)
            have hTb := ((HWa.out.topLv.sub t (by simp)).lv').kept hkb
            have hCb := HWa.out.top.2.2.2.2.1.keep (hkb b hbN)
            clear HWa HOa h0 hc hfr hfg c0 c1 c2 c3 c4 hP hg hLv hLL hlt1 hlt2 hlt3 hkb
            generalize (wa.setCell ⟨g, S1.length, none⟩ (Lev.mk a1 cl1 tl).val).drew = wb at *
            obtain ⟨h0, hBg, hg⟩ : wb.cell? ⟨P, 0, none⟩ = some (.slice (some ⟨g, 0, none⟩) (S1.length + 1) cap) ∧ B ≤ g ∧ g < wb.heap.size := by
              have h1 := HWb.out.rest
              have h2 := HWb.out.lt
              rw [List.length_append, List.length_singleton] at h1
              exact ⟨h1, h2.2⟩
            have hrow : wb.ownsRow B 27 1 (.slice (some ⟨g, 0, none⟩) (S1.length + 1) cap) (S1.length + 1) ((S1 ++ [Lev.mk a1 cl1 tl]).map Lev.val) := by
              have := HWb.out.row
              rwa [List.length_append, List.length_singleton] at this
            have HR := Lib.hid hrow
            have hPb := HWb.out.lt.1
            have HF := Lib.hid HWb.out.fr
            have HT := Lib.hid hTb
            have HC := Lib.hid hCb
            obtain ⟨c0, c1, c2, c3, c4⟩ := hCb
            clear hrow hTb
            have hle1 : (0 : Int) < tl.length + 1 := by omega
            go_region_law (refine step_append_lies _ (by rfl) _ _ _ (by rfl) B 27 i0 _ 1 24 Tryd.underlying92 hi hz0 hz1 hz2 rfl (by omega) _ (S1.length + 1) _ (by rfl) ((HR.out.alloc _).drew) ⟨wb.heap.size, 0, none⟩ 1 1 [.slice t.a t.l.length t.cap] (by rfl) (by rfl) (World.news_of_block (cs := #[.slice t.a t.l.length t.cap]) (t := 27) (fr := (0, 0)) (heap_alloc_new wb _)) (by simp [Value.oneCell']) (by omega) (by unfold maxLen; omega) (by omega) (by simp; omega) (wb.heap.size + 1) (by simp) ?_; intro gg cap2 w1 hown1 hgrow hat hlt; have e0 := cell_grown hgrow hPg (cell_old h0); have e4 := cell_grown hgrow (by show b ≠ g; omega) (cell_old c4); have e5 := frozen_next hgrow hPb hPg HF.out)
            all_goals
              obtain ⟨hC1, hW1, hO1, hgg, hfr⟩ := step_next HWb.out HOb.out HG.out hbN HC.out HT.out hown1 hgrow hat
              obtain ⟨d0, d1, d2, d3, d4⟩ := hC1
              have hsz1 := hO1.size
              simp at hsz1
              obtain ⟨q0, q1, q2, q3, q4, qf⟩ := zcells hO1 hPlt HG.out
              have HW1 := Lib.hid hW1
              have HO1 := Lib.hid hO1
              have HGG := Lib.hid hgg
              clear hown1 hgrow hat hlt hW1 hO1 hgg h0 c0 c1 c2 c3 c4
              go_wp2
              refine bodyPost_ret (v := .tuple #[t.val, .bool true]) (by simp [results, Tryd.results58, go_sem, q0, q1, q2, q3, q4]) rfl (.inl ⟨S1, E, ⟨some ⟨b, o, none⟩, cl, t :: tl⟩, t, tl, a1, cl1, gg, cap2, ?_, HE.out, rfl, rfl, ?_, ?_, ?_⟩)
              · rw [HSE.out]; simp
              · rw [show ((S1.length + 1 : Nat) : Int) = (S1.length : Int) + 1 by omega]
                have hx := HGG.out; have hg2 := HG.out
                exact HW1.out.zset (by omega) (by omega) (by omega)
              · have := HGG.out; omega
              · exact Only2.zset (Only2.setP (Only2.zall HO1.out)) (Nat.le_refl _)
end Go.Proofs.YtilgncebhgplaaaDoor
/- l6Copy, l6All and ListVal of the model: copies in rows of their own. -/
namespace Go.Proofs.YtilgncebhgplaaaDoor
open Go.RowKit
theorem ownBlock_slice (a : Option Addr) (n cap : Nat) : (Value.slice a n cap).ownBlock = a.map (·.block) := by cases a <;> rfl
/-- one more element at the end of a row of trees -/
theorem row_push {W w' : World} {K gg cap cap' : Nat} {a : Option Addr} {lr : List AT} {T : AT} (h0 : OwnL W K a cap lr) (hnd : ((a.map (·.block)).toList ++ AT.blksL lr).Nodup) (hT : T.Own W K) (hTn : T.blks.Nodup) (hdis : ∀ k ∈ T.blks, k ∉ (a.map (·.block)).toList ++ AT.blksL lr)
    (hown : w'.ownsRow K 29 5 (.slice (some ⟨gg, 0, none⟩) (lr.length + 1) cap') (lr.length + 1) (cellsL lr ++ T.cells)) (hgrow : W.grownBy w' (Value.slice a lr.length cap).ownBlock) (hat : (Value.slice a lr.length cap).ownBlock = some gg ∨ gg = W.heap.size) :
    OwnL w' K (some ⟨gg, 0, none⟩) cap' (lr ++ [T]) ∧ (gg :: AT.blksL (lr ++ [T])).Nodup := by
  rw [ownBlock_slice] at hgrow hat
  have hlt : ∀ k ∈ AT.blksL lr, k < W.heap.size := fun k hk => by
    obtain ⟨t, ht, hkt⟩ := AT.mem_blksL.1 hk
    exact ((h0.sub t ht).lt k hkt).2
  have hsub : ∀ t : AT, t.Own W K → (∀ k ∈ t.blks, k ∉ (a.map (·.block)).toList) → t.Own w' K := fun t ht hd => ht.kept fun k hk => hgrow.block k (ht.lt k hk).2 (fun e => hd k hk (by rw [← e]; simp))
  rw [List.nodup_append] at hnd
  have hrow : w'.ownsRow K 29 5 (.slice (some ⟨gg, 0, none⟩) (lr ++ [T]).length cap') (lr ++ [T]).length (cellsL (lr ++ [T])) := by
    rw [cellsL_append, cellsL_one, List.length_append, List.length_singleton]; exact hown
  refine ⟨⟨hrow, fun t ht => ?_⟩, ?_⟩
  · rcases List.mem_append.1 ht with ht | ht
    · exact hsub t (h0.sub t ht) (fun k hk hk2 => hnd.2.2 k hk2 k (AT.mem_blksL.2 ⟨t, ht, hk⟩) rfl)
    · obtain rfl : t = T := by simpa using ht
      exact hsub t hT (fun k hk hk2 => hdis k hk (by simp only [List.mem_append]; exact .inl hk2))
  · rw [AT.blksL_append, AT.blksL_one, List.nodup_cons, List.nodup_append]
    refine ⟨fun hm => ?_, hnd.2.1, hTn, fun x hx y hy e => hdis y hy (by rw [← e, List.mem_append]; exact .inr hx)⟩
    rcases hat with hat | hat
    · have hga : gg ∈ (a.map (·.block)).toList := by rw [hat]; simp
      rcases List.mem_append.1 hm with hm | hm
      · exact hnd.2.2 gg hga gg hm rfl
      · exact hdis gg hm (by simp only [List.mem_append]; exact .inl hga)
    · rcases List.mem_append.1 hm with hm | hm
      · have := hlt gg hm; omega
      · have := (hT.lt gg hm).2; omega
theorem OwnL.blw {w w' : World} {B : Nat} {a : Option Addr} {cap : Nat} {l : List AT} (h : OwnL w B a cap l) (hb : Below w.heap.size w w') : OwnL w' B a cap l :=
  (AT.Own.blw (T := .mk 0 0 0 [] a cap l) h.own hb).l
theorem OwnL.lt {w : World} {B : Nat} {a : Option Addr} {cap : Nat} {l : List AT} (h : OwnL w B a cap l) : ∀ k ∈ (a.map (·.block)).toList ++ AT.blksL l, B ≤ k ∧ k < w.heap.size :=
  AT.Own.lt (T := .mk 0 0 0 [] a cap l) h.own
theorem below_push {w2 W w3 : World} {row : Option Nat} {K : Nat} (hg : W.grownBy w3 row) (hr : ∀ k, row = some k → K ≤ k) (hb : Below w2.heap.size w2 W) (hK : K ≤ w2.heap.size) : Below K w2 w3 :=
  (hb.mono hK).trans ⟨hg.os, hg.tape, hg.output, hg.size, fun k hk => hg.block k (by have := hb.size; omega) (fun e => by have := hr k e.symm; omega)⟩
theorem frozen_blk' {w w' : World} {b o : Nat} (k : w'.heap[b]? = w.heap[b]?) : w'.frozen? ⟨b, o, none⟩ = w.frozen? ⟨b, o, none⟩ := by
  unfold World.frozen?; rw [k]
theorem AT.Own.setg' {w : World} {B g o : Nat} {u : Value} {T : AT} (h : T.Own w B) (hg : g ∉ T.blks) : T.Own (w.setCell ⟨g, o, none⟩ u) B := h.only ((Only.refl g w).setCell o u) hg
theorem emptyRow (w : World) (B : Nat) (hB : B ≤ w.heap.size) : OwnL (w.alloc (.cells #[] 29)) B (some ⟨w.heap.size, 0, none⟩) 0 [] :=
  ⟨⟨rfl, .inr ⟨w.heap.size, 0, #[], rfl, hB, heap_alloc_new w _, Nat.le_refl _, by unfold maxLen; omega, rfl, rfl⟩⟩, by simp⟩
theorem news_of_cells (W : World) (T : AT) : ∀ j u, T.cells[j]? = some u → (W.alloc (.cells #[.int .i64 T.k, .int .i64 T.n, .int .i64 T.x, .string ⟨T.s.toArray⟩, .slice T.a T.l.length T.cap] 29)).cell? ((⟨W.heap.size, 0, none⟩ : Addr).add j) = some u :=
  World.news_of_block (cs := #[.int .i64 T.k, .int .i64 T.n, .int .i64 T.x, .string ⟨T.s.toArray⟩, .slice T.a T.l.length T.cap]) (t := 29) (fr := (0, 0)) (heap_alloc_new W _)
theorem cells_one (T : AT) : ∀ u ∈ T.cells, u.oneCell' = true := by
  intro u hu
  simp only [AT.cells, List.mem_cons, List.not_mem_nil, or_false] at hu
  rcases hu with rfl | rfl | rfl | rfl | rfl <;> rfl
end Go.Proofs.YtilgncebhgplaaaDoor
