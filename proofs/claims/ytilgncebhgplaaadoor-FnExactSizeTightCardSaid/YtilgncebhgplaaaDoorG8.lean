import Derived.Test.YtilgncebhgplaaaDoorG2
import Derived.Test.YtilgncebhgplaaaDoorG6
import Derived.Test.YtilgncebhgplaaaDoorG7
import Derived.Test.YtilgncebhgplaaaDoorG0
import Derived.Test.YtilgncebhgplaaaDoorG3
import Derived.WalkKit
import Derived.Lib.Hide
import Derived.Outline
import Derived.ProofKit
/- The program's writer of the compact format: its record, its row of bytes, its stack of open lists, maps and tags. -/
namespace Go.Proofs.YtilgncebhgplaaaDoor
open Go.RowKit
set_option maxRecDepth 100000
/-- one that is open: the tree, how many elements have begun, where its name begins, the name before (as it lies, and its bytes) -/
structure GF where
  T : AT
  i : Nat
  st : Nat
  bef : Value
  bb : List UInt8
def GF.cells (f : GF) : List Value := [.int .i64 f.T.k, .int .i64 f.T.n, .int .i64 f.T.x, .string ⟨f.T.s.toArray⟩, .slice f.T.a f.T.l.length f.T.cap, .int .i64 f.i, .int .i64 f.st, f.bef]
def cellsF : List GF → List Value
  | [] => []
  | f :: S => f.cells ++ cellsF S
theorem cellsF_append : ∀ S R : List GF, cellsF (S ++ R) = cellsF S ++ cellsF R
  | [], _ => rfl
  | f :: S, R => by rw [List.cons_append, cellsF, cellsF, cellsF_append S R, List.append_assoc]
theorem cellsF_length : ∀ S : List GF, (cellsF S).length = S.length * 8
  | [] => rfl
  | f :: S => by rw [cellsF, List.length_append, cellsF_length S, List.length_cons, Nat.succ_mul, Nat.add_comm]; rfl
def GF.fr (f : GF) : TFr := ⟨decide (f.T.k = 10), AT.ptL f.T.l, f.i, f.st, f.bb⟩
def tfrs (S : List GF) : List TFr := (S.map GF.fr).reverse
theorem tfrs_snoc (S : List GF) (f : GF) : tfrs (S ++ [f]) = f.fr :: tfrs S := by simp [tfrs]
/-- the bytes of a name that was written before: nowhere, or in a block that is not written any more below what is written -/
def Bef (w : World) (P : Nat) (v u : Value) (len : Nat) (f : Value) (bb : List UInt8) : Prop :=
  (f = .slice none 0 0 ∧ bb = []) ∨ ∃ g off cap, f = .slice (some ⟨g, off, none⟩) bb.length cap ∧ P < g ∧ g < w.heap.size ∧ u.ownBlock ≠ some g ∧ (v.ownBlock = some g → off + bb.length ≤ len) ∧ ∀ j y, (bv bb)[j]? = some y → w.cell? ⟨g, off + j, none⟩ = some y
theorem Bef.slc {w : World} {P : Nat} {v u : Value} {len : Nat} {f : Value} {bb : List UInt8} (h : Bef w P v u len f bb) : Slc w f (bv bb) := by
  rcases h with ⟨h1, rfl⟩ | ⟨g, off, cap, rfl, _, _, _, _, hc⟩
  · exact .inl ⟨h1, rfl⟩
  · exact .inr ⟨g, off, cap, by rw [bv_length], hc⟩
theorem Bef.one {w : World} {P : Nat} {v u : Value} {len : Nat} {f : Value} {bb : List UInt8} (h : Bef w P v u len f bb) : f.oneCell' = true := by
  rcases h with ⟨rfl, _⟩ | ⟨g, off, cap, rfl, _⟩ <;> rfl
/-- the writer in block P: its bytes, its stack (the outermost first), whether names were not in order; the trees lie below N -/
structure TW (w : World) (N P : Nat) (v u : Value) (out : List UInt8) (S : List GF) (d : Bool) : Prop where
  c0 : w.cell? ⟨P, 0, none⟩ = some v
  c1 : w.cell? ⟨P, 1, none⟩ = some u
  c2 : w.cell? ⟨P, 2, none⟩ = some (.bool d)
  fz : ∀ o, w.frozen? ⟨P, o, none⟩ = false
  row : w.ownsRow (P + 1) 5 1 v out.length (bv out)
  stk : w.ownsRow (P + 1) 85 8 u S.length (cellsF S)
  np : N ≤ P
  lv : ∀ f ∈ S, f.T.In w N
  bef : ∀ f ∈ S, Bef w P v u out.length f.bef f.bb
/-- from one state of the writer to a later one: what was written of what lay there -/
structure Stp (P : Nat) (w : World) (v u : Value) (w' : World) (v' u' : Value) : Prop where
  os : w'.os = w.os
  tape : w'.tape = w.tape
  output : w'.output = w.output
  size : w.heap.size ≤ w'.heap.size
  block : ∀ k, k < w.heap.size → k ≠ P → v.ownBlock ≠ some k → u.ownBlock ≠ some k → w'.heap[k]? = w.heap[k]?
  mv : ∀ k, v'.ownBlock = some k → v.ownBlock = some k ∨ w.heap.size ≤ k
  mu : ∀ k, u'.ownBlock = some k → u.ownBlock = some k ∨ w.heap.size ≤ k
theorem Stp.refl (P : Nat) (w : World) (v u : Value) : Stp P w v u w v u := ⟨rfl, rfl, rfl, Nat.le_refl _, fun _ _ _ _ _ => rfl, fun _ h => .inl h, fun _ h => .inl h⟩
theorem Stp.trans {P : Nat} {a b c : World} {v u v' u' v2 u2 : Value} (h : Stp P a v u b v' u') (k : Stp P b v' u' c v2 u2) : Stp P a v u c v2 u2 where
  os := k.os.trans h.os
  tape := k.tape.trans h.tape
  output := k.output.trans h.output
  size := Nat.le_trans h.size k.size
  block i hi h1 h2 h3 := by
    have hs := h.size
    exact (k.block i (by omega) h1 (fun e => (h.mv i e).elim h2 (fun q => by omega)) (fun e => (h.mu i e).elim h3 (fun q => by omega))).trans (h.block i hi h1 h2 h3)
  mv i e := (k.mv i e).elim (fun q => h.mv i q) (fun q => .inr (Nat.le_trans h.size q))
  mu i e := (k.mu i e).elim (fun q => h.mu i q) (fun q => .inr (Nat.le_trans h.size q))
theorem Stp.of_below {P : Nat} {w w' : World} {v u : Value} (h : Below w.heap.size w w') : Stp P w v u w' v u := ⟨h.os, h.tape, h.output, h.size, fun k hk _ _ _ => h.block k hk, fun _ h => .inl h, fun _ h => .inl h⟩
theorem Stp.pre {P : Nat} {a b c : World} {v u v2 u2 : Value} (h : Below a.heap.size a b) (k : Stp P b v u c v2 u2) : Stp P a v u c v2 u2 := (Stp.of_below h).trans k
theorem Stp.below {P N : Nat} {w w' : World} {v u v' u' : Value} {out : List UInt8} {S : List GF} {d : Bool} (h : Stp P w v u w' v' u') (t : TW w N P v u out S d) : Below P w w' :=
  ⟨h.os, h.tape, h.output, h.size, fun k hk => h.block k (by have := cell_lt t.c0; simp at this; omega) (by omega) (fun e => by have := (t.row.lt k e).1; omega) (fun e => by have := (t.stk.lt k e).1; omega)⟩
/-- a block of the caller's, younger than the writer's rows -/
theorem Stp.box {P N b : Nat} {w0 w w' : World} {v u v' u' : Value} {out : List UInt8} {S : List GF} {d : Bool} (h : Stp P w v u w' v' u') (t : TW w0 N P v u out S d) (hb : w0.heap.size ≤ b) (hl : b < w.heap.size) : w'.heap[b]? = w.heap[b]? :=
  h.block b hl (by have := cell_lt t.c0; simp at this; omega) (fun e => by have := (t.row.lt b e).2; omega) (fun e => by have := (t.stk.lt b e).2; omega)
section
variable {w w' w1 : World} {N P : Nat} {v v' u : Value} {out t : List UInt8} {S S1 : List GF} {f : GF} {d : Bool}
theorem TW.lt (h : TW w N P v u out S d) : P < w.heap.size := cell_lt h.c0
theorem Bef.kept {len len' : Nat} {a : Value} {bb : List UInt8} (h : Bef w P v u len a bb) (hz : w.heap.size ≤ w'.heap.size) (hlen : len ≤ len') (hv : v'.ownBlock = v.ownBlock ∨ ∃ g, v'.ownBlock = some g ∧ w.heap.size ≤ g) {u' : Value} (hu : u'.ownBlock = u.ownBlock ∨ u'.ownBlock = none ∨ ∃ g, u'.ownBlock = some g ∧ w.heap.size ≤ g)
    (hc : ∀ g j, P < g → g < w.heap.size → u.ownBlock ≠ some g → (v.ownBlock = some g → j < len) → w'.cell? ⟨g, j, none⟩ = w.cell? ⟨g, j, none⟩) : Bef w' P v' u' len' a bb := by
  rcases h with h | ⟨g, off, cap, rfl, h1, h2, h3, h4, h5⟩
  · exact .inl h
  · refine .inr ⟨g, off, cap, rfl, h1, by omega, ?_, ?_, fun j y hy => ?_⟩
    · rcases hu with hu | hu | ⟨g', hu, hg'⟩
      · rw [hu]; exact h3
      · rw [hu]; exact fun e => by cases e
      · rw [hu]; exact fun e => by injection e with e; omega
    · intro e
      rcases hv with hv | ⟨g', hv, hg'⟩
      · have := h4 (by rw [← hv]; exact e); omega
      · rw [hv] at e; injection e with e; omega
    · have hj := (List.getElem?_eq_some_iff.1 hy).1
      rw [bv_length] at hj
      rw [hc g (off + j) h1 h2 h3 (fun e => by have := h4 e; omega)]
      exact h5 j y hy
/-- nothing of it was written -/
theorem TW.blw (h : TW w N P v u out S d) (hb : Below w.heap.size w w') : TW w' N P v u out S d where
  c0 := keep_below hb h.c0
  c1 := keep_below hb h.c1
  c2 := keep_below hb h.c2
  fz o := by rw [frozen_blk (hb.block _ h.lt)]; exact h.fz o
  row := own_heap h.row fun g hg => hb.block g (h.row.lt g hg).2
  stk := own_heap h.stk fun g hg => hb.block g (h.stk.lt g hg).2
  np := h.np
  lv f hf := (h.lv f hf).kept fun k hk => hb.block k (by have := h.np; have := h.lt; omega)
  bef f hf := (h.bef f hf).kept hb.size (Nat.le_refl _) (.inl rfl) (.inl rfl) fun g j _ hg _ _ => World.cell?_of_block (hb.block g hg)
theorem TW.drew (h : TW w N P v u out S d) : TW w.drew N P v u out S d := h.blw (Below.refl _ _).drew
/-- the rows of bytes and of what is open lie in two blocks -/
theorem TW.ne (h : TW w N P v u out S d) : ∀ g, v.ownBlock = some g → u.ownBlock ≠ some g := by
  intro g hv hu
  rcases h.row.2 with ⟨e, _⟩ | ⟨g1, c1, cur1, e, _, h1, _⟩
  · rw [e] at hv; cases hv
  · rcases h.stk.2 with ⟨e2, _⟩ | ⟨g2, c2, cur2, e2, _, h2, _⟩
    · rw [e2] at hu; cases hu
    · rw [e] at hv
      rw [e2] at hu
      simp only [Value.ownBlock, Option.some.injEq] at hv hu
      subst hv hu
      rw [h1] at h2
      injection h2 with h2
      injection h2 with _ h2
      exact absurd h2 (by decide)
/-- bytes were appended -/
theorem TW.put (h : TW w N P v u out S d) (hg : Grew w w1 v v' out.length) (ho : w1.ownsRow (P + 1) 5 1 v' (out ++ t).length (bv (out ++ t))) :
    w1.cell? ⟨P, 0, none⟩ = some v ∧ (∀ o, w1.frozen? ⟨P, o, none⟩ = false) ∧ TW (w1.setCell ⟨P, 0, none⟩ v') N P v' u (out ++ t) S d ∧ Stp P w v u (w1.setCell ⟨P, 0, none⟩ v') v' u := by
  have hlt := h.lt
  have hP : ∀ k, v.ownBlock = some k → P < k := fun k hk => by have := (h.row.lt k hk).1; omega
  have hblk : ∀ k, k < w.heap.size → v.ownBlock ≠ some k → w1.heap[k]? = w.heap[k]? := fun k hk hn => hg.grown.block k hk (fun e => hn e.symm)
  have eP : w1.heap[P]? = w.heap[P]? := hblk P hlt (fun e => by have := hP P e; omega)
  have ec : ∀ o, w1.cell? ⟨P, o, none⟩ = w.cell? ⟨P, o, none⟩ := fun o => World.cell?_of_block eP
  have hb1 : Below (P + 1) w w1 := grown_belowN hg.grown (by omega) (fun k hk => by have := hP k hk; omega)
  have h0 := (ec 0).trans h.c0
  have h1 := (ec 1).trans h.c1
  have h2 := (ec 2).trans h.c2
  have hset : ∀ k, k ≠ P → (w1.setCell ⟨P, 0, none⟩ v').heap[k]? = w1.heap[k]? := fun k hk => Below.heap_setCell _ _ _ _ hk
  have hz : (w1.setCell ⟨P, 0, none⟩ v').heap.size = w1.heap.size := by simp
  have hbs := bset (o := 0) (u := v') (hb1.mono (Nat.le_succ P)) (Nat.le_refl _)
  refine ⟨h0, fun o => by rw [frozen_blk eP]; exact h.fz o, ?_, ⟨hbs.os, hbs.tape, hbs.output, hbs.size, fun k hk h1 h2 _ => (hset k h1).trans (hblk k hk h2), fun k hk => ?_, fun k hk => .inl hk⟩⟩
  rotate_left
  · rcases hg.place with e | ⟨g, e, hge⟩
    · left; rw [← e]; exact hk
    · right; rw [e] at hk; injection hk with hk; omega
  exact {
    c0 := World.cell?_setCell_same _ _ _ h0
    c1 := by rw [World.cell?_setCell_other _ _ _ _ (fun e => by injection e with _ e; cases e)]; exact h1
    c2 := by rw [World.cell?_setCell_other _ _ _ _ (fun e => by injection e with _ e; cases e)]; exact h2
    fz := fun o => by rw [World.frozen?_setCell, frozen_blk eP]; exact h.fz o
    row := own_heap ho fun g hgo => hset g (by have := (ho.lt g hgo).1; omega)
    stk := own_heap h.stk fun g hgo => by
      have := h.stk.lt g hgo
      rw [hset g (by omega)]
      exact hblk g this.2 (fun e => h.ne g e hgo)
    np := h.np
    lv := fun f hf => (h.lv f hf).kept fun k hk => by
      have := h.np
      rw [hset k (by omega)]
      exact hblk k (by omega) (fun e => by have := hP k e; omega)
    bef := fun f hf => (h.bef f hf).kept (by rw [hz]; exact hg.grown.size) (by rw [List.length_append]; omega) hg.place (.inl rfl) fun g j hPg hgl _ hj => by
      rw [World.cell?_of_block (hset g (by omega))]
      by_cases hv : v.ownBlock = some g
      · exact hg.old g j hv (hj hv)
      · exact World.cell?_of_block (hblk g hgl hv) }
/-- the writer's own record alone was written -/
theorem TW.dis (h : TW w N P v u out S d) (d' : Bool) : TW (w.setCell ⟨P, 2, none⟩ (.bool d')) N P v u out S d' ∧ Stp P w v u (w.setCell ⟨P, 2, none⟩ (.bool d')) v u := by
  have h0 := h.c0
  have h1 := h.c1
  have h2 := h.c2
  have hset : ∀ k, k ≠ P → (w.setCell ⟨P, 2, none⟩ (.bool d')).heap[k]? = w.heap[k]? := fun k hk => Below.heap_setCell _ _ _ _ hk
  refine ⟨?_, ⟨rfl, rfl, rfl, by simp, fun k _ q1 _ _ => hset k q1, fun k hk => .inl hk, fun k hk => .inl hk⟩⟩
  exact {
    c0 := by rw [World.cell?_setCell_other _ _ _ _ (fun e => by injection e with _ e; cases e)]; exact h0
    c1 := by rw [World.cell?_setCell_other _ _ _ _ (fun e => by injection e with _ e; cases e)]; exact h1
    c2 := World.cell?_setCell_same _ _ _ h2
    fz := fun o => by rw [World.frozen?_setCell]; exact h.fz o
    row := own_heap h.row fun g hg => hset g (by have := (h.row.lt g hg).1; omega)
    stk := own_heap h.stk fun g hg => hset g (by have := (h.stk.lt g hg).1; omega)
    np := h.np
    lv := fun f hf => (h.lv f hf).kept fun k hk => hset k (by have := h.np; omega)
    bef := fun f hf => (h.bef f hf).kept (by simp) (Nat.le_refl _) (.inl rfl) (.inl rfl) fun g j hg _ _ _ => World.cell?_of_block (hset g (by omega)) }
/-- one more is open -/
theorem TW.push {gg cap2 : Nat} (h : TW w N P v u out S d) (hT : f.T.In w N) (hbf : f.bef = .slice none 0 0) (hbb : f.bb = [])
    (hown : w1.ownsRow (P + 1) 85 8 (.slice (some ⟨gg, 0, none⟩) (S.length + 1) cap2) (S.length + 1) (cellsF S ++ f.cells)) (hgrow : w.grownBy w1 u.ownBlock) (hat : u.ownBlock = some gg ∨ gg = w.heap.size) :
    w1.cell? ⟨P, 1, none⟩ = some u ∧ (∀ o, w1.frozen? ⟨P, o, none⟩ = false) ∧ TW (w1.setCell ⟨P, 1, none⟩ (.slice (some ⟨gg, 0, none⟩) (S.length + 1) cap2)) N P v (.slice (some ⟨gg, 0, none⟩) (S.length + 1) cap2) out (S ++ [f]) d ∧ Stp P w v u (w1.setCell ⟨P, 1, none⟩ (.slice (some ⟨gg, 0, none⟩) (S.length + 1) cap2)) v (.slice (some ⟨gg, 0, none⟩) (S.length + 1) cap2) := by
  have hlt := h.lt
  have hP : ∀ k, u.ownBlock = some k → P < k := fun k hk => by have := (h.stk.lt k hk).1; omega
  have hblk : ∀ k, k < w.heap.size → u.ownBlock ≠ some k → w1.heap[k]? = w.heap[k]? := fun k hk hn => hgrow.block k hk (fun e => hn e.symm)
  have eP : w1.heap[P]? = w.heap[P]? := hblk P hlt (fun e => by have := hP P e; omega)
  have ec : ∀ o, w1.cell? ⟨P, o, none⟩ = w.cell? ⟨P, o, none⟩ := fun o => World.cell?_of_block eP
  have hb1 : Below (P + 1) w w1 := grown_belowN hgrow (by omega) (fun k hk => by have := hP k hk; omega)
  have h0 := (ec 0).trans h.c0
  have h1 := (ec 1).trans h.c1
  have h2 := (ec 2).trans h.c2
  obtain ⟨u', hu'⟩ : ∃ u', u' = Value.slice (some ⟨gg, 0, none⟩) (S.length + 1) cap2 := ⟨_, rfl⟩
  have hub : u'.ownBlock = some gg := by rw [hu']; rfl
  rw [← hu'] at hown ⊢
  have hset : ∀ k, k ≠ P → (w1.setCell ⟨P, 1, none⟩ u').heap[k]? = w1.heap[k]? := fun k hk => Below.heap_setCell _ _ _ _ hk
  have hz : (w1.setCell ⟨P, 1, none⟩ u').heap.size = w1.heap.size := by simp
  have hbs := bset (o := 1) (u := u') (hb1.mono (Nat.le_succ P)) (Nat.le_refl _)
  refine ⟨h1, fun o => by rw [frozen_blk eP]; exact h.fz o, ?_, ⟨hbs.os, hbs.tape, hbs.output, hbs.size, fun k hk q1 _ q3 => (hset k q1).trans (hblk k hk q3), fun k hk => .inl hk, fun k hk => ?_⟩⟩
  rotate_left
  · rw [hub] at hk
    injection hk with hk
    subst hk
    exact hat.imp id (fun e => by omega)
  have hlv : ∀ T : AT, T.In w N → T.In (w1.setCell ⟨P, 1, none⟩ u') N := fun T hT => hT.kept fun k hk => by
    have := h.np
    rw [hset k (by omega)]
    exact hblk k (by omega) (fun e => by have := hP k e; omega)
  exact {
    c0 := by rw [World.cell?_setCell_other _ _ _ _ (fun e => by injection e with _ e; cases e)]; exact h0
    c1 := World.cell?_setCell_same _ _ _ h1
    c2 := by rw [World.cell?_setCell_other _ _ _ _ (fun e => by injection e with _ e; cases e)]; exact h2
    fz := fun o => by rw [World.frozen?_setCell, frozen_blk eP]; exact h.fz o
    row := own_heap h.row fun g hgo => by
      have := h.row.lt g hgo
      rw [hset g (by omega)]
      exact hblk g this.2 (h.ne g hgo)
    stk := by
      rw [List.length_append, List.length_singleton, cellsF_append, show cellsF [f] = f.cells from List.append_nil _]
      exact own_heap hown fun g hgo => hset g (by have := (hown.lt g hgo).1; omega)
    np := h.np
    lv := fun f' hf' => by
      rcases List.mem_append.1 hf' with hf' | hf'
      · exact hlv _ (h.lv f' hf')
      · obtain rfl : f' = f := by simpa using hf'
        exact hlv _ hT
    bef := fun f' hf' => by
      rcases List.mem_append.1 hf' with hf' | hf'
      · refine (h.bef f' hf').kept (by rw [hz]; exact hgrow.size) (Nat.le_refl _) (.inl rfl) ?_ fun g j hPg hgl hug _ => by
          rw [World.cell?_of_block (hset g (by omega))]
          exact World.cell?_of_block (hblk g hgl hug)
        rcases hat with hat | hat
        · left; rw [hub, hat]
        · exact .inr (.inr ⟨gg, hub, by omega⟩)
      · obtain rfl : f' = f := by simpa using hf'
        exact .inl ⟨hbf, hbb⟩ }
/-- the innermost is left -/
theorem TW.pop {g c : Nat} (h : TW w N P v (.slice (some ⟨g, 0, none⟩) (S ++ [f]).length c) out (S ++ [f]) d) : TW (w.setCell ⟨P, 1, none⟩ (.slice (some ⟨g, 0, none⟩) S.length c)) N P v (.slice (some ⟨g, 0, none⟩) S.length c) out S d ∧ Stp P w v (.slice (some ⟨g, 0, none⟩) (S ++ [f]).length c) (w.setCell ⟨P, 1, none⟩ (.slice (some ⟨g, 0, none⟩) S.length c)) v (.slice (some ⟨g, 0, none⟩) S.length c) := by
  have h0 := h.c0
  have h1 := h.c1
  have h2 := h.c2
  have hset : ∀ k, k ≠ P → (w.setCell ⟨P, 1, none⟩ (.slice (some ⟨g, 0, none⟩) S.length c)).heap[k]? = w.heap[k]? := fun k hk => Below.heap_setCell _ _ _ _ hk
  have hrow : w.ownsRow (P + 1) 85 8 (.slice (some ⟨g, 0, none⟩) S.length c) S.length (cellsF S) := by
    rcases h.stk.2 with ⟨hh, _⟩ | ⟨g', cap', cur, hh, hb, hgg, hnc, hcm, hcs, htake⟩
    · cases hh
    · injection hh with i1 i2 i3
      injection i1 with i1
      injection i1 with i1
      subst i1 i3
      have hl : (S ++ [f]).length = S.length + 1 := by simp
      refine ⟨cellsF_length S, .inr ⟨g, c, cur, rfl, hb, hgg, by omega, hcm, hcs, ?_⟩⟩
      have e4 : (cur.toList.take ((S ++ [f]).length * 8)).take (S.length * 8) = (cellsF (S ++ [f])).take (S.length * 8) := by rw [htake]
      rw [List.take_take, Nat.min_eq_left (by omega)] at e4
      rw [e4, cellsF_append, List.take_append_of_le_length (by rw [cellsF_length]; exact Nat.le_refl _), List.take_of_length_le (by rw [cellsF_length]; exact Nat.le_refl _)]
  refine ⟨?_, ⟨rfl, rfl, rfl, by simp, fun k _ q1 _ _ => hset k q1, fun k hk => .inl hk, fun k hk => .inl hk⟩⟩
  exact {
    c0 := by rw [World.cell?_setCell_other _ _ _ _ (fun e => by injection e with _ e; cases e)]; exact h0
    c1 := World.cell?_setCell_same _ _ _ h1
    c2 := by rw [World.cell?_setCell_other _ _ _ _ (fun e => by injection e with _ e; cases e)]; exact h2
    fz := fun o => by rw [World.frozen?_setCell]; exact h.fz o
    row := own_heap h.row fun k hk => hset k (by have := (h.row.lt k hk).1; omega)
    stk := own_heap hrow fun k hk => hset k (by have := (hrow.lt k hk).1; omega)
    np := h.np
    lv := fun f' hf' => (h.lv f' (List.mem_append_left _ hf')).kept fun k hk => hset k (by have := h.np; omega)
    bef := fun f' hf' => (h.bef f' (List.mem_append_left _ hf')).kept (by simp) (Nat.le_refl _) (.inl rfl) (.inl rfl) fun k j hk _ _ _ => World.cell?_of_block (hset k (by omega)) }
/-- the innermost one's cells -/
theorem TW.top {g c : Nat} (h : TW w N P v (.slice (some ⟨g, 0, none⟩) (S ++ [f]).length c) out (S ++ [f]) d) : P < g ∧ g < w.heap.size ∧ S.length + 1 ≤ c ∧ CellsAt w g (S.length * 8) f.T ∧ w.cell? ⟨g, S.length * 8 + 5, none⟩ = some (.int .i64 f.i) ∧ w.cell? ⟨g, S.length * 8 + 6, none⟩ = some (.int .i64 f.st) ∧ w.cell? ⟨g, S.length * 8 + 7, none⟩ = some f.bef ∧ (∀ o, w.frozen? ⟨g, o, none⟩ = false) ∧ v.ownBlock ≠ some g := by
  have hlt := h.stk.lt g rfl
  have hat : ∀ j, j < 8 → w.cell? ⟨g, S.length * 8 + j, none⟩ = f.cells[j]? := fun j hj => by
    rw [h.stk.cellAt (S.length * 8 + j) (by rw [List.length_append, List.length_singleton]; omega), cellsF_append, List.getElem?_append_right (by rw [cellsF_length]; omega), cellsF_length, Nat.add_sub_cancel_left, show cellsF [f] = f.cells from List.append_nil _]
  refine ⟨by omega, hlt.2, ?_, ⟨hat 0 (by omega), hat 1 (by omega), hat 2 (by omega), hat 3 (by omega), hat 4 (by omega)⟩, hat 5 (by omega), hat 6 (by omega), hat 7 (by omega), fun o => h.stk.frozenAt o, fun e => h.ne g e rfl⟩
  rcases h.stk.2 with ⟨hh, _⟩ | ⟨g', cap', cur, hh, hb, hgg, hnc, _⟩
  · cases hh
  · injection hh with i1 i2 i3
    rw [List.length_append, List.length_singleton] at hnc
    omega
/-- a cell of the innermost one was written -/
theorem TW.set {g c j : Nat} {y : Value} {f' : GF} (h : TW w N P v (.slice (some ⟨g, 0, none⟩) (S ++ [f]).length c) out (S ++ [f]) d) (hj : j < 8) (hc : f.cells.set j y = f'.cells) (hT : f'.T = f.T) (hbf : Bef w P v (.slice (some ⟨g, 0, none⟩) (S ++ [f]).length c) out.length f'.bef f'.bb) :
    TW (w.setCell ⟨g, S.length * 8 + j, none⟩ y) N P v (.slice (some ⟨g, 0, none⟩) (S ++ [f']).length c) out (S ++ [f']) d ∧ Stp P w v (.slice (some ⟨g, 0, none⟩) (S ++ [f]).length c) (w.setCell ⟨g, S.length * 8 + j, none⟩ y) v (.slice (some ⟨g, 0, none⟩) (S ++ [f']).length c) := by
  obtain ⟨hPg, hgl, _⟩ := h.top
  have hl : (S ++ [f']).length = (S ++ [f]).length := by simp
  have hst := (h.stk.stored (S.length * 8 + j) y).1
  have hset : ∀ k, k ≠ g → (w.setCell ⟨g, S.length * 8 + j, none⟩ y).heap[k]? = w.heap[k]? := fun k hk => Below.heap_setCell _ _ _ _ hk
  have hcs : (cellsF (S ++ [f])).set (S.length * 8 + j) y = cellsF (S ++ [f']) := by
    rw [cellsF_append, cellsF_append, List.set_append_right _ _ (by rw [cellsF_length]; omega), cellsF_length, Nat.add_sub_cancel_left, show cellsF [f] = f.cells from List.append_nil _, hc]
    exact (congrArg _ (List.append_nil _)).symm
  rw [hcs] at hst
  have ec : ∀ o, (w.setCell ⟨g, S.length * 8 + j, none⟩ y).cell? ⟨P, o, none⟩ = w.cell? ⟨P, o, none⟩ := fun o => World.cell?_of_block (hset P (by omega))
  have hbk : ∀ {a : Value} {bb : List UInt8}, Bef w P v (.slice (some ⟨g, 0, none⟩) (S ++ [f]).length c) out.length a bb → Bef (w.setCell ⟨g, S.length * 8 + j, none⟩ y) P v (.slice (some ⟨g, 0, none⟩) (S ++ [f']).length c) out.length a bb := fun hb =>
    hb.kept (by simp) (Nat.le_refl _) (.inl rfl) (.inl rfl) fun k i hk _ hu _ => World.cell?_of_block (hset k (fun e => hu (by rw [e]; rfl)))
  refine ⟨?_, ⟨rfl, rfl, rfl, by simp, fun k _ _ _ q3 => hset k (fun e => q3 (by rw [e]; rfl)), fun k hk => .inl hk, fun k hk => .inl hk⟩⟩
  rw [hl]
  exact {
    c0 := (ec 0).trans h.c0
    c1 := (ec 1).trans h.c1
    c2 := (ec 2).trans h.c2
    fz := fun o => by rw [World.frozen?_setCell]; exact h.fz o
    row := own_heap h.row fun k hk => hset k (fun e => h.ne k hk (by rw [e]; rfl))
    stk := by rw [hl]; exact hst
    np := h.np
    lv := fun f2 hf2 => by
      have hk : ∀ k, k < N → (w.setCell ⟨g, S.length * 8 + j, none⟩ y).heap[k]? = w.heap[k]? := fun k hk => hset k (by have := h.np; omega)
      rcases List.mem_append.1 hf2 with hf2 | hf2
      · exact (h.lv f2 (List.mem_append_left _ hf2)).kept hk
      · obtain rfl : f2 = f' := by simpa using hf2
        rw [hT]
        exact (h.lv f (by simp)).kept hk
    bef := fun f2 hf2 => by
      rw [← hl]
      rcases List.mem_append.1 hf2 with hf2 | hf2
      · exact hbk (h.bef f2 (List.mem_append_left _ hf2))
      · obtain rfl : f2 = f' := by simpa using hf2
        exact hbk hbf }
end
end Go.Proofs.YtilgncebhgplaaaDoor
/- Widths and ranges: the program's and the model's answers. -/
namespace Go.Proofs.YtilgncebhgplaaaDoor
open Go.RowKit
theorem fits_any (n x : Int) (w : World) : Calls Tryd.prog 105 #[.int .i64 n, .int .i64 x] w fun e w' => e = .returned (.bool (decide (fitB n x))) ∧ w = w' := by
  by_cases h1 : x = 1
  · subst h1
    by_cases h : fitB n 1
    · have h' := fit_un h
      rw [decide_eq_true h]
      have a1 : (0 : Int) ≤ n := by omega
      have a2 : n < 256 := by omega
      clear h h'
      go_enter Tryd.func105, Tryd.ntmps105
      go_wp2
      go_ret
      exact ⟨rfl, rfl⟩
    · rw [decide_eq_false h]
      by_cases a1 : (0 : Int) ≤ n
      · have a2 : ¬ n < 256 := fun k => h (fit_mk (by omega))
        clear h
        go_enter Tryd.func105, Tryd.ntmps105
        go_wp2
        go_ret
        exact ⟨rfl, rfl⟩
      · clear h
        go_enter Tryd.func105, Tryd.ntmps105
        go_wp2
        go_ret
        exact ⟨rfl, rfl⟩
  by_cases h2 : x = 2
  · subst h2
    by_cases h : fitB n 2
    · have h' := fit_un h
      rw [decide_eq_true h]
      have a1 : (0 : Int) ≤ n := by omega
      have a2 : n < 65536 := by omega
      clear h h' h1
      go_enter Tryd.func105, Tryd.ntmps105
      go_wp2
      go_ret
      exact ⟨rfl, rfl⟩
    · rw [decide_eq_false h]
      by_cases a1 : (0 : Int) ≤ n
      · have a2 : ¬ n < 65536 := fun k => h (fit_mk (by omega))
        clear h h1
        go_enter Tryd.func105, Tryd.ntmps105
        go_wp2
        go_ret
        exact ⟨rfl, rfl⟩
      · clear h h1
        go_enter Tryd.func105, Tryd.ntmps105
        go_wp2
        go_ret
        exact ⟨rfl, rfl⟩
  by_cases h4 : x = 4
  · subst h4
    by_cases h : fitB n 4
    · have h' := fit_un h
      rw [decide_eq_true h]
      have a1 : (0 : Int) ≤ n := by omega
      have a2 : n < 4294967296 := by omega
      clear h h' h1 h2
      go_enter Tryd.func105, Tryd.ntmps105
      go_wp2
      go_ret
      exact ⟨rfl, rfl⟩
    · rw [decide_eq_false h]
      by_cases a1 : (0 : Int) ≤ n
      · have a2 : ¬ n < 4294967296 := fun k => h (fit_mk (by omega))
        clear h h1 h2
        go_enter Tryd.func105, Tryd.ntmps105
        go_wp2
        go_ret
        exact ⟨rfl, rfl⟩
      · clear h h1 h2
        go_enter Tryd.func105, Tryd.ntmps105
        go_wp2
        go_ret
        exact ⟨rfl, rfl⟩
  have e1 : (x == 1) = false := by simpa using h1
  have e2 : (x == 2) = false := by simpa using h2
  have e4 : (x == 4) = false := by simpa using h4
  by_cases h8 : x = 8
  · subst h8
    have e : decide (fitB n 8) = decide (0 ≤ n) := by
      rw [decide_eq_decide]; unfold fitB; omega
    rw [e]
    clear h1 h2 h4 e e1 e2 e4
    go_enter Tryd.func105, Tryd.ntmps105
    go_wp2
    go_ret
    exact ⟨rfl, rfl⟩
  · have e8 : (x == 8) = false := by simpa using h8
    have h : ¬ fitB n x := fun k => by have := fit_un k; omega
    rw [decide_eq_false h]
    clear h
    go_enter Tryd.func105, Tryd.ntmps105
    go_wp2
    go_ret
    exact ⟨rfl, rfl⟩
theorem fits_yes {n x : Int} (h : fitB n x) (w : World) : Calls Tryd.prog 105 #[.int .i64 n, .int .i64 x] w fun e w' => e = .returned (.bool true) ∧ w = w' := by
  have := fits_any n x w
  rw [decide_eq_true h] at this
  exact this
theorem fits_no {n x : Int} (h : ¬ fitB n x) (w : World) : Calls Tryd.prog 105 #[.int .i64 n, .int .i64 x] w fun e w' => e = .returned (.bool false) ∧ w = w' := by
  have := fits_any n x w
  rw [decide_eq_false h] at this
  exact this
theorem wid_spec (x : Int) (w : World) : Calls Tryd.prog 76 #[.int .i64 x] w fun e w' => e = .returned (.bool (decide (widOk x))) ∧ w = w' := by
  by_cases h1 : x = 1
  · subst h1
    go_enter Tryd.func76, Tryd.ntmps76
    go_wp2
    go_ret
    exact ⟨rfl, rfl⟩
  by_cases h2 : x = 2
  · subst h2
    go_enter Tryd.func76, Tryd.ntmps76
    go_wp2
    go_ret
    exact ⟨rfl, rfl⟩
  by_cases h4 : x = 4
  · subst h4
    go_enter Tryd.func76, Tryd.ntmps76
    go_wp2
    go_ret
    exact ⟨rfl, rfl⟩
  by_cases h8 : x = 8
  · subst h8
    go_enter Tryd.func76, Tryd.ntmps76
    go_wp2
    go_ret
    exact ⟨rfl, rfl⟩
  have e1 : (x == 1) = false := by simpa using h1
  have e2 : (x == 2) = false := by simpa using h2
  have e4 : (x == 4) = false := by simpa using h4
  have e8 : (x == 8) = false := by simpa using h8
  have h : ¬ widOk x := fun k => by have := wid_un k; omega
  rw [decide_eq_false h]
  clear h
  go_enter Tryd.func76, Tryd.ntmps76
  go_wp2
  go_ret
  exact ⟨rfl, rfl⟩
theorem wid_yes {x : Int} (h : widOk x) (w : World) : Calls Tryd.prog 76 #[.int .i64 x] w fun e w' => e = .returned (.bool true) ∧ w = w' := by
  have := wid_spec x w
  rw [decide_eq_true h] at this
  exact this
theorem wid_no {x : Int} (h : ¬ widOk x) (w : World) : Calls Tryd.prog 76 #[.int .i64 x] w fun e w' => e = .returned (.bool false) ∧ w = w' := by
  have := wid_spec x w
  rw [decide_eq_false h] at this
  exact this
/-- whether n bytes lie at place a -/
def holdB (len a n : Int) : Prop := 0 ≤ a ∧ 0 ≤ n ∧ n ≤ len - a
instance (len a n : Int) : Decidable (holdB len a n) := by unfold holdB; infer_instance
end Go.Proofs.YtilgncebhgplaaaDoor
/- The width for an integer: the program's and the model's answers. -/
namespace Go.Proofs.YtilgncebhgplaaaDoor
open Go.RowKit
theorem widR_neg {n : Int} (h : n < 0) : widR n = 0 := by unfold widR; rw [if_pos h]
theorem widR_1 {n : Int} (h : 0 ≤ n) (k : n < 256) : widR n = 1 := by unfold widR; rw [if_neg (by omega), if_pos k]
theorem widR_2 {n : Int} (h : 256 ≤ n) (k : n < 65536) : widR n = 2 := by unfold widR; rw [if_neg (by omega), if_neg (by omega), if_pos k]
theorem widR_4 {n : Int} (h : 65536 ≤ n) (k : n < 4294967296) : widR n = 4 := by unfold widR; rw [if_neg (by omega), if_neg (by omega), if_neg (by omega), if_pos k]
theorem widR_8 {n : Int} (h : 4294967296 ≤ n) : widR n = 8 := by unfold widR; rw [if_neg (by omega), if_neg (by omega), if_neg (by omega), if_neg (by omega)]
theorem widR_cases (n : Int) : (n < 0 ∧ widR n = 0) ∨ (0 ≤ n ∧ n < 256 ∧ widR n = 1) ∨ (256 ≤ n ∧ n < 65536 ∧ widR n = 2) ∨ (65536 ≤ n ∧ n < 4294967296 ∧ widR n = 4) ∨ (4294967296 ≤ n ∧ widR n = 8) := by
  by_cases h0 : n < 0
  · exact .inl ⟨h0, widR_neg h0⟩
  by_cases h1 : n < 256
  · exact .inr (.inl ⟨by omega, h1, widR_1 (by omega) h1⟩)
  by_cases h2 : n < 65536
  · exact .inr (.inr (.inl ⟨by omega, h2, widR_2 (by omega) h2⟩))
  by_cases h4 : n < 4294967296
  · exact .inr (.inr (.inr (.inl ⟨by omega, h4, widR_4 (by omega) h4⟩)))
  · exact .inr (.inr (.inr (.inr ⟨by omega, widR_8 (by omega)⟩)))
theorem width_spec (n : Int) (w : World) : Calls Tryd.prog 66 #[.int .i64 n] w fun e w' => e = .returned (.int .i64 (widR n)) ∧ w = w' := by
  rcases widR_cases n with ⟨h0, e⟩ | ⟨h0, h1, e⟩ | ⟨h0, h1, e⟩ | ⟨h0, h1, e⟩ | ⟨h0, e⟩
  · rw [e]
    clear e
    go_enter Tryd.func66, Tryd.ntmps66
    go_wp2
    go_ret
    exact ⟨rfl, rfl⟩
  · rw [e]
    have k0 : ¬ n < 0 := by omega
    clear e
    go_enter Tryd.func66, Tryd.ntmps66
    go_wp2
    go_ret
    exact ⟨rfl, rfl⟩
  · rw [e]
    have k0 : ¬ n < 0 := by omega
    have k1 : ¬ n < 256 := by omega
    clear e
    go_enter Tryd.func66, Tryd.ntmps66
    go_wp2
    go_ret
    exact ⟨rfl, rfl⟩
  · rw [e]
    have k0 : ¬ n < 0 := by omega
    have k1 : ¬ n < 256 := by omega
    have k2 : ¬ n < 65536 := by omega
    clear e
    go_enter Tryd.func66, Tryd.ntmps66
    go_wp2
    go_ret
    exact ⟨rfl, rfl⟩
  · rw [e]
    have k0 : ¬ n < 0 := by omega
    have k1 : ¬ n < 256 := by omega
    have k2 : ¬ n < 65536 := by omega
    have k4 : ¬ n < 4294967296 := by omega
    clear e
    go_enter Tryd.func66, Tryd.ntmps66
    go_wp2
    go_ret
    exact ⟨rfl, rfl⟩
theorem widR_fit {n : Int} (h : 0 ≤ n) : fitB n (widR n) := by
  refine fit_mk ⟨h, ?_⟩
  rcases widR_cases n with ⟨h0, e⟩ | ⟨h0, h1, e⟩ | ⟨h0, h1, e⟩ | ⟨h0, h1, e⟩ | ⟨h0, e⟩ <;> rw [e] <;> omega
theorem width_impl (n : Int) (w : World) : Calls Tryd.prog 101 #[.int .i64 n] w fun e w' => e = .returned (.int .i64 (widR n)) ∧ w = w' := by
  by_cases hn : n < 0
  · rw [widR_neg hn]
    have c : ∀ x, Calls Tryd.prog 105 #[.int .i64 n, .int .i64 x] w fun e w' => e = .returned (.bool false) ∧ w = w' := fun x => fits_no (fun h => by have := fit_un h; omega) w
    go_enter Tryd.func101, Tryd.ntmps101
    go_wp2
    go_loop [3] (fun x => x = .int .i64 1 ∨ x = .int .i64 2 ∨ x = .int .i64 4 ∨ x = .int .i64 8 ∨ x = .int .i64 16) (fun x => (16 - intOf x).toNat)
    case atStart => exact .inl rfl
    case round =>
      rcases hrel with rfl | rfl | rfl | rfl | rfl
      · have c := c 1
        go_wp2_with (go_at_call 105; refine c.mono ?_; rintro e w' ⟨rfl, rfl⟩)
        go_round
        case rel => exact .inr (.inl rfl)
        case measure => simp [intOf]
      · have c := c 2
        go_wp2_with (go_at_call 105; refine c.mono ?_; rintro e w' ⟨rfl, rfl⟩)
        go_round
        case rel => exact .inr (.inr (.inl rfl))
        case measure => simp [intOf]
      · have c := c 4
        go_wp2_with (go_at_call 105; refine c.mono ?_; rintro e w' ⟨rfl, rfl⟩)
        go_round
        case rel => exact .inr (.inr (.inr (.inl rfl)))
        case measure => simp [intOf]
      · have c := c 8
        go_wp2_with (go_at_call 105; refine c.mono ?_; rintro e w' ⟨rfl, rfl⟩)
        go_round
        case rel => exact .inr (.inr (.inr (.inr rfl)))
        case measure => simp [intOf]
      · go_wp2
        go_ret
        exact ⟨rfl, rfl⟩
  · have c : ∀ x, (x = 1 ∨ x = 2 ∨ x = 4 ∨ x = 8) → x < widR n → Calls Tryd.prog 105 #[.int .i64 n, .int .i64 x] w fun e w' => e = .returned (.bool false) ∧ w = w' := fun x hx hlt => fits_no (fun h => by
      have := fit_un h
      rcases widR_cases n with ⟨h0, e⟩ | ⟨h0, h1, e⟩ | ⟨h0, h1, e⟩ | ⟨h0, h1, e⟩ | ⟨h0, e⟩ <;> rw [e] at hlt <;> omega) w
    have cy := fits_yes (widR_fit (by omega : 0 ≤ n)) w
    have hr : widR n = 1 ∨ widR n = 2 ∨ widR n = 4 ∨ widR n = 8 := by
      rcases widR_cases n with ⟨h0, e⟩ | ⟨h0, h1, e⟩ | ⟨h0, h1, e⟩ | ⟨h0, h1, e⟩ | ⟨h0, e⟩ <;> rw [e] <;> omega
    have C := Lib.hid c
    clear c
    generalize widR n = r at *
    go_enter Tryd.func101, Tryd.ntmps101
    go_wp2
    go_loop [3] (fun x => ∃ z : Int, x = .int .i64 z ∧ z ≤ r ∧ (z = 1 ∨ z = 2 ∨ z = 4 ∨ z = 8)) (fun x => (16 - intOf x).toNat)
    case atStart => exact ⟨1, rfl, by omega, .inl rfl⟩
    case round =>
      obtain ⟨z, rfl, hz, hz4⟩ := hrel
      by_cases e : z = r
      · subst e
        have hz8 : z ≤ 8 := by omega
        clear hz hz4 hr
        go_wp2_with (go_at_call 105; refine cy.mono ?_; rintro e w' ⟨rfl, rfl⟩)
        go_ret
        exact ⟨rfl, rfl⟩
      · have c := C.out z hz4 (by omega)
        have hz8 : z ≤ 4 := by omega
        have hz1 : 1 ≤ z := by omega
        have HZ := Lib.hid (show 2 * z ≤ r ∧ (2 * z = 1 ∨ 2 * z = 2 ∨ 2 * z = 4 ∨ 2 * z = 8) by omega)
        clear hz hz4 hr e cy
        go_wp2_with (go_at_call 105; refine c.mono ?_; rintro e w' ⟨rfl, rfl⟩)
        go_round
        case rel => exact ⟨2 * z, by go_num, HZ.out.1, HZ.out.2⟩
        case measure => simp [intOf]; omega
end Go.Proofs.YtilgncebhgplaaaDoor
