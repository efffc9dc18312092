import Derived.Test.YtilgncebhgplaaaDoorRows
import Derived.WalkKit
import Derived.OwnWalk
import Derived.Laws.OwnMore
import Derived.Laws.AppendOwnNone
import Derived.Lib.UnsafeStr
import Derived.Deep.QuietTactic
import Derived.BigQuiet
import Derived.ProofKit
import Derived.Lib.Hide
/- What a slice reads (Reads, Slc), what it owns (ownsRow), and what stays when one block or none of the elder ones turns. -/
namespace Go.Proofs.YtilgncebhgplaaaDoor
open Go.RowKit
/-- Of the blocks of w only block B may differ in w'; there may be new ones. -/
structure Only (B : Nat) (w w' : World) : Prop where
  os : w'.os = w.os
  tape : w'.tape = w.tape
  output : w'.output = w.output
  size : w.heap.size ≤ w'.heap.size
  block : ∀ k, k < w.heap.size → k ≠ B → w'.heap[k]? = w.heap[k]?
theorem Only.refl (B : Nat) (w : World) : Only B w w := ⟨rfl, rfl, rfl, Nat.le_refl _, fun _ _ _ => rfl⟩
theorem Only.trans {B : Nat} {a b c : World} (h : Only B a b) (k : Only B b c) : Only B a c :=
  ⟨k.os.trans h.os, k.tape.trans h.tape, k.output.trans h.output, Nat.le_trans h.size k.size, fun i hi hB => (k.block i (Nat.lt_of_lt_of_le hi h.size) hB).trans (h.block i hi hB)⟩
theorem Only.drew {B : Nat} {a w : World} (h : Only B a w) : Only B a w.drew := ⟨h.os, h.tape, h.output, h.size, h.block⟩
theorem Only.drewN {B : Nat} {a w : World} (h : Only B a w) (n : Nat) : Only B a (w.drewN n) := ⟨h.os, h.tape, h.output, h.size, h.block⟩
theorem Only.setCell {B : Nat} {a w : World} (h : Only B a w) (o : Nat) (u : Value) : Only B a (w.setCell ⟨B, o, none⟩ u) :=
  h.trans ⟨rfl, rfl, rfl, by simp [World.setCell], fun k hk hB => Below.heap_setCell _ _ _ _ hB⟩
theorem Only.alloc {B : Nat} {a w : World} (h : Only B a w) (o : Obj) : Only B a (w.alloc o) :=
  h.trans ⟨rfl, rfl, rfl, by simp, fun k hk _ => Below.heap_alloc _ _ _ hk⟩
theorem Only.below {B : Nat} {w w' : World} (h : Only B w w') (N : Nat) (hN : N ≤ B) (hs : N ≤ w.heap.size) : Below N w w' :=
  ⟨h.os, h.tape, h.output, h.size, fun k hk => h.block k (by omega) (by omega)⟩
theorem Only.cell {B : Nat} {w w' : World} (h : Only B w w') {p : Addr} {v : Value} (hp : p.block ≠ B) (hc : w.cell? p = some v) : w'.cell? p = some v := by
  have hlt : p.block < w.heap.size := by
    rcases Nat.lt_or_ge p.block w.heap.size with h' | h'
    · exact h'
    · simp [World.cell?, Array.getElem?_eq_none h'] at hc
  rw [World.cell?_of_block (w := w) (h.block p.block hlt hp)]; exact hc
theorem Only.of_below {B : Nat} {w w' : World} (h : Below w.heap.size w w') : Only B w w' := ⟨h.os, h.tape, h.output, h.size, fun k hk _ => h.block k hk⟩
theorem Only.of_grown {g : Nat} {w w' : World} (h : w.grownBy w' (some g)) : Only g w w' := ⟨h.os, h.tape, h.output, h.size, fun k hk hg => h.block k hk (by simpa using hg)⟩
theorem grown_below0 {w w' : World} {row : Option Nat} (h : w.grownBy w' row) (hr : ∀ k, row = some k → w.heap.size ≤ k) : Below w.heap.size w w' :=
  ⟨h.os, h.tape, h.output, h.size, fun k hk => h.block k hk (fun e => by have := hr k e.symm; omega)⟩
theorem grown_belowN {w w' : World} {row : Option Nat} {N : Nat} (h : w.grownBy w' row) (hN : N ≤ w.heap.size) (hr : ∀ k, row = some k → N ≤ k) : Below N w w' :=
  ⟨h.os, h.tape, h.output, h.size, fun k hk => h.block k (by omega) (fun e => by have := hr k e.symm; omega)⟩
theorem cell_lt {w : World} {p : Addr} {v : Value} (hc : w.cell? p = some v) : p.block < w.heap.size := by
  rcases Nat.lt_or_ge p.block w.heap.size with h' | h'
  · exact h'
  · simp [World.cell?, Array.getElem?_eq_none h'] at hc
theorem below_drewN {N : Nat} {a w : World} (h : Below N a w) (n : Nat) : Below N a (w.drewN n) := ⟨h.os, h.tape, h.output, h.size, h.block⟩
/-- bytes and ints as cells -/
def bv (l : List UInt8) : List Value := l.map fun x => Value.int .u8 x.toNat
def iv (l : List Int) : List Value := l.map (Value.int .i64)
@[simp] theorem bv_length (l : List UInt8) : (bv l).length = l.length := by simp [bv]
@[simp] theorem iv_length (l : List Int) : (iv l).length = l.length := by simp [iv]
theorem bv_append (k l : List UInt8) : bv (k ++ l) = bv k ++ bv l := by simp [bv]
theorem iv_append (k l : List Int) : iv (k ++ l) = iv k ++ iv l := by simp [iv]
theorem bv_cell : ∀ (l : List UInt8), ∀ u ∈ bv l, u.oneCell' = true := by
  intro l u hu
  simp only [bv, List.mem_map] at hu
  obtain ⟨x, _, rfl⟩ := hu
  rfl
theorem iv_cell : ∀ (l : List Int), ∀ u ∈ iv l, u.oneCell' = true := by
  intro l u hu
  simp only [iv, List.mem_map] at hu
  obtain ⟨x, _, rfl⟩ := hu
  rfl
/-- a slice whose elements read as xs (its address whatever where it is empty) -/
def Reads (w : World) (v : Value) (xs : List Value) : Prop :=
  ∃ a cap, v = .slice a xs.length cap ∧ ∀ j (h : j < xs.length), ∃ b o, a = some ⟨b, o, none⟩ ∧ w.cell? ⟨b, o + j, none⟩ = some xs[j]
theorem Reads.below {w w' : World} {v : Value} {xs : List Value} (h : Reads w v xs) (hb : Below w.heap.size w w') : Reads w' v xs := by
  obtain ⟨a, cap, rfl, hc⟩ := h
  refine ⟨a, cap, rfl, fun j hj => ?_⟩
  obtain ⟨b, o, ha, hcl⟩ := hc j hj
  exact ⟨b, o, ha, by rw [hb.cell (p := ⟨b, o + j, none⟩) (cell_lt hcl)]; exact hcl⟩
theorem Reads.only {w w' : World} {v : Value} {xs : List Value} {g : Nat} (h : Reads w v xs) (ho : Only g w w') (hg : v.ownBlock ≠ some g) : Reads w' v xs := by
  obtain ⟨a, cap, rfl, hc⟩ := h
  refine ⟨a, cap, rfl, fun j hj => ?_⟩
  obtain ⟨b, o, rfl, hcl⟩ := hc j hj
  exact ⟨b, o, rfl, ho.cell (by simpa [Value.ownBlock] using hg) hcl⟩
/-- a slice that is nil and empty, or stands at a plain address and reads as xs -/
def Slc (w : World) (v : Value) (xs : List Value) : Prop :=
  (v = .slice none 0 0 ∧ xs = []) ∨ ∃ b o cap, v = .slice (some ⟨b, o, none⟩) xs.length cap ∧ ∀ j u, xs[j]? = some u → w.cell? ⟨b, o + j, none⟩ = some u
theorem Slc.reads {w : World} {v : Value} {xs : List Value} (h : Slc w v xs) : Reads w v xs := by
  rcases h with ⟨rfl, rfl⟩ | ⟨b, o, cap, rfl, hc⟩
  · exact ⟨none, 0, rfl, fun j hj => absurd hj (by simp)⟩
  · exact ⟨_, cap, rfl, fun j hj => ⟨b, o, rfl, hc j _ (List.getElem?_eq_getElem hj)⟩⟩
theorem Slc.below {w w' : World} {v : Value} {xs : List Value} (h : Slc w v xs) (hb : Below w.heap.size w w') : Slc w' v xs := by
  rcases h with h | ⟨b, o, cap, rfl, hc⟩
  · exact .inl h
  · refine .inr ⟨b, o, cap, rfl, fun j u hu => ?_⟩
    have hcl := hc j u hu
    rw [hb.cell (p := ⟨b, o + j, none⟩) (cell_lt hcl)]; exact hcl
theorem own_slc {w : World} {B E : Nat} {v : Value} {xs : List Value} {n : Nat} (h : w.ownsRow B E 1 v n xs) : Slc w v xs := by
  have hl := h.1
  rcases h.2 with ⟨rfl, rfl⟩ | ⟨g, cap, cur, rfl, hb, hg, hnc, hcm, hcs, htake⟩
  · exact .inl ⟨rfl, by simpa using hl⟩
  · refine .inr ⟨g, 0, cap, by rw [hl]; simp, fun j u hu => ?_⟩
    rw [cell_of_row w g (0 + j) cur E (0, 0) hg]
    rw [← htake, List.getElem?_take] at hu
    split at hu
    · simpa using hu
    · cases hu
theorem own_reads {w : World} {B E : Nat} {v : Value} {xs : List Value} {n : Nat} (h : w.ownsRow B E 1 v n xs) : Reads w v xs := (own_slc h).reads
theorem own_below {w w' : World} {B E n : Nat} {v : Value} {xs : List Value} (h : w.ownsRow B E 1 v n xs) (hb : Below w.heap.size w w') : w'.ownsRow B E 1 v n xs := by
  refine h.kept (row := none) ⟨hb.os, hb.tape, hb.output, hb.size, fun k hk _ => hb.block k hk⟩ ?_
  cases v.ownBlock with
  | none => exact .inl rfl
  | some g => exact .inr (by simp)
theorem own_only {w w' : World} {B E n g : Nat} {v : Value} {xs : List Value} (h : w.ownsRow B E 1 v n xs) (ho : Only g w w') (hg : v.ownBlock ≠ some g) : w'.ownsRow B E 1 v n xs :=
  h.kept (row := some g) ⟨ho.os, ho.tape, ho.output, ho.size, fun k hk hne => ho.block k hk (fun e => hne (by rw [e]))⟩ (.inr hg)
theorem own_ne {w w' : World} {B E n E' n' : Nat} {u v : Value} {xs ys : List Value} (h : w.ownsRow B E 1 u n xs) (k : w'.ownsRow w.heap.size E' 1 v n' ys) : ∀ g, v.ownBlock = some g → u.ownBlock ≠ some g := by
  intro g hg hu
  have h1 := (h.lt g hu).2
  have h2 := (k.lt g hg).1
  omega
/-- a slice at a plain address that reads as xs -/
def Sl (w : World) (v : Value) (xs : List Value) : Prop := ∃ b o cap, v = .slice (some ⟨b, o, none⟩) xs.length cap ∧ ∀ j u, xs[j]? = some u → w.cell? ⟨b, o + j, none⟩ = some u
theorem Sl.below {w w' : World} {v : Value} {xs : List Value} (h : Sl w v xs) (hb : Below w.heap.size w w') : Sl w' v xs := by
  obtain ⟨b, o, cap, rfl, hc⟩ := h
  refine ⟨b, o, cap, rfl, fun j u hu => ?_⟩
  have hcl := hc j u hu
  rw [hb.cell (p := ⟨b, o + j, none⟩) (cell_lt hcl)]; exact hcl
theorem Sl.reads {w : World} {v : Value} {xs : List Value} (h : Sl w v xs) : Reads w v xs := Slc.reads (.inr h)
theorem own_sl {w : World} {B E : Nat} {v : Value} {xs : List Value} {n : Nat} (h : w.ownsRow B E 1 v n xs) (hv : v ≠ .slice none 0 0) : Sl w v xs := by
  rcases own_slc h with ⟨rfl, _⟩ | h
  · exact absurd rfl hv
  · exact h
theorem only_below {N g : Nat} {a w w' : World} (hb : Below N a w) (ho : Only g w w') (hg : N ≤ g) (hN : N ≤ w.heap.size) : Below N a w' := hb.trans (ho.below N hg hN)
/-- an elder row stays behind a turn of a younger one -/
theorem own_old {w w' : World} {B E n g : Nat} {v : Value} {xs : List Value} (h : w.ownsRow B E 1 v n xs) (ho : Only g w w') (hlt : ∀ k, v.ownBlock = some k → k < g) : w'.ownsRow B E 1 v n xs :=
  own_only h ho (fun e => by have := hlt g e; omega)
/-- a younger row stays behind a turn of an elder one -/
theorem own_new {w w' : World} {B E n g : Nat} {u v : Value} {xs : List Value} (h : w.ownsRow B E 1 v n xs) (ho : Only g w w') (hg : u.ownBlock = some g ∨ w.heap.size ≤ g) (hu : ∀ k, u.ownBlock = some k → k < B) : w'.ownsRow B E 1 v n xs :=
  own_only h ho (fun e => by
    have h1 := h.lt g e
    rcases hg with hg | hg
    · have := hu g hg; omega
    · omega)
theorem bv_getElem (l : List UInt8) (j : Nat) (h : j < (bv l).length) : (bv l)[j] = .int .u8 ((l[j]'(by simpa using h)).toNat) := by simp [bv]
theorem reads_byte {w : World} {v : Value} {l : List UInt8} (h : Reads w v (bv l)) : ∃ a cap, v = .slice a l.length cap ∧ ∀ j (hj : j < l.length), ∃ b o, a = some ⟨b, o, none⟩ ∧ w.cell? ⟨b, o + j, none⟩ = some (.int .u8 (l[j]).toNat) := by
  obtain ⟨a, cap, rfl, hc⟩ := h
  refine ⟨a, cap, by rw [bv_length], fun j hj => ?_⟩
  obtain ⟨b, o, ha, hcl⟩ := hc j (by simpa using hj)
  exact ⟨b, o, ha, by rw [hcl, bv_getElem]⟩
theorem iv_getElem (l : List Int) (j : Nat) (h : j < (iv l).length) : (iv l)[j] = .int .i64 (l[j]'(by simpa using h)) := by simp [iv]
theorem reads_int {w : World} {v : Value} {l : List Int} (h : Reads w v (iv l)) : ∃ a cap, v = .slice a l.length cap ∧ ∀ j (hj : j < l.length), ∃ b o, a = some ⟨b, o, none⟩ ∧ w.cell? ⟨b, o + j, none⟩ = some (.int .i64 l[j]) := by
  obtain ⟨a, cap, rfl, hc⟩ := h
  refine ⟨a, cap, by rw [iv_length], fun j hj => ?_⟩
  obtain ⟨b, o, ha, hcl⟩ := hc j (by simpa using hj)
  exact ⟨b, o, ha, by rw [hcl, iv_getElem]⟩
theorem below_step {N E n : Nat} {w w1 w2 : World} {o : Obj} {v : Value} {xs : List Value} (hb : Below N w w1) (hN : N ≤ w1.heap.size) (hown : w1.ownsRow N E 1 v n xs) (hg : (w1.alloc o).grownBy w2 v.ownBlock) : Below N w w2 :=
  (hb.alloc hN o).trans (grown_belowN hg (by simp; omega) (fun k hk => (hown.lt k hk).1))
theorem below_new {w w2 : World} {o : Obj} {v : Value} (hv : v.ownBlock = some w.heap.size) (hg : (w.alloc o).grownBy w2 v.ownBlock) : Below w.heap.size w w2 :=
  ((Below.refl w.heap.size w).alloc (Nat.le_refl _) o).trans (grown_belowN hg (by simp) (fun k hk => by rw [hv] at hk; injection hk with hk; omega))
theorem below_box (w : World) (o : Obj) : Below w.heap.size w (w.alloc o) := (Below.refl _ _).alloc (Nat.le_refl _) _
theorem relCall {P : Program} {f : FuncId} {args : Array Value} {v : Value} {N : Nat} {W0 : World} (h : ∀ W, Calls P f args W fun e w' => e = .returned v ∧ Below W.heap.size W w') :
    ∀ W, Below N W0 W → N ≤ W.heap.size → Calls P f args W fun e w' => e = .returned v ∧ Below N W0 w' ∧ N ≤ w'.heap.size :=
  fun W hb hN => (h W).mono fun _ _ ⟨he, hb2⟩ => ⟨he, hb.trans (hb2.mono hN), Nat.le_trans hN hb2.size⟩
end Go.Proofs.YtilgncebhgplaaaDoor
/- A row of the call's own: facts. -/
namespace Go.Proofs.YtilgncebhgplaaaDoor
open Go.RowKit
theorem byteInfo' : (Tryd.prog.info? 5).map (fun i => (i.zero, i.size, i.bytes)) = some (some (.int .u8 0), 1, 1) := by kernel_rfl
theorem addr_add (b o j : Nat) : (⟨b, o, none⟩ : Addr).add j = ⟨b, o + j, none⟩ := by unfold Addr.add; split <;> simp_all
theorem own_nonnil {w : World} {B E n : Nat} {v : Value} {xs : List Value} (h : w.ownsRow B E 1 v n xs) (hn : 0 < n) : v ≠ .slice none 0 0 := by
  rcases h.2 with ⟨_, h0⟩ | ⟨g, cap, cur, rfl, _⟩
  · omega
  · intro e; cases e
/-- what PutRune hands on: a row of its own that holds the bytes l -/
def Fresh (w : World) (l : List UInt8) (e : Ending) (w' : World) : Prop := ∃ v', e = .returned v' ∧ v' ≠ .slice none 0 0 ∧ w'.ownsRow w.heap.size 5 1 v' l.length (bv l) ∧ Below w.heap.size w w'
theorem own_take {w : World} {B E n cap g k : Nat} {xs : List Value} (h : w.ownsRow B E 1 (.slice (some ⟨g, 0, none⟩) n cap) n xs) (hk : k ≤ n) : w.ownsRow B E 1 (.slice (some ⟨g, 0, none⟩) k cap) k (xs.take k) := by
  have hl := h.1
  refine ⟨by rw [List.length_take]; omega, ?_⟩
  rcases h.2 with ⟨h, _⟩ | ⟨g', cap', cur, h, hb, hg, hnc, hcm, hcs, htake⟩
  · cases h
  · injection h with h1 h2 h3
    injection h1 with h1
    injection h1 with h1
    subst h1
    subst h3
    refine .inr ⟨g, cap, cur, rfl, hb, hg, by omega, hcm, hcs, ?_⟩
    rw [← htake, List.take_take]
    congr 1
    omega
theorem bv_take (l : List UInt8) (k : Nat) : (bv l).take k = bv (l.take k) := by simp [bv, List.map_take]
theorem bv_set (l : List UInt8) (k : Nat) (z : Int) (h0 : 0 ≤ z) (h1 : z < 256) : (bv l).set k (.int .u8 z) = bv (l.set k (UInt8.ofNat z.toNat)) := by
  unfold bv
  rw [List.map_set]
  congr 2
  have : (UInt8.ofNat z.toNat).toNat = z.toNat % 256 := by simp
  rw [this]
  omega
theorem own_shape {w : World} {B E n : Nat} {v : Value} {xs : List Value} (h : w.ownsRow B E 1 v n xs) (hv : v ≠ .slice none 0 0) : ∃ g cap, v = .slice (some ⟨g, 0, none⟩) n cap ∧ B ≤ g ∧ n ≤ cap ∧ cap ≤ maxLen := by
  rcases h.2 with ⟨h, _⟩ | ⟨g, cap, cur, rfl, hb, _, h1, h2, _⟩
  · exact absurd h hv
  · exact ⟨g, cap, rfl, hb, h1, h2⟩
theorem own_base {w : World} {B B' E n : Nat} {v : Value} {xs : List Value} (h : w.ownsRow B E 1 v n xs) (hB : B' ≤ B) : w.ownsRow B' E 1 v n xs := by
  refine ⟨h.1, ?_⟩
  rcases h.2 with h | ⟨g, cap, cur, hv, hb, rest⟩
  · exact .inl h
  · exact .inr ⟨g, cap, cur, hv, Nat.le_trans hB hb, rest⟩
theorem own_cells {w : World} {B E n cap g : Nat} {xs : List Value} (h : w.ownsRow B E 1 (.slice (some ⟨g, 0, none⟩) n cap) n xs) (j : Nat) (u : Value) (hu : xs[j]? = some u) : w.cell? ⟨g, 0 + j, none⟩ = some u := by
  have h1 := (List.getElem?_eq_some_iff.1 hu).1
  have h2 := h.1
  rw [Nat.zero_add, h.cellAt j (by omega)]
  exact hu
theorem sub_reads {w : World} {g n c off len c' j k : Nat} {l : List UInt8} (h : Reads w (.slice (some ⟨g, 0, none⟩) n c) (bv l)) (hjk : j + k ≤ l.length) (ho : off = j) (hl : len = k) : Reads w (.slice (some ⟨g, off, none⟩) len c') (bv ((l.drop j).take k)) := by
  subst ho hl
  refine ⟨_, c', by rw [bv_length, List.length_take, List.length_drop, Nat.min_eq_left (by omega)], fun i hi => ⟨g, off, rfl, ?_⟩⟩
  have hi' : i < len := by rw [bv_length, List.length_take, List.length_drop] at hi; omega
  obtain ⟨a, c2, e, hc⟩ := h
  obtain ⟨b, o, ha, hcl⟩ := hc (off + i) (by rw [bv_length]; omega)
  injection e with e1 e2 e3
  rw [ha] at e1
  injection e1 with e1
  injection e1 with e1 e4
  subst e1
  subst e4
  rw [Nat.zero_add] at hcl
  rw [hcl]
  simp [bv]
theorem slc_sl {w : World} {v : Value} {xs : List Value} (h : Sl w v xs) : Slc w v xs := .inr h
theorem below_alloc (w : World) (o : Obj) : Below w.heap.size w (w.alloc o) := (Below.refl w.heap.size w).alloc (Nat.le_refl _) o
end Go.Proofs.YtilgncebhgplaaaDoor
/- Rows of one's own in general: what stays. -/
namespace Go.Proofs.YtilgncebhgplaaaDoor
open Go.RowKit
theorem own_heap {w w' : World} {B E c n : Nat} {v : Value} {xs : List Value} (h : w.ownsRow B E c v n xs) (hg : ∀ g, v.ownBlock = some g → w'.heap[g]? = w.heap[g]?) : w'.ownsRow B E c v n xs := by
  refine ⟨h.1, ?_⟩
  rcases h.2 with h | ⟨g, cap, cur, rfl, hb, hh, rest⟩
  · exact .inl h
  · exact .inr ⟨g, cap, cur, rfl, hb, (hg g rfl).trans hh, rest⟩
theorem own_base' {w : World} {B B' E c n : Nat} {v : Value} {xs : List Value} (h : w.ownsRow B E c v n xs) (hB : B' ≤ B) : w.ownsRow B' E c v n xs := by
  refine ⟨h.1, ?_⟩
  rcases h.2 with h | ⟨g, cap, cur, hv, hb, rest⟩
  · exact .inl h
  · exact .inr ⟨g, cap, cur, hv, Nat.le_trans hB hb, rest⟩
theorem own_cap {w : World} {B E c n : Nat} {a : Option Addr} {m cap : Nat} {xs : List Value} (h : w.ownsRow B E c (.slice a m cap) n xs) : m = n ∧ n ≤ cap ∧ cap ≤ maxLen := by
  rcases h.2 with ⟨h1, h0⟩ | ⟨g, cap', cur, hv, _, _, h1, h2, _⟩
  · injection h1 with e1 e2 e3
    unfold maxLen; omega
  · injection hv with e1 e2 e3
    omega
theorem bset {N B o : Nat} {w w' : World} {u : Value} (h : Below N w w') (hB : N ≤ B) : Below N w (w'.setCell ⟨B, o, none⟩ u) := h.setCell hB _
theorem keep_below {w w' : World} {p : Addr} {v : Value} (hb : Below w.heap.size w w') (h : w.cell? p = some v) : w'.cell? p = some v := (hb.cell (cell_lt h)).trans h
theorem below_tr {w0 w w' : World} (hb : Below w.heap.size w w') (hB : Below w0.heap.size w0 w) : Below w0.heap.size w0 w' := hB.trans (hb.mono hB.size)
/-- a box of one value -/
theorem vbox (w : World) (o : Obj) : Below w.heap.size w (w.alloc o) := (Below.refl w.heap.size w).alloc (Nat.le_refl _) o
end Go.Proofs.YtilgncebhgplaaaDoor
/- Trees (plain), and trees with the addresses at which their elements lie. -/
namespace Go.Proofs.YtilgncebhgplaaaDoor
open Go.RowKit
theorem size_b (l : List UInt8) : (ByteArray.mk l.toArray).size = l.length := by simp [ByteArray.size]
/-- a plain tree: kind, N, X, bytes, elements -/
inductive PT where
  | mk (k n x : Int) (s : List UInt8) (l : List PT)
theorem PT.ind {P : PT → Prop} (h : ∀ k n x s l, (∀ t ∈ l, P t) → P (.mk k n x s l)) (T : PT) : P T :=
  PT.rec (motive_1 := P) (motive_2 := fun l => ∀ t ∈ l, P t) (fun k n x s l hl => h k n x s l hl) (by simp) (fun t l ht hl => by
    intro u hu
    rcases List.mem_cons.1 hu with rfl | hu
    · exact ht
    · exact hl u hu) T
mutual
def PT.cnt : PT → Nat
  | .mk _ _ _ _ l => PT.cntL l + 1
def PT.cntL : List PT → Nat
  | [] => 0
  | t :: l => t.cnt + PT.cntL l
end
mutual
def PT.deep : PT → Nat
  | .mk _ _ _ _ l => PT.deepL l + 1
def PT.deepL : List PT → Nat
  | [] => 0
  | t :: l => max t.deep (PT.deepL l)
end
mutual
def PT.sz : PT → Nat
  | .mk _ _ _ s l => s.length + (l.length + PT.szL l)
def PT.szL : List PT → Nat
  | [] => 0
  | t :: l => t.sz + PT.szL l
end
/-- the numbers and lengths are in range -/
inductive PT.Wf : PT → Prop
  | mk {k n x : Int} {s : List UInt8} {l : List PT} (hk : -9223372036854775808 ≤ k ∧ k ≤ 9223372036854775807) (hn : -9223372036854775808 ≤ n ∧ n ≤ 9223372036854775807) (hx : -9223372036854775808 ≤ x ∧ x ≤ 9223372036854775807)
      (hs : s.length ≤ 9223372036854775807) (hl : l.length ≤ 9223372036854775807) (sub : ∀ t ∈ l, t.Wf) : PT.Wf (.mk k n x s l)
theorem PT.Wf.sub' {k n x : Int} {s : List UInt8} {l : List PT} (h : PT.Wf (.mk k n x s l)) : ∀ t ∈ l, t.Wf := by cases h; assumption
/-- a tree with the address and the capacity of its elements' slice -/
inductive AT where
  | mk (k n x : Int) (s : List UInt8) (a : Option Addr) (cap : Nat) (l : List AT)
theorem AT.ind {P : AT → Prop} (h : ∀ k n x s a cap l, (∀ t ∈ l, P t) → P (.mk k n x s a cap l)) (T : AT) : P T :=
  AT.rec (motive_1 := P) (motive_2 := fun l => ∀ t ∈ l, P t) (fun k n x s a cap l hl => h k n x s a cap l hl) (by simp) (fun t l ht hl => by
    intro u hu
    rcases List.mem_cons.1 hu with rfl | hu
    · exact ht
    · exact hl u hu) T
mutual
def AT.pt : AT → PT
  | .mk k n x s _ _ l => .mk k n x s (AT.ptL l)
def AT.ptL : List AT → List PT
  | [] => []
  | t :: l => t.pt :: AT.ptL l
end
theorem AT.ptL_eq (l : List AT) : AT.ptL l = l.map AT.pt := by
  induction l with
  | nil => rfl
  | cons t l ih => simp [AT.ptL, ih]
@[simp] theorem AT.ptL_length (l : List AT) : (AT.ptL l).length = l.length := by simp [AT.ptL_eq]
def AT.k : AT → Int | .mk k _ _ _ _ _ _ => k
def AT.n : AT → Int | .mk _ n _ _ _ _ _ => n
def AT.x : AT → Int | .mk _ _ x _ _ _ _ => x
def AT.s : AT → List UInt8 | .mk _ _ _ s _ _ _ => s
def AT.a : AT → Option Addr | .mk _ _ _ _ a _ _ => a
def AT.cap : AT → Nat | .mk _ _ _ _ _ cap _ => cap
def AT.l : AT → List AT | .mk _ _ _ _ _ _ l => l
theorem AT.eta (T : AT) : AT.mk T.k T.n T.x T.s T.a T.cap T.l = T := by cases T; rfl
/-- the root as a value -/
@[reducible] def AT.val (T : AT) : Value := .agg #[.int .i64 T.k, .int .i64 T.n, .int .i64 T.x, .string ⟨T.s.toArray⟩, .slice T.a T.l.length T.cap]
/-- the five cells of a tree's root -/
def AT.cells (T : AT) : List Value := [.int .i64 T.k, .int .i64 T.n, .int .i64 T.x, .string ⟨T.s.toArray⟩, .slice T.a T.l.length T.cap]
theorem AT.cells_length (T : AT) : T.cells.length = 5 := rfl
theorem AT.pt_eq (T : AT) : T.pt = .mk T.k T.n T.x T.s (T.l.map AT.pt) := by cases T; simp [AT.pt, AT.ptL_eq, AT.k, AT.n, AT.x, AT.s, AT.l]
structure CellsAt (w : World) (b o : Nat) (T : AT) : Prop where
  c0 : w.cell? ⟨b, o, none⟩ = some (.int .i64 T.k)
  c1 : w.cell? ⟨b, o + 1, none⟩ = some (.int .i64 T.n)
  c2 : w.cell? ⟨b, o + 2, none⟩ = some (.int .i64 T.x)
  c3 : w.cell? ⟨b, o + 3, none⟩ = some (.string ⟨T.s.toArray⟩)
  c4 : w.cell? ⟨b, o + 4, none⟩ = some (.slice T.a T.l.length T.cap)
/-- the tree's elements lie at its address, in blocks below N, at all depths -/
inductive AT.In (w : World) (N : Nat) : AT → Prop
  | mk {k n x : Int} {s : List UInt8} {a : Option Addr} {cap : Nat} {l : List AT} (hc : l.length ≤ cap) (hcell : ∀ j (h : j < l.length), ∃ b o, a = some ⟨b, o, none⟩ ∧ b < N ∧ CellsAt w b (o + j * 5) l[j]) (hsub : ∀ t ∈ l, AT.In w N t) : AT.In w N (.mk k n x s a cap l)
/-- the same of a slice of trees -/
structure Lv (w : World) (N : Nat) (a : Option Addr) (cap : Nat) (l : List AT) : Prop where
  hc : l.length ≤ cap
  cell : ∀ j (h : j < l.length), ∃ b o, a = some ⟨b, o, none⟩ ∧ b < N ∧ CellsAt w b (o + j * 5) l[j]
  sub : ∀ t ∈ l, t.In w N
theorem AT.In.lv {w : World} {N : Nat} {k n x : Int} {s : List UInt8} {a : Option Addr} {cap : Nat} {l : List AT} (h : AT.In w N (.mk k n x s a cap l)) : Lv w N a cap l := by
  cases h with
  | mk hc hcell hsub => exact ⟨hc, hcell, hsub⟩
theorem Lv.in {w : World} {N : Nat} {k n x : Int} {s : List UInt8} {a : Option Addr} {cap : Nat} {l : List AT} (h : Lv w N a cap l) : AT.In w N (.mk k n x s a cap l) := .mk h.hc h.cell h.sub
theorem AT.In.lv' {w : World} {N : Nat} {T : AT} (h : T.In w N) : Lv w N T.a T.cap T.l := by cases T; exact h.lv
theorem CellsAt.keep {w w' : World} {b o : Nat} {T : AT} (h : CellsAt w b o T) (k : w'.heap[b]? = w.heap[b]?) : CellsAt w' b o T := by
  have e : ∀ q, w'.cell? ⟨b, q, none⟩ = w.cell? ⟨b, q, none⟩ := fun q => World.cell?_of_block (w := w) (w' := w') k
  exact ⟨(e _).trans h.c0, (e _).trans h.c1, (e _).trans h.c2, (e _).trans h.c3, (e _).trans h.c4⟩
theorem AT.In.blw {w w' : World} {N M : Nat} {T : AT} (h : T.In w N) (hb : Below M w w') (hN : N ≤ M) : T.In w' N := by
  induction T using AT.ind with
  | h k n x s a cap l ih =>
    cases h with
    | mk hc hcell hsub =>
      refine .mk hc (fun j hj => ?_) (fun t ht => ih t ht (hsub t ht))
      obtain ⟨b, o, ha, hbN, hC⟩ := hcell j hj
      exact ⟨b, o, ha, hbN, hC.keep (hb.block b (by omega))⟩
theorem AT.In.mono {w : World} {N M : Nat} {T : AT} (h : T.In w N) (hN : N ≤ M) : T.In w M := by
  induction T using AT.ind with
  | h k n x s a cap l ih =>
    cases h with
    | mk hc hcell hsub =>
      refine .mk hc (fun j hj => ?_) (fun t ht => ih t ht (hsub t ht))
      obtain ⟨b, o, ha, hbN, hC⟩ := hcell j hj
      exact ⟨b, o, ha, by omega, hC⟩
theorem Lv.below {w w' : World} {N M : Nat} {a : Option Addr} {cap : Nat} {l : List AT} (h : Lv w N a cap l) (hb : Below M w w') (hN : N ≤ M) : Lv w' N a cap l :=
  (AT.In.blw (T := .mk 0 0 0 [] a cap l) h.in hb hN).lv
theorem Lv.mono {w : World} {N M : Nat} {a : Option Addr} {cap : Nat} {l : List AT} (h : Lv w N a cap l) (hN : N ≤ M) : Lv w M a cap l :=
  (AT.In.mono (T := .mk 0 0 0 [] a cap l) h.in hN).lv
theorem szL_take (l : List PT) (i : Nat) (h : i < l.length) : PT.szL (l.take (i + 1)) = PT.szL (l.take i) + l[i].sz := by
  induction l generalizing i with
  | nil => simp at h
  | cons t l ih =>
    cases i with
    | zero => simp [PT.szL]
    | succ i =>
      simp only [List.take_succ_cons, PT.szL, List.getElem_cons_succ]
      rw [ih i (by simpa using h)]
      omega
theorem szL_take_le (l : List PT) (i : Nat) : PT.szL (l.take i) ≤ PT.szL l := by
  induction l generalizing i with
  | nil => simp
  | cons t l ih =>
    cases i with
    | zero => simp [PT.szL]
    | succ i => simp only [List.take_succ_cons, PT.szL]; have := ih i; omega
theorem cntL_take (l : List PT) (i : Nat) (h : i < l.length) : PT.cntL (l.take (i + 1)) = PT.cntL (l.take i) + l[i].cnt := by
  induction l generalizing i with
  | nil => simp at h
  | cons t l ih =>
    cases i with
    | zero => simp [PT.cntL]
    | succ i =>
      simp only [List.take_succ_cons, PT.cntL, List.getElem_cons_succ]
      rw [ih i (by simpa using h)]
      omega
theorem cntL_take_le (l : List PT) (i : Nat) : PT.cntL (l.take i) ≤ PT.cntL l := by
  induction l generalizing i with
  | nil => simp
  | cons t l ih =>
    cases i with
    | zero => simp [PT.cntL]
    | succ i => simp only [List.take_succ_cons, PT.cntL]; have := ih i; omega
theorem deepL_take (l : List PT) (i : Nat) (h : i < l.length) : PT.deepL (l.take (i + 1)) = max (PT.deepL (l.take i)) l[i].deep := by
  induction l generalizing i with
  | nil => simp at h
  | cons t l ih =>
    cases i with
    | zero => simp [PT.deepL]
    | succ i =>
      simp only [List.take_succ_cons, PT.deepL, List.getElem_cons_succ]
      rw [ih i (by simpa using h)]
      omega
/-- the number of values is at most the size, and one more -/
theorem cnt_le_sz (T : PT) : T.cnt ≤ T.sz + 1 := by
  induction T using PT.ind with
  | h k n x s l ih =>
    have : PT.cntL l ≤ l.length + PT.szL l := by
      induction l with
      | nil => simp [PT.cntL]
      | cons t l ihl =>
        have h1 := ih t (by simp)
        have h2 := ihl (fun u hu => ih u (by simp [hu]))
        simp only [PT.cntL, PT.szL, List.length_cons]
        omega
    simp only [PT.cnt, PT.sz]
    omega
theorem deep_le_cnt (T : PT) : T.deep ≤ T.cnt := by
  induction T using PT.ind with
  | h k n x s l ih =>
    have : PT.deepL l ≤ PT.cntL l := by
      induction l with
      | nil => simp [PT.deepL]
      | cons t l ihl =>
        have h1 := ih t (by simp)
        have h2 := ihl (fun u hu => ih u (by simp [hu]))
        simp only [PT.cntL, PT.deepL]
        omega
    simp only [PT.cnt, PT.deep]
    omega
theorem sz_mem {l : List PT} {t : PT} (h : t ∈ l) : t.sz ≤ PT.szL l := by
  induction l with
  | nil => simp at h
  | cons u l ih =>
    simp only [PT.szL]
    rcases List.mem_cons.1 h with rfl | h
    · omega
    · have := ih h; omega
end Go.Proofs.YtilgncebhgplaaaDoor
/- What the model's range test returns; small facts. -/
namespace Go.Proofs.YtilgncebhgplaaaDoor
open Go.RowKit
theorem ret_int {k : IntKind} {a b : Int} (h : a = b) : Ending.returned (.int k a) = .returned (.int k b) := by rw [h]
theorem wf_le {n : Int} (h : (Lit.int .i64 n).wf = true) : -9223372036854775808 ≤ n ∧ n ≤ 9223372036854775807 := by
  have h2 : (decide (IntKind.i64.min ≤ n) && decide (n ≤ IntKind.i64.max)) = true := h
  rw [Bool.and_eq_true, decide_eq_true_eq, decide_eq_true_eq] at h2
  exact h2
theorem in_any (x a b : Int) (w : World) : Calls Tryd.prog 38 #[.int .i64 x, .int .i64 a, .int .i64 b] w fun e w' => e = .returned (.bool (decide (a ≤ x ∧ x ≤ b))) ∧ w = w' := by
  by_cases h1 : a ≤ x
  · by_cases h2 : x ≤ b
    · go_enter Tryd.func38, Tryd.ntmps38
      go_wp2
      go_ret
      exact ⟨by simp [h1, h2], rfl⟩
    · go_enter Tryd.func38, Tryd.ntmps38
      go_wp2
      go_ret
      exact ⟨by simp [h2], rfl⟩
  · go_enter Tryd.func38, Tryd.ntmps38
    go_wp2
    go_ret
    exact ⟨by simp; omega, rfl⟩

theorem in_yes (x a b : Int) (w : World) (h1 : a ≤ x) (h2 : x ≤ b) : Calls Tryd.prog 38 #[.int .i64 x, .int .i64 a, .int .i64 b] w fun e w' => e = .returned (.bool true) ∧ w = w' :=
  (in_any x a b w).mono fun _ _ h => ⟨by rw [h.1]; simp [h1, h2], h.2⟩
theorem in_no (x a b : Int) (w : World) (h : x < a ∨ b < x) : Calls Tryd.prog 38 #[.int .i64 x, .int .i64 a, .int .i64 b] w fun e w' => e = .returned (.bool false) ∧ w = w' :=
  (in_any x a b w).mono fun _ _ g => ⟨by rw [g.1]; have : ¬ (a ≤ x ∧ x ≤ b) := by omega
                                         simp only [this, decide_false], g.2⟩
end Go.Proofs.YtilgncebhgplaaaDoor
/- The size of a law's argument: what szVal and szValS return. -/
namespace Go.Proofs.YtilgncebhgplaaaDoor
open Go.RowKit
def szR (m : Nat) (left : Nat) : Int := if m ≤ left then (left : Int) - m else -1
theorem szValS_any (l : List AT) (ih : ∀ t ∈ l, t.pt.Wf → ∀ (w : World) (N left : Nat), t.In w N → N ≤ w.heap.size → left ≤ 1048576 →
      Calls Tryd.prog 9 #[t.val, .int .i64 left] w fun e w' => e = .returned (.int .i64 (szR t.pt.sz left)) ∧ Below w.heap.size w w')
    (hwf : ∀ t ∈ l, t.pt.Wf) (hl : l.length ≤ 9223372036854775807) (w : World) (N left : Nat) (a : Option Addr) (cap : Nat) (h : Lv w N a cap l) (hN : N ≤ w.heap.size) (hleft : left ≤ 1048576) :
    Calls Tryd.prog 29 #[.slice a l.length cap, .int .i64 left] w fun e w' => e = .returned (.int .i64 (szR (l.length + PT.szL (AT.ptL l)) left)) ∧ Below w.heap.size w w' := by
  by_cases hlen : l.length ≤ left
  · have h1 : ¬ ((left : Int) - l.length < 0) := by omega
    have H := Lib.hid h
    have IH := Lib.hid ih
    have WF := Lib.hid hwf
    clear h ih hwf
    go_enter Tryd.func29, Tryd.ntmps29
    go_wp2
    go_loopw [1, 5] (fun c i wr => ∃ i' m : Nat, c = .int .i64 m ∧ i = .int .i64 i' ∧ i' ≤ l.length ∧ m + (l.length + PT.szL ((AT.ptL l).take i')) = left ∧ Below w.heap.size w wr) (fun _ i _ => l.length - (intOf i).toNat)
    case atStart => exact ⟨0, left - l.length, by congr 1; omega, rfl, Nat.zero_le _, by simp [PT.szL]; omega, Below.refl _ _⟩
    case round =>
      obtain ⟨i', m, rfl, rfl, hi', hm, hb⟩ := hrel
      have HB := Lib.hid hb
      have HM := Lib.hid hm
      have hm2 : m ≤ 1048576 := by omega
      by_cases hlt : i' < l.length
      · obtain ⟨b, o, rfl, hbN, hC⟩ := H.out.cell i' hlt
        have hC := hC.keep (hb.block b (by omega))
        have hc := fun w' hw hs => IH.out l[i'] (List.getElem_mem hlt) (WF.out _ (List.getElem_mem hlt)) w' N m ((H.out.sub _ (List.getElem_mem hlt)).blw hw hN) hs hm2
        have hs1 : m < (l[i']).pt.sz → ¬ (l.length + PT.szL (AT.ptL l) ≤ left) := by
          intro h1 h2
          have e1 := szL_take (AT.ptL l) i' (by simpa using hlt)
          have e2 := szL_take_le (AT.ptL l) (i' + 1)
          have e3 : (AT.ptL l)[i']'(by simpa using hlt) = (l[i']).pt := by simp [AT.ptL_eq]
          rw [e3] at e1
          have := HM.out
          omega
        have hs2 : (l[i']).pt.sz ≤ m → m - (l[i']).pt.sz + (l.length + PT.szL ((AT.ptL l).take (i' + 1))) = left := by
          intro h1
          have e1 := szL_take (AT.ptL l) i' (by simpa using hlt)
          have e3 : (AT.ptL l)[i']'(by simpa using hlt) = (l[i']).pt := by simp [AT.ptL_eq]
          rw [e3] at e1
          have := HM.out
          omega
        have S1 := Lib.hid hs1
        have S2 := Lib.hid hs2
        clear hs1 hs2 hm
        obtain ⟨T, hT⟩ : ∃ T, T = l[i'] := ⟨_, rfl⟩
        rw [← hT] at hC hc S1 S2
        clear hT
        obtain ⟨c0, c1, c2, c3, c4⟩ := hC
        have HC := Lib.hid hc
        clear hc
        by_cases hfit : T.pt.sz ≤ m
        · have hr : szR T.pt.sz m = ((m - T.pt.sz : Nat) : Int) := by unfold szR; rw [if_pos hfit]; omega
          have hneg : ¬ (((m - T.pt.sz : Nat) : Int) < 0) := by omega
          have HR := Lib.hid hr
          have e2 := Lib.hid (S2.out hfit)
          clear hr hfit
          generalize m - T.pt.sz = m2 at *
          go_wp2_with fail
          refine (HC.out wr hb (by have := hb.size; omega)).mono ?_
          rintro e w2 ⟨rfl, hb2⟩
          rw [HR.out]
          have HB2 := Lib.hid hb2
          clear hb hb2
          go_wp2
          go_roundw
          case rel => exact ⟨i' + 1, m2, rfl, by go_num, by omega, e2.out, HB.out.trans (HB2.out.mono HB.out.size)⟩
          case measure => simp [intOf]; omega
        · have hr : szR T.pt.sz m = -1 := by unfold szR; rw [if_neg hfit]
          have hr2 : szR (l.length + PT.szL (AT.ptL l)) left = -1 := by unfold szR; rw [if_neg (S1.out (by omega))]
          have HR := Lib.hid hr
          have HR2 := Lib.hid hr2
          clear hr hr2 hfit
          go_wp2_with fail
          refine (HC.out wr hb (by have := hb.size; omega)).mono ?_
          rintro e w2 ⟨rfl, hb2⟩
          rw [HR.out]
          have HB2 := Lib.hid hb2
          clear hb hb2
          go_wp2
          go_ret
          exact ⟨ret_int HR2.out.symm, HB.out.trans (HB2.out.mono HB.out.size)⟩
      · obtain rfl : i' = l.length := by omega
        have hr2 : szR (l.length + PT.szL (AT.ptL l)) left = m := by
          have := HM.out
          rw [List.take_of_length_le (by simp)] at this
          unfold szR; rw [if_pos (by omega)]; omega
        have HR2 := Lib.hid hr2
        clear hr2 hm hb
        go_wp2
        go_ret
        exact ⟨ret_int HR2.out.symm, HB.out⟩
  · have h1 : (left : Int) - l.length < 0 := by omega
    have hr2 : szR (l.length + PT.szL (AT.ptL l)) left = -1 := by unfold szR; rw [if_neg (by omega)]
    have HR2 := Lib.hid hr2
    clear hr2
    go_enter Tryd.func29, Tryd.ntmps29
    go_wp2
    go_ret
    exact ⟨ret_int HR2.out.symm, Below.refl _ _⟩
theorem szVal_any (T : AT) : T.pt.Wf → ∀ (w : World) (N left : Nat), T.In w N → N ≤ w.heap.size → left ≤ 1048576 →
      Calls Tryd.prog 9 #[T.val, .int .i64 left] w fun e w' => e = .returned (.int .i64 (szR T.pt.sz left)) ∧ Below w.heap.size w w' := by
  induction T using AT.ind with
  | h k n x s a cap l ih =>
    intro hwf w N left hin hN hleft
    have hsub : ∀ t ∈ l, t.pt.Wf := fun t ht => hwf.sub' t.pt (by rw [AT.ptL_eq]; exact List.mem_map_of_mem ht)
    obtain ⟨hs, hl⟩ : s.length ≤ 9223372036854775807 ∧ l.length ≤ 9223372036854775807 := by
      cases hwf with
      | mk hk hn hx hs hl sub => exact ⟨hs, by simpa using hl⟩
    have hpt : (AT.mk k n x s a cap l).pt.sz = s.length + (l.length + PT.szL (AT.ptL l)) := by simp [AT.pt, PT.sz]
    have hc := fun w' left' (hb : Below w.heap.size w w') hl' => szValS_any l ih hsub hl w' N left' a cap (hin.lv.below hb hN) (Nat.le_trans hN hb.size) hl'
    have HC := Lib.hid hc
    have HP := Lib.hid hpt
    have hsz := size_b s
    have hszz : ((ByteArray.mk s.toArray).size : Int) = s.length := by rw [hsz]
    clear hc hpt ih hwf hin hsub
    show Calls Tryd.prog 9 #[.agg #[.int .i64 k, .int .i64 n, .int .i64 x, .string ⟨s.toArray⟩, .slice a l.length cap], .int .i64 left] w _
    generalize (ByteArray.mk s.toArray) = S at *
    by_cases hfit : s.length ≤ left
    · have h1 : ¬ ((left : Int) - s.length < 0) := by omega
      have e1 : (left : Int) - s.length = ((left - s.length : Nat) : Int) := by omega
      have E1 := Lib.hid e1
      have hm : left - s.length ≤ 1048576 := by omega
      clear e1
      go_enter Tryd.func9, Tryd.ntmps9
      go_wp2_with fail
      rw [E1.out]
      refine (HC.out _ _ (vbox _ _) hm).mono ?_
      rintro e w2 ⟨rfl, hb⟩
      have HB := Lib.hid ((vbox w _).trans (hb.mono (by simp)))
      clear hb
      by_cases hfit2 : l.length + PT.szL (AT.ptL l) ≤ left - s.length
      · have hr : szR (l.length + PT.szL (AT.ptL l)) (left - s.length) = ((left - s.length - (l.length + PT.szL (AT.ptL l)) : Nat) : Int) := by unfold szR; rw [if_pos hfit2]; omega
        have hr2 : szR (s.length + (l.length + PT.szL (AT.ptL l))) left = ((left - s.length - (l.length + PT.szL (AT.ptL l)) : Nat) : Int) := by unfold szR; rw [if_pos (by omega)]; omega
        have HR2 := Lib.hid hr2
        rw [hr]
        clear hr hr2 hfit2
        have hneg : ¬ (((left - s.length - (l.length + PT.szL (AT.ptL l)) : Nat) : Int) < 0) := by omega
        generalize left - s.length - (l.length + PT.szL (AT.ptL l)) = m2 at *
        go_wp2
        go_ret
        exact ⟨ret_int (by rw [HP.out, HR2.out]), HB.out⟩
      · have hr : szR (l.length + PT.szL (AT.ptL l)) (left - s.length) = -1 := by unfold szR; rw [if_neg hfit2]
        have hr2 : szR (s.length + (l.length + PT.szL (AT.ptL l))) left = -1 := by unfold szR; rw [if_neg (by omega)]
        have HR2 := Lib.hid hr2
        rw [hr]
        clear hr hr2 hfit2
        go_wp2
        go_ret
        exact ⟨ret_int (by rw [HP.out, HR2.out]), HB.out⟩
    · have h1 : (left : Int) - s.length < 0 := by omega
      have hr2 : szR (s.length + (l.length + PT.szL (AT.ptL l))) left = -1 := by unfold szR; rw [if_neg (by omega)]
      have HR2 := Lib.hid hr2
      clear hr2
      go_enter Tryd.func9, Tryd.ntmps9
      go_wp2
      go_ret
      exact ⟨ret_int (by rw [HP.out, HR2.out]), vbox _ _⟩
end Go.Proofs.YtilgncebhgplaaaDoor
