import Derived.Test.YtnikcgmbkmbloaaGreatDoorRows
import Derived.WalkKit
import Derived.OwnWalk
import Derived.Laws.OwnMore
import Derived.Laws.AppendOwnNone
import Derived.Lib.UnsafeStr
import Derived.Deep.QuietTactic
import Derived.BigQuiet
import Derived.ProofKit
import Derived.Lib.ItoaNum
import Derived.Lib.AtoiAll
import Derived.Lib.Hide
import Derived.Outline
/- What a slice reads (Reads, Slc), what it owns (ownsRow), and what stays when one block or none of the elder ones turns. -/
namespace Go.Proofs.YtnikcgmbkmbloaaGreatDoor
open Go.RowKit
/-- Of the blocks of w only block B may differ in w'; there may be new ones. -/
structure Only (B : Nat) (w w' : World) : Prop where
  os : w'.os = w.os
  tape : w'.tape = w.tape
  output : w'.output = w.output
  size : w.heap.size ≤ w'.heap.size
  block : ∀ k, k < w.heap.size → k ≠ B → w'.heap[k]? = w.heap[k]?
theorem Only.refl (B : Nat) (w : World) : Only B w w := ⟨rfl, rfl, rfl, Nat.le_refl _, fun _ _ _ => rfl⟩
theorem Only.trans {B : Nat} {a b c : World} (h : Only B a b) (k : Only B b c) : Only B a c :=
  ⟨k.os.trans h.os, k.tape.trans h.tape, k.output.trans h.output, Nat.le_trans h.size k.size, fun i hi hB => (k.block i (Nat.lt_of_lt_of_le hi h.size) hB).trans (h.block i hi hB)⟩
theorem Only.drew {B : Nat} {a w : World} (h : Only B a w) : Only B a w.drew := ⟨h.os, h.tape, h.output, h.size, h.block⟩
theorem Only.drewN {B : Nat} {a w : World} (h : Only B a w) (n : Nat) : Only B a (w.drewN n) := ⟨h.os, h.tape, h.output, h.size, h.block⟩
theorem Only.setCell {B : Nat} {a w : World} (h : Only B a w) (o : Nat) (u : Value) : Only B a (w.setCell ⟨B, o, none⟩ u) :=
  h.trans ⟨rfl, rfl, rfl, by simp [World.setCell], fun k hk hB => Below.heap_setCell _ _ _ _ hB⟩
theorem Only.alloc {B : Nat} {a w : World} (h : Only B a w) (o : Obj) : Only B a (w.alloc o) :=
  h.trans ⟨rfl, rfl, rfl, by simp, fun k hk _ => Below.heap_alloc _ _ _ hk⟩
theorem Only.below {B : Nat} {w w' : World} (h : Only B w w') (N : Nat) (hN : N ≤ B) (hs : N ≤ w.heap.size) : Below N w w' :=
  ⟨h.os, h.tape, h.output, h.size, fun k hk => h.block k (by omega) (by omega)⟩
theorem Only.cell {B : Nat} {w w' : World} (h : Only B w w') {p : Addr} {v : Value} (hp : p.block ≠ B) (hc : w.cell? p = some v) : w'.cell? p = some v := by
  have hlt : p.block < w.heap.size := by
    rcases Nat.lt_or_ge p.block w.heap.size with h' | h'
    · exact h'
    · simp [World.cell?, Array.getElem?_eq_none h'] at hc
  rw [World.cell?_of_block (w := w) (h.block p.block hlt hp)]; exact hc
theorem Only.of_below {B : Nat} {w w' : World} (h : Below w.heap.size w w') : Only B w w' := ⟨h.os, h.tape, h.output, h.size, fun k hk _ => h.block k hk⟩
theorem Only.of_grown {g : Nat} {w w' : World} (h : w.grownBy w' (some g)) : Only g w w' := ⟨h.os, h.tape, h.output, h.size, fun k hk hg => h.block k hk (by simpa using hg)⟩
theorem grown_below0 {w w' : World} {row : Option Nat} (h : w.grownBy w' row) (hr : ∀ k, row = some k → w.heap.size ≤ k) : Below w.heap.size w w' :=
  ⟨h.os, h.tape, h.output, h.size, fun k hk => h.block k hk (fun e => by have := hr k e.symm; omega)⟩
theorem grown_belowN {w w' : World} {row : Option Nat} {N : Nat} (h : w.grownBy w' row) (hN : N ≤ w.heap.size) (hr : ∀ k, row = some k → N ≤ k) : Below N w w' :=
  ⟨h.os, h.tape, h.output, h.size, fun k hk => h.block k (by omega) (fun e => by have := hr k e.symm; omega)⟩
theorem cell_lt {w : World} {p : Addr} {v : Value} (hc : w.cell? p = some v) : p.block < w.heap.size := by
  rcases Nat.lt_or_ge p.block w.heap.size with h' | h'
  · exact h'
  · simp [World.cell?, Array.getElem?_eq_none h'] at hc
theorem below_drewN {N : Nat} {a w : World} (h : Below N a w) (n : Nat) : Below N a (w.drewN n) := ⟨h.os, h.tape, h.output, h.size, h.block⟩
/-- bytes and ints as cells -/
def bv (l : List UInt8) : List Value := l.map fun x => Value.int .u8 x.toNat
def iv (l : List Int) : List Value := l.map (Value.int .i64)
@[simp] theorem bv_length (l : List UInt8) : (bv l).length = l.length := by simp [bv]
@[simp] theorem iv_length (l : List Int) : (iv l).length = l.length := by simp [iv]
theorem bv_append (k l : List UInt8) : bv (k ++ l) = bv k ++ bv l := by simp [bv]
theorem iv_append (k l : List Int) : iv (k ++ l) = iv k ++ iv l := by simp [iv]
theorem bv_cell : ∀ (l : List UInt8), ∀ u ∈ bv l, u.oneCell' = true := by
  intro l u hu
  simp only [bv, List.mem_map] at hu
  obtain ⟨x, _, rfl⟩ := hu
  rfl
theorem iv_cell : ∀ (l : List Int), ∀ u ∈ iv l, u.oneCell' = true := by
  intro l u hu
  simp only [iv, List.mem_map] at hu
  obtain ⟨x, _, rfl⟩ := hu
  rfl
/-- a slice whose elements read as xs (its address whatever where it is empty) -/
def Reads (w : World) (v : Value) (xs : List Value) : Prop :=
  ∃ a cap, v = .slice a xs.length cap ∧ ∀ j (h : j < xs.length), ∃ b o, a = some ⟨b, o, none⟩ ∧ w.cell? ⟨b, o + j, none⟩ = some xs[j]
theorem Reads.below {w w' : World} {v : Value} {xs : List Value} (h : Reads w v xs) (hb : Below w.heap.size w w') : Reads w' v xs := by
  obtain ⟨a, cap, rfl, hc⟩ := h
  refine ⟨a, cap, rfl, fun j hj => ?_⟩
  obtain ⟨b, o, ha, hcl⟩ := hc j hj
  exact ⟨b, o, ha, by rw [hb.cell (p := ⟨b, o + j, none⟩) (cell_lt hcl)]; exact hcl⟩
theorem Reads.only {w w' : World} {v : Value} {xs : List Value} {g : Nat} (h : Reads w v xs) (ho : Only g w w') (hg : v.ownBlock ≠ some g) : Reads w' v xs := by
  obtain ⟨a, cap, rfl, hc⟩ := h
  refine ⟨a, cap, rfl, fun j hj => ?_⟩
  obtain ⟨b, o, rfl, hcl⟩ := hc j hj
  exact ⟨b, o, rfl, ho.cell (by simpa [Value.ownBlock] using hg) hcl⟩
/-- a slice that is nil and empty, or stands at a plain address and reads as xs -/
def Slc (w : World) (v : Value) (xs : List Value) : Prop :=
  (v = .slice none 0 0 ∧ xs = []) ∨ ∃ b o cap, v = .slice (some ⟨b, o, none⟩) xs.length cap ∧ ∀ j u, xs[j]? = some u → w.cell? ⟨b, o + j, none⟩ = some u
theorem Slc.reads {w : World} {v : Value} {xs : List Value} (h : Slc w v xs) : Reads w v xs := by
  rcases h with ⟨rfl, rfl⟩ | ⟨b, o, cap, rfl, hc⟩
  · exact ⟨none, 0, rfl, fun j hj => absurd hj (by simp)⟩
  · exact ⟨_, cap, rfl, fun j hj => ⟨b, o, rfl, hc j _ (List.getElem?_eq_getElem hj)⟩⟩
theorem Slc.below {w w' : World} {v : Value} {xs : List Value} (h : Slc w v xs) (hb : Below w.heap.size w w') : Slc w' v xs := by
  rcases h with h | ⟨b, o, cap, rfl, hc⟩
  · exact .inl h
  · refine .inr ⟨b, o, cap, rfl, fun j u hu => ?_⟩
    have hcl := hc j u hu
    rw [hb.cell (p := ⟨b, o + j, none⟩) (cell_lt hcl)]; exact hcl
theorem own_slc {w : World} {B E : Nat} {v : Value} {xs : List Value} {n : Nat} (h : w.ownsRow B E 1 v n xs) : Slc w v xs := by
  have hl := h.1
  rcases h.2 with ⟨rfl, rfl⟩ | ⟨g, cap, cur, rfl, hb, hg, hnc, hcm, hcs, htake⟩
  · exact .inl ⟨rfl, by simpa using hl⟩
  · refine .inr ⟨g, 0, cap, by rw [hl]; simp, fun j u hu => ?_⟩
    rw [cell_of_row w g (0 + j) cur E (0, 0) hg]
    rw [← htake, List.getElem?_take] at hu
    split at hu
    · simpa using hu
    · cases hu
theorem own_reads {w : World} {B E : Nat} {v : Value} {xs : List Value} {n : Nat} (h : w.ownsRow B E 1 v n xs) : Reads w v xs := (own_slc h).reads
theorem own_below {w w' : World} {B E n : Nat} {v : Value} {xs : List Value} (h : w.ownsRow B E 1 v n xs) (hb : Below w.heap.size w w') : w'.ownsRow B E 1 v n xs := by
  refine h.kept (row := none) ⟨hb.os, hb.tape, hb.output, hb.size, fun k hk _ => hb.block k hk⟩ ?_
  cases v.ownBlock with
  | none => exact .inl rfl
  | some g => exact .inr (by simp)
theorem own_only {w w' : World} {B E n g : Nat} {v : Value} {xs : List Value} (h : w.ownsRow B E 1 v n xs) (ho : Only g w w') (hg : v.ownBlock ≠ some g) : w'.ownsRow B E 1 v n xs :=
  h.kept (row := some g) ⟨ho.os, ho.tape, ho.output, ho.size, fun k hk hne => ho.block k hk (fun e => hne (by rw [e]))⟩ (.inr hg)
theorem own_ne {w w' : World} {B E n E' n' : Nat} {u v : Value} {xs ys : List Value} (h : w.ownsRow B E 1 u n xs) (k : w'.ownsRow w.heap.size E' 1 v n' ys) : ∀ g, v.ownBlock = some g → u.ownBlock ≠ some g := by
  intro g hg hu
  have h1 := (h.lt g hu).2
  have h2 := (k.lt g hg).1
  omega
/-- a slice at a plain address that reads as xs -/
def Sl (w : World) (v : Value) (xs : List Value) : Prop := ∃ b o cap, v = .slice (some ⟨b, o, none⟩) xs.length cap ∧ ∀ j u, xs[j]? = some u → w.cell? ⟨b, o + j, none⟩ = some u
theorem Sl.below {w w' : World} {v : Value} {xs : List Value} (h : Sl w v xs) (hb : Below w.heap.size w w') : Sl w' v xs := by
  obtain ⟨b, o, cap, rfl, hc⟩ := h
  refine ⟨b, o, cap, rfl, fun j u hu => ?_⟩
  have hcl := hc j u hu
  rw [hb.cell (p := ⟨b, o + j, none⟩) (cell_lt hcl)]; exact hcl
theorem Sl.reads {w : World} {v : Value} {xs : List Value} (h : Sl w v xs) : Reads w v xs := Slc.reads (.inr h)
theorem own_sl {w : World} {B E : Nat} {v : Value} {xs : List Value} {n : Nat} (h : w.ownsRow B E 1 v n xs) (hv : v ≠ .slice none 0 0) : Sl w v xs := by
  rcases own_slc h with ⟨rfl, _⟩ | h
  · exact absurd rfl hv
  · exact h
theorem only_below {N g : Nat} {a w w' : World} (hb : Below N a w) (ho : Only g w w') (hg : N ≤ g) (hN : N ≤ w.heap.size) : Below N a w' := hb.trans (ho.below N hg hN)
/-- an elder row stays behind a turn of a younger one -/
theorem own_old {w w' : World} {B E n g : Nat} {v : Value} {xs : List Value} (h : w.ownsRow B E 1 v n xs) (ho : Only g w w') (hlt : ∀ k, v.ownBlock = some k → k < g) : w'.ownsRow B E 1 v n xs :=
  own_only h ho (fun e => by have := hlt g e; omega)
/-- a younger row stays behind a turn of an elder one -/
theorem own_new {w w' : World} {B E n g : Nat} {u v : Value} {xs : List Value} (h : w.ownsRow B E 1 v n xs) (ho : Only g w w') (hg : u.ownBlock = some g ∨ w.heap.size ≤ g) (hu : ∀ k, u.ownBlock = some k → k < B) : w'.ownsRow B E 1 v n xs :=
  own_only h ho (fun e => by
    have h1 := h.lt g e
    rcases hg with hg | hg
    · have := hu g hg; omega
    · omega)
theorem bv_getElem (l : List UInt8) (j : Nat) (h : j < (bv l).length) : (bv l)[j] = .int .u8 ((l[j]'(by simpa using h)).toNat) := by simp [bv]
theorem reads_byte {w : World} {v : Value} {l : List UInt8} (h : Reads w v (bv l)) : ∃ a cap, v = .slice a l.length cap ∧ ∀ j (hj : j < l.length), ∃ b o, a = some ⟨b, o, none⟩ ∧ w.cell? ⟨b, o + j, none⟩ = some (.int .u8 (l[j]).toNat) := by
  obtain ⟨a, cap, rfl, hc⟩ := h
  refine ⟨a, cap, by rw [bv_length], fun j hj => ?_⟩
  obtain ⟨b, o, ha, hcl⟩ := hc j (by simpa using hj)
  exact ⟨b, o, ha, by rw [hcl, bv_getElem]⟩
theorem iv_getElem (l : List Int) (j : Nat) (h : j < (iv l).length) : (iv l)[j] = .int .i64 (l[j]'(by simpa using h)) := by simp [iv]
theorem reads_int {w : World} {v : Value} {l : List Int} (h : Reads w v (iv l)) : ∃ a cap, v = .slice a l.length cap ∧ ∀ j (hj : j < l.length), ∃ b o, a = some ⟨b, o, none⟩ ∧ w.cell? ⟨b, o + j, none⟩ = some (.int .i64 l[j]) := by
  obtain ⟨a, cap, rfl, hc⟩ := h
  refine ⟨a, cap, by rw [iv_length], fun j hj => ?_⟩
  obtain ⟨b, o, ha, hcl⟩ := hc j (by simpa using hj)
  exact ⟨b, o, ha, by rw [hcl, iv_getElem]⟩
theorem below_step {N E n : Nat} {w w1 w2 : World} {o : Obj} {v : Value} {xs : List Value} (hb : Below N w w1) (hN : N ≤ w1.heap.size) (hown : w1.ownsRow N E 1 v n xs) (hg : (w1.alloc o).grownBy w2 v.ownBlock) : Below N w w2 :=
  (hb.alloc hN o).trans (grown_belowN hg (by simp; omega) (fun k hk => (hown.lt k hk).1))
theorem below_new {w w2 : World} {o : Obj} {v : Value} (hv : v.ownBlock = some w.heap.size) (hg : (w.alloc o).grownBy w2 v.ownBlock) : Below w.heap.size w w2 :=
  ((Below.refl w.heap.size w).alloc (Nat.le_refl _) o).trans (grown_belowN hg (by simp) (fun k hk => by rw [hv] at hk; injection hk with hk; omega))
theorem below_box (w : World) (o : Obj) : Below w.heap.size w (w.alloc o) := (Below.refl _ _).alloc (Nat.le_refl _) _
theorem relCall {P : Program} {f : FuncId} {args : Array Value} {v : Value} {N : Nat} {W0 : World} (h : ∀ W, Calls P f args W fun e w' => e = .returned v ∧ Below W.heap.size W w') :
    ∀ W, Below N W0 W → N ≤ W.heap.size → Calls P f args W fun e w' => e = .returned v ∧ Below N W0 w' ∧ N ≤ w'.heap.size :=
  fun W hb hN => (h W).mono fun _ _ ⟨he, hb2⟩ => ⟨he, hb.trans (hb2.mono hN), Nat.le_trans hN hb2.size⟩
end Go.Proofs.YtnikcgmbkmbloaaGreatDoor
/- A row of the call's own: facts. -/
namespace Go.Proofs.YtnikcgmbkmbloaaGreatDoor
open Go.RowKit
theorem byteInfo' : (Tryz.prog.info? 5).map (fun i => (i.zero, i.size, i.bytes)) = some (some (.int .u8 0), 1, 1) := by kernel_rfl
theorem addr_add (b o j : Nat) : (⟨b, o, none⟩ : Addr).add j = ⟨b, o + j, none⟩ := by unfold Addr.add; split <;> simp_all
theorem own_nonnil {w : World} {B E n : Nat} {v : Value} {xs : List Value} (h : w.ownsRow B E 1 v n xs) (hn : 0 < n) : v ≠ .slice none 0 0 := by
  rcases h.2 with ⟨_, h0⟩ | ⟨g, cap, cur, rfl, _⟩
  · omega
  · intro e; cases e
/-- what PutRune hands on: a row of its own that holds the bytes l -/
def Fresh (w : World) (l : List UInt8) (e : Ending) (w' : World) : Prop := ∃ v', e = .returned v' ∧ v' ≠ .slice none 0 0 ∧ w'.ownsRow w.heap.size 5 1 v' l.length (bv l) ∧ Below w.heap.size w w'
theorem own_take {w : World} {B E n cap g k : Nat} {xs : List Value} (h : w.ownsRow B E 1 (.slice (some ⟨g, 0, none⟩) n cap) n xs) (hk : k ≤ n) : w.ownsRow B E 1 (.slice (some ⟨g, 0, none⟩) k cap) k (xs.take k) := by
  have hl := h.1
  refine ⟨by rw [List.length_take]; omega, ?_⟩
  rcases h.2 with ⟨h, _⟩ | ⟨g', cap', cur, h, hb, hg, hnc, hcm, hcs, htake⟩
  · cases h
  · injection h with h1 h2 h3
    injection h1 with h1
    injection h1 with h1
    subst h1
    subst h3
    refine .inr ⟨g, cap, cur, rfl, hb, hg, by omega, hcm, hcs, ?_⟩
    rw [← htake, List.take_take]
    congr 1
    omega
theorem bv_take (l : List UInt8) (k : Nat) : (bv l).take k = bv (l.take k) := by simp [bv, List.map_take]
theorem bv_set (l : List UInt8) (k : Nat) (z : Int) (h0 : 0 ≤ z) (h1 : z < 256) : (bv l).set k (.int .u8 z) = bv (l.set k (UInt8.ofNat z.toNat)) := by
  unfold bv
  rw [List.map_set]
  congr 2
  have : (UInt8.ofNat z.toNat).toNat = z.toNat % 256 := by simp
  rw [this]
  omega
theorem own_shape {w : World} {B E n : Nat} {v : Value} {xs : List Value} (h : w.ownsRow B E 1 v n xs) (hv : v ≠ .slice none 0 0) : ∃ g cap, v = .slice (some ⟨g, 0, none⟩) n cap ∧ B ≤ g ∧ n ≤ cap ∧ cap ≤ maxLen := by
  rcases h.2 with ⟨h, _⟩ | ⟨g, cap, cur, rfl, hb, _, h1, h2, _⟩
  · exact absurd h hv
  · exact ⟨g, cap, rfl, hb, h1, h2⟩
theorem own_base {w : World} {B B' E n : Nat} {v : Value} {xs : List Value} (h : w.ownsRow B E 1 v n xs) (hB : B' ≤ B) : w.ownsRow B' E 1 v n xs := by
  refine ⟨h.1, ?_⟩
  rcases h.2 with h | ⟨g, cap, cur, hv, hb, rest⟩
  · exact .inl h
  · exact .inr ⟨g, cap, cur, hv, Nat.le_trans hB hb, rest⟩
theorem own_cells {w : World} {B E n cap g : Nat} {xs : List Value} (h : w.ownsRow B E 1 (.slice (some ⟨g, 0, none⟩) n cap) n xs) (j : Nat) (u : Value) (hu : xs[j]? = some u) : w.cell? ⟨g, 0 + j, none⟩ = some u := by
  have h1 := (List.getElem?_eq_some_iff.1 hu).1
  have h2 := h.1
  rw [Nat.zero_add, h.cellAt j (by omega)]
  exact hu
theorem sub_reads {w : World} {g n c off len c' j k : Nat} {l : List UInt8} (h : Reads w (.slice (some ⟨g, 0, none⟩) n c) (bv l)) (hjk : j + k ≤ l.length) (ho : off = j) (hl : len = k) : Reads w (.slice (some ⟨g, off, none⟩) len c') (bv ((l.drop j).take k)) := by
  subst ho hl
  refine ⟨_, c', by rw [bv_length, List.length_take, List.length_drop, Nat.min_eq_left (by omega)], fun i hi => ⟨g, off, rfl, ?_⟩⟩
  have hi' : i < len := by rw [bv_length, List.length_take, List.length_drop] at hi; omega
  obtain ⟨a, c2, e, hc⟩ := h
  obtain ⟨b, o, ha, hcl⟩ := hc (off + i) (by rw [bv_length]; omega)
  injection e with e1 e2 e3
  rw [ha] at e1
  injection e1 with e1
  injection e1 with e1 e4
  subst e1
  subst e4
  rw [Nat.zero_add] at hcl
  rw [hcl]
  simp [bv]
theorem slc_sl {w : World} {v : Value} {xs : List Value} (h : Sl w v xs) : Slc w v xs := .inr h
theorem below_alloc (w : World) (o : Obj) : Below w.heap.size w (w.alloc o) := (Below.refl w.heap.size w).alloc (Nat.le_refl _) o
end Go.Proofs.YtnikcgmbkmbloaaGreatDoor
/- Rows of one's own in general: what stays. -/
namespace Go.Proofs.YtnikcgmbkmbloaaGreatDoor
open Go.RowKit
theorem own_heap {w w' : World} {B E c n : Nat} {v : Value} {xs : List Value} (h : w.ownsRow B E c v n xs) (hg : ∀ g, v.ownBlock = some g → w'.heap[g]? = w.heap[g]?) : w'.ownsRow B E c v n xs := by
  refine ⟨h.1, ?_⟩
  rcases h.2 with h | ⟨g, cap, cur, rfl, hb, hh, rest⟩
  · exact .inl h
  · exact .inr ⟨g, cap, cur, rfl, hb, (hg g rfl).trans hh, rest⟩
theorem own_base' {w : World} {B B' E c n : Nat} {v : Value} {xs : List Value} (h : w.ownsRow B E c v n xs) (hB : B' ≤ B) : w.ownsRow B' E c v n xs := by
  refine ⟨h.1, ?_⟩
  rcases h.2 with h | ⟨g, cap, cur, hv, hb, rest⟩
  · exact .inl h
  · exact .inr ⟨g, cap, cur, hv, Nat.le_trans hB hb, rest⟩
theorem own_cap {w : World} {B E c n : Nat} {a : Option Addr} {m cap : Nat} {xs : List Value} (h : w.ownsRow B E c (.slice a m cap) n xs) : m = n ∧ n ≤ cap ∧ cap ≤ maxLen := by
  rcases h.2 with ⟨h1, h0⟩ | ⟨g, cap', cur, hv, _, _, h1, h2, _⟩
  · injection h1 with e1 e2 e3
    unfold maxLen; omega
  · injection hv with e1 e2 e3
    omega
theorem bset {N B o : Nat} {w w' : World} {u : Value} (h : Below N w w') (hB : N ≤ B) : Below N w (w'.setCell ⟨B, o, none⟩ u) := h.setCell hB _
theorem keep_below {w w' : World} {p : Addr} {v : Value} (hb : Below w.heap.size w w') (h : w.cell? p = some v) : w'.cell? p = some v := (hb.cell (cell_lt h)).trans h
theorem below_tr {w0 w w' : World} (hb : Below w.heap.size w w') (hB : Below w0.heap.size w0 w) : Below w0.heap.size w0 w' := hB.trans (hb.mono hB.size)
/-- a box of one value -/
theorem vbox (w : World) (o : Obj) : Below w.heap.size w (w.alloc o) := (Below.refl w.heap.size w).alloc (Nat.le_refl _) o
end Go.Proofs.YtnikcgmbkmbloaaGreatDoor
/- Spaces and signs of a text: plain facts. No program. -/
namespace Go.Proofs.YtnikcgmbkmbloaaGreatDoor
open Go
def isSp (c : UInt8) : Bool := ([9, 10, 13, 32] : List UInt8).contains c
def isSg (c : UInt8) : Bool := ([123, 125, 91, 93, 58, 44] : List UInt8).contains c
def atSp (l : List UInt8) (i : Nat) : Bool := match l[i]? with
  | some c => isSp c
  | none => false
/-- the place behind the spaces from i on -/
def skE (l : List UInt8) (i : Nat) : Nat := i + ((l.drop i).takeWhile isSp).length
theorem atSp_get {l : List UInt8} {i : Nat} (h : i < l.length) : atSp l i = isSp l[i] := by unfold atSp; rw [List.getElem?_eq_getElem h]
theorem atSp_out {l : List UInt8} {i : Nat} (h : l.length ≤ i) : atSp l i = false := by unfold atSp; rw [List.getElem?_eq_none h]
theorem atSp_lt {l : List UInt8} {i : Nat} (h : atSp l i = true) : i < l.length := by
  rcases Nat.lt_or_ge i l.length with g | g
  · exact g
  · rw [atSp_out g] at h; cases h
theorem skE_step {l : List UInt8} {i : Nat} (h : atSp l i = true) : skE l i = skE l (i + 1) := by
  have hl := atSp_lt h
  unfold skE
  rw [List.drop_eq_getElem_cons hl, List.takeWhile_cons, if_pos (by rw [← atSp_get hl]; exact h)]
  simp only [List.length_cons]; omega
theorem skE_stop {l : List UInt8} {i : Nat} (h : atSp l i = false) : skE l i = i := by
  unfold skE
  rcases Nat.lt_or_ge i l.length with g | g
  · rw [List.drop_eq_getElem_cons g, List.takeWhile_cons, if_neg (by rw [← atSp_get g, h]; decide)]; rfl
  · rw [List.drop_eq_nil_of_le g]; rfl
theorem skE_ge (l : List UInt8) (i : Nat) : i ≤ skE l i := by unfold skE; omega
theorem skE_le {l : List UInt8} {i : Nat} (h : i ≤ l.length) : skE l i ≤ l.length := by
  unfold skE
  have := (List.takeWhile_sublist isSp (l := l.drop i)).length_le
  simp at this; omega
theorem skE_end (l : List UInt8) (i : Nat) : atSp l (skE l i) = false := by
  generalize hn : l.length - i = n
  induction n generalizing i with
  | zero => rw [skE_stop (atSp_out (by omega))]; exact atSp_out (by omega)
  | succ n ih =>
    cases hd : atSp l i
    · rw [skE_stop hd]; exact hd
    · rw [skE_step hd]; exact ih (i + 1) (by omega)
/-- Skip, at any int -/
def skT (l : List UInt8) (a : Int) : Int := if 0 ≤ a then (skE l a.toNat : Nat) else a
end Go.Proofs.YtnikcgmbkmbloaaGreatDoor
/- Plain facts on decimal numerals: what a numeral spells is the number; strconv's parse of a numeral. No program. -/
namespace Go.Proofs.YtnikcgmbkmbloaaGreatDoor
open Go
def isDig (c : UInt8) : Prop := 48 ≤ c.toNat ∧ c.toNat ≤ 57
def decVal (acc : Nat) : List UInt8 → Nat
  | [] => acc
  | c :: r => decVal (acc * 10 + (c.toNat - 48)) r
theorem decVal_snoc (l : List UInt8) (c : UInt8) : ∀ acc, decVal acc (l ++ [c]) = decVal acc l * 10 + (c.toNat - 48) := by
  induction l with
  | nil => intro acc; rfl
  | cons x r ih => intro acc; exact ih _
theorem dig_toNat (k : Nat) (h : k < 10) : (UInt8.ofNat (48 + k)).toNat = 48 + k := by
  rw [UInt8.toNat_ofNat']; omega
theorem decDigits_digs (u : Nat) : ∀ c ∈ Lib.decDigits u, isDig c := by
  induction u using Nat.strongRecOn with
  | _ u ih =>
    intro c hc
    rw [Lib.decDigits] at hc
    by_cases h : u < 10
    · rw [dif_pos h, List.mem_singleton] at hc
      subst hc
      unfold isDig
      rw [dig_toNat u h]; omega
    · rw [dif_neg h, List.mem_append] at hc
      rcases hc with hc | hc
      · exact ih (u / 10) (by omega) c hc
      · rw [List.mem_singleton] at hc
        subst hc
        unfold isDig
        rw [dig_toNat _ (Nat.mod_lt _ (by omega))]; omega
theorem decDigits_val (u : Nat) : decVal 0 (Lib.decDigits u) = u := by
  induction u using Nat.strongRecOn with
  | _ u ih =>
    rw [Lib.decDigits]
    by_cases h : u < 10
    · rw [dif_pos h]
      show 0 * 10 + ((UInt8.ofNat (48 + u)).toNat - 48) = u
      rw [dig_toNat u h]; omega
    · rw [dif_neg h, decVal_snoc, ih (u / 10) (by omega), dig_toNat _ (Nat.mod_lt _ (by omega))]
      omega
theorem decDigits_ne (u : Nat) : Lib.decDigits u ≠ [] := by
  rw [Lib.decDigits]
  by_cases h : u < 10
  · rw [dif_pos h]; simp
  · rw [dif_neg h]; simp
theorem decVal_ge (l : List UInt8) : ∀ acc, acc ≤ decVal acc l := by
  induction l with
  | nil => intro acc; exact Nat.le_refl _
  | cons c r ih => intro acc; have := ih (acc * 10 + (c.toNat - 48)); show acc ≤ decVal _ r; omega
theorem decVal_lt (l : List UInt8) (hl : ∀ c ∈ l, isDig c) : ∀ acc, decVal acc l < (acc + 1) * 10 ^ l.length := by
  induction l with
  | nil => intro acc; show acc < (acc + 1) * 10 ^ 0; omega
  | cons c r ih =>
    intro acc
    have h1 := ih (fun x hx => hl x (List.mem_cons_of_mem _ hx)) (acc * 10 + (c.toNat - 48))
    have h2 := hl c List.mem_cons_self
    unfold isDig at h2
    show decVal _ r < (acc + 1) * 10 ^ (r.length + 1)
    have h3 : (acc * 10 + (c.toNat - 48) + 1) * 10 ^ r.length ≤ (acc + 1) * 10 * 10 ^ r.length := Nat.mul_le_mul_right _ (by omega)
    have h4 : (acc + 1) * 10 * 10 ^ r.length = (acc + 1) * 10 ^ (r.length + 1) := by rw [Nat.pow_succ, Nat.mul_assoc, Nat.mul_comm 10]
    omega
theorem parse_val (l : List UInt8) (hl : ∀ c ∈ l, isDig c) : ∀ acc, decVal acc l < 18446744073709551616 → Lib.parseUint10 acc l = .ok (decVal acc l) := by
  induction l with
  | nil => intro acc _; rfl
  | cons c r ih =>
    intro acc h
    have h2 := hl c List.mem_cons_self
    unfold isDig at h2
    have h3 := decVal_ge r (acc * 10 + (c.toNat - 48))
    have h4 : decVal acc (c :: r) = decVal (acc * 10 + (c.toNat - 48)) r := rfl
    rw [h4] at h ⊢
    rw [Lib.parseUint10, if_pos h2, if_neg (by omega), if_neg (by omega)]
    exact ih (fun x hx => hl x (List.mem_cons_of_mem _ hx)) _ h
theorem dec_head (u : Nat) : ∃ c r, Lib.decDigits u = c :: r ∧ isDig c := by
  cases h : Lib.decDigits u with
  | nil => exact absurd h (decDigits_ne u)
  | cons c r => exact ⟨c, r, rfl, decDigits_digs u c (by rw [h]; exact List.mem_cons_self)⟩
theorem atoi_itoa (n : Int) (h0 : -1000000000000000 ≤ n) (h1 : n ≤ 1000000000000000) : Lib.atoiAll (Lib.itoa n) = .ok n := by
  unfold Lib.itoa
  by_cases hn : n < 0
  · rw [if_pos hn]
    have hv := decDigits_val n.natAbs
    have hp := parse_val _ (decDigits_digs n.natAbs) 0 (by omega)
    unfold Lib.atoiAll
    have e1 : (45 : UInt8).toNat = 45 := rfl
    simp only [e1, or_true, if_true]
    unfold Lib.parseMag
    rw [if_neg (decDigits_ne _), hp, hv]
    simp only [not_true_eq_false, false_and, if_false, true_and, if_true]
    rw [if_neg (by omega)]
    congr 1
    omega
  · rw [if_neg hn]
    have hv := decDigits_val n.toNat
    have hp := parse_val _ (decDigits_digs n.toNat) 0 (by omega)
    obtain ⟨c, r, hc, hd⟩ := dec_head n.toNat
    unfold isDig at hd
    have hne := decDigits_ne n.toNat
    rw [hc] at hv hp hne ⊢
    unfold Lib.atoiAll
    have e1 : ¬ c.toNat = 43 := by omega
    have e2 : ¬ c.toNat = 45 := by omega
    simp only [e1, e2, or_self, if_false]
    unfold Lib.parseMag
    rw [if_neg hne, hp, hv]
    simp only [not_false_eq_true, true_and, false_and, if_false]
    rw [if_neg (by omega)]
    congr 1
    omega

/-- the integer that s spells as the numeral, if it is in the range -/
def pnOk (l : List UInt8) : Bool := match Lib.atoiAll l with
  | .ok n => decide (-1000000000000000 ≤ n) && decide (n ≤ 1000000000000000) && (Lib.itoa n == l)
  | _ => false
def pnVal (l : List UInt8) : Int := if pnOk l = true then (match Lib.atoiAll l with | .ok n => n | _ => 0) else 0
theorem pn_of (n : Int) (h0 : -1000000000000000 ≤ n) (h1 : n ≤ 1000000000000000) : pnOk (Lib.itoa n) = true ∧ pnVal (Lib.itoa n) = n := by
  have h := atoi_itoa n h0 h1
  have h2 : pnOk (Lib.itoa n) = true := by
    unfold pnOk; rw [h]; simp [h0, h1]
  refine ⟨h2, ?_⟩
  unfold pnVal
  rw [if_pos h2, h]
theorem pn_to (l : List UInt8) (h : pnOk l = true) : ∃ n, Lib.itoa n = l ∧ -1000000000000000 ≤ n ∧ n ≤ 1000000000000000 := by
  unfold pnOk at h
  cases ha : Lib.atoiAll l with
  | ok n => rw [ha] at h; simp at h; exact ⟨n, h.2, h.1.1, h.1.2⟩
  | _ => rw [ha] at h; cases h
theorem pn_no (l : List UInt8) (h : ¬ ∃ n, Lib.itoa n = l ∧ -1000000000000000 ≤ n ∧ n ≤ 1000000000000000) : pnOk l = false ∧ pnVal l = 0 := by
  have h2 : pnOk l = false := by
    cases hk : pnOk l with
    | false => rfl
    | true => exact absurd (pn_to l hk) h
  refine ⟨h2, ?_⟩
  unfold pnVal
  rw [if_neg (by rw [h2]; decide)]
/-- the shape of a numeral in the range: a sign, then 1 to 16 digits that spell its absolute value -/
theorem itoa_shape (n : Int) (h0 : -1000000000000000 ≤ n) (h1 : n ≤ 1000000000000000) :
    (n < 0 ∧ ∃ r, Lib.itoa n = 45 :: r ∧ (∀ c ∈ r, isDig c) ∧ 1 ≤ r.length ∧ r.length ≤ 16 ∧ (decVal 0 r : Int) = -n) ∨
    (0 ≤ n ∧ (∀ c ∈ Lib.itoa n, isDig c) ∧ 1 ≤ (Lib.itoa n).length ∧ (Lib.itoa n).length ≤ 16 ∧ (decVal 0 (Lib.itoa n) : Int) = n) := by
  have hlen : ∀ u : Nat, u ≤ 1000000000000000 → 1 ≤ (Lib.decDigits u).length ∧ (Lib.decDigits u).length ≤ 16 := by
    intro u hu
    refine ⟨List.length_pos_iff.2 (decDigits_ne u), ?_⟩
    have key : ∀ k (v : Nat), v < 10 ^ (k + 1) → (Lib.decDigits v).length ≤ k + 1 := by
      intro k
      induction k with
      | zero => intro v hv; rw [Lib.decDigits, dif_pos (by omega)]; simp
      | succ k ih =>
        intro v hv
        rw [Lib.decDigits]
        by_cases h : v < 10
        · rw [dif_pos h]; simp
        · rw [dif_neg h, List.length_append]
          have := ih (v / 10) (by rw [Nat.pow_succ] at hv; omega)
          simp only [List.length_singleton]
          omega
    exact key 15 u (by omega)
  unfold Lib.itoa
  by_cases hn : n < 0
  · refine .inl ⟨hn, Lib.decDigits n.natAbs, by rw [if_pos hn], decDigits_digs _, (hlen _ (by omega)).1, (hlen _ (by omega)).2, ?_⟩
    rw [decDigits_val]; omega
  · rw [if_neg hn]
    refine .inr ⟨by omega, decDigits_digs _, (hlen _ (by omega)).1, (hlen _ (by omega)).2, ?_⟩
    rw [decDigits_val]; omega
end Go.Proofs.YtnikcgmbkmbloaaGreatDoor
/- How a number's text is taken apart, as plain functions on bytes and places; what of it stays when the text is cut. No program. -/
namespace Go.Proofs.YtnikcgmbkmbloaaGreatDoor
open Go
def isD (c : UInt8) : Bool := decide (48 ≤ c.toNat ∧ c.toNat ≤ 57)
/-- The place behind the digits from i on. -/
def dEnd (l : List UInt8) (i : Nat) : Nat := i + ((l.drop i).takeWhile isD).length
def atD (l : List UInt8) (i : Nat) : Bool := match l[i]? with
  | some c => isD c
  | none => false
def atC (l : List UInt8) (i : Nat) (c : UInt8) : Bool := l[i]? == some c
theorem atD_lt {l : List UInt8} {i : Nat} (h : atD l i = true) : i < l.length := by
  unfold atD at h
  rcases Nat.lt_or_ge i l.length with g | g
  · exact g
  · rw [List.getElem?_eq_none g] at h; cases h
theorem atC_lt {l : List UInt8} {i : Nat} {c : UInt8} (h : atC l i c = true) : i < l.length := by
  unfold atC at h
  rcases Nat.lt_or_ge i l.length with g | g
  · exact g
  · rw [List.getElem?_eq_none g] at h; simp at h
theorem atD_get {l : List UInt8} {i : Nat} (h : i < l.length) : atD l i = isD l[i] := by unfold atD; rw [List.getElem?_eq_getElem h]
theorem atC_get {l : List UInt8} {i : Nat} {c : UInt8} (h : i < l.length) : atC l i c = (l[i] == c) := by
  unfold atC; rw [List.getElem?_eq_getElem h]; simp
theorem atD_out {l : List UInt8} {i : Nat} (h : l.length ≤ i) : atD l i = false := by unfold atD; rw [List.getElem?_eq_none h]
theorem atC_out {l : List UInt8} {i : Nat} {c : UInt8} (h : l.length ≤ i) : atC l i c = false := by unfold atC; rw [List.getElem?_eq_none h]; rfl
theorem dEnd_step {l : List UInt8} {i : Nat} (h : atD l i = true) : dEnd l i = dEnd l (i + 1) := by
  have hl := atD_lt h
  unfold dEnd
  rw [List.drop_eq_getElem_cons hl, List.takeWhile_cons, if_pos (by rw [← atD_get hl]; exact h)]
  simp only [List.length_cons]; omega
theorem dEnd_stop {l : List UInt8} {i : Nat} (h : atD l i = false) : dEnd l i = i := by
  unfold dEnd
  rcases Nat.lt_or_ge i l.length with g | g
  · rw [List.drop_eq_getElem_cons g, List.takeWhile_cons, if_neg (by rw [← atD_get g, h]; decide)]; rfl
  · rw [List.drop_eq_nil_of_le g]; rfl
theorem dEnd_ge (l : List UInt8) (i : Nat) : i ≤ dEnd l i := by unfold dEnd; omega
theorem dEnd_le {l : List UInt8} {i : Nat} (h : i ≤ l.length) : dEnd l i ≤ l.length := by
  unfold dEnd
  have := (List.takeWhile_sublist isD (l := l.drop i)).length_le
  simp at this; omega
theorem dEnd_eq {l : List UInt8} {i : Nat} : dEnd l i = i ↔ atD l i = false := by
  constructor
  · intro h
    cases hd : atD l i
    · rfl
    · have := dEnd_step hd; have := dEnd_ge l (i + 1); omega
  · exact dEnd_stop
theorem dEnd_end (l : List UInt8) (i : Nat) : atD l (dEnd l i) = false := by
  generalize hn : l.length - i = n
  induction n generalizing i with
  | zero => rw [dEnd_stop (atD_out (by omega))]; exact atD_out (by omega)
  | succ n ih =>
    cases hd : atD l i
    · rw [dEnd_stop hd]; exact hd
    · rw [dEnd_step hd]; exact ih (i + 1) (by omega)
theorem dEnd_in (l : List UInt8) (i j : Nat) (h0 : i ≤ j) (h1 : j < dEnd l i) : atD l j = true := by
  generalize hn : j - i = n
  induction n generalizing i with
  | zero =>
    obtain rfl : i = j := by omega
    cases hd : atD l i
    · rw [dEnd_stop hd] at h1; omega
    · rfl
  | succ n ih =>
    cases hd : atD l i
    · rw [dEnd_stop hd] at h1; omega
    · rw [dEnd_step hd] at h1; exact ih (i + 1) (by omega) h1 (by omega)
/-- s[i:j] -/
def cut (l : List UInt8) (i j : Nat) : List UInt8 := (l.drop i).take (j - i)
theorem cut_len {l : List UInt8} {i j : Nat} (h0 : i ≤ j) (h1 : j ≤ l.length) : (cut l i j).length = j - i := by unfold cut; simp; omega
theorem cut_nil (l : List UInt8) (i : Nat) : cut l i i = [] := by unfold cut; simp
theorem cut_get {l : List UInt8} {i j k : Nat} (h : k < (cut l i j).length) : (cut l i j)[k]? = l[i + k]? := by
  unfold cut at h ⊢
  simp at h
  rw [List.getElem?_take_of_lt (by omega), List.getElem?_drop]
theorem cut_digs {l : List UInt8} {i : Nat} : ∀ c ∈ cut l i (dEnd l i), isD c = true := by
  intro c hc
  obtain ⟨k, hk, hkc⟩ := List.getElem_of_mem hc
  have h1 := cut_get hk
  rw [List.getElem?_eq_getElem hk, hkc] at h1
  have hk2 : k < dEnd l i - i := by unfold cut at hk; simp at hk; omega
  have h2 := dEnd_in l i (i + k) (by omega) (by omega)
  unfold atD at h2
  rw [← h1] at h2
  exact h2
/-- What a number's text is taken apart into. -/
structure Parts where
  neg : Bool
  eneg : Bool
  whole : List UInt8
  frac : List UInt8
  exp : List UInt8
  next : Nat
  ok : Bool
def noParts (i : Nat) : Parts := ⟨false, false, [], [], [], i, false⟩
def partsE (l : List UInt8) (neg : Bool) (whole frac : List UInt8) (i : Nat) : Parts :=
  if (atC l i 101 || atC l i 69) = true then
    let j := if (atC l (i + 1) 43 || atC l (i + 1) 45) = true then i + 2 else i + 1
    if atD l j = true then ⟨neg, atC l (i + 1) 45, whole, frac, cut l j (dEnd l j), dEnd l j, true⟩ else noParts j
  else ⟨neg, false, whole, frac, [], i, true⟩
def partsF (l : List UInt8) (neg : Bool) (whole : List UInt8) (i : Nat) : Parts :=
  if atC l i 46 = true then
    if atD l (i + 1) = true then partsE l neg whole (cut l (i + 1) (dEnd l (i + 1))) (dEnd l (i + 1)) else noParts (i + 1)
  else partsE l neg whole [] i
def wEnd (l : List UInt8) (i : Nat) : Nat := if atC l i 48 = true then i + 1 else dEnd l i
def partsW (l : List UInt8) (neg : Bool) (i : Nat) : Parts := if atD l i = true then partsF l neg (cut l i (wEnd l i)) (wEnd l i) else noParts i
def parts (l : List UInt8) (i : Nat) : Parts := if atC l i 45 = true then partsW l true (i + 1) else partsW l false i
def lead (l : List UInt8) : List UInt8 := l.dropWhile (· == 48)
def sgnV (b : Bool) (n : Int) : Int := if b = true then -n else n
structure Num where
  n : Int
  x : Int
  next : Nat
  code : Nat
def numOf (p : Parts) : Num :=
  if p.ok = true then
    if (lead (p.whole ++ p.frac)).length ≤ 17 ∧ p.exp.length ≤ 3 then ⟨sgnV p.neg (decVal 0 (p.whole ++ p.frac)), sgnV p.eneg (decVal 0 p.exp) - p.frac.length, p.next, 0⟩ else ⟨0, 0, p.next, 2⟩
  else ⟨0, 0, p.next, 1⟩
def readN (l : List UInt8) (i : Nat) : Num := numOf (parts l i)
end Go.Proofs.YtnikcgmbkmbloaaGreatDoor
/- What the model's range test returns; small facts. -/
namespace Go.Proofs.YtnikcgmbkmbloaaGreatDoor
open Go.RowKit
theorem ret_int {k : IntKind} {a b : Int} (h : a = b) : Ending.returned (.int k a) = .returned (.int k b) := by rw [h]
theorem wf_le {n : Int} (h : (Lit.int .i64 n).wf = true) : -9223372036854775808 ≤ n ∧ n ≤ 9223372036854775807 := by
  have h2 : (decide (IntKind.i64.min ≤ n) && decide (n ≤ IntKind.i64.max)) = true := h
  rw [Bool.and_eq_true, decide_eq_true_eq, decide_eq_true_eq] at h2
  exact h2
theorem in_any (x a b : Int) (w : World) : Calls Tryz.prog 97 #[.int .i64 x, .int .i64 a, .int .i64 b] w fun e w' => e = .returned (.bool (decide (a ≤ x ∧ x ≤ b))) ∧ w = w' := by
  by_cases h1 : a ≤ x
  · by_cases h2 : x ≤ b
    · go_enter Tryz.func97, Tryz.ntmps97
      go_wp2
      go_ret
      exact ⟨by simp [h1, h2], rfl⟩
    · go_enter Tryz.func97, Tryz.ntmps97
      go_wp2
      go_ret
      exact ⟨by simp [h2], rfl⟩
  · go_enter Tryz.func97, Tryz.ntmps97
    go_wp2
    go_ret
    exact ⟨by simp; omega, rfl⟩

theorem in_yes (x a b : Int) (w : World) (h1 : a ≤ x) (h2 : x ≤ b) : Calls Tryz.prog 97 #[.int .i64 x, .int .i64 a, .int .i64 b] w fun e w' => e = .returned (.bool true) ∧ w = w' :=
  (in_any x a b w).mono fun _ _ h => ⟨by rw [h.1]; simp [h1, h2], h.2⟩
theorem in_no (x a b : Int) (w : World) (h : x < a ∨ b < x) : Calls Tryz.prog 97 #[.int .i64 x, .int .i64 a, .int .i64 b] w fun e w' => e = .returned (.bool false) ∧ w = w' :=
  (in_any x a b w).mono fun _ _ g => ⟨by rw [g.1]; have : ¬ (a ≤ x ∧ x ≤ b) := by omega
                                         simp only [this, decide_false], g.2⟩
end Go.Proofs.YtnikcgmbkmbloaaGreatDoor
/- What Digits of the program and Digits of the model return: the number of decimal digits, for every integer. -/
namespace Go.Proofs.YtnikcgmbkmbloaaGreatDoor
open Go.RowKit
def digN (n : Nat) : Nat := if n = 0 then 0 else digN (n / 10) + 1
termination_by n
decreasing_by omega
theorem digN_zero : digN 0 = 0 := by rw [digN]; rfl
theorem digN_step (n : Nat) (h : n ≠ 0) : digN n = digN (n / 10) + 1 := by rw [digN, if_neg h]
theorem digN_le (n : Nat) : digN n ≤ n := by
  induction n using Nat.strongRecOn with
  | _ n ih =>
    by_cases h : n = 0
    · subst h; rw [digN_zero]; exact Nat.le_refl _
    · rw [digN_step n h]; have := ih (n / 10) (by omega); omega
def digV (n : Int) : Nat := 1 + digN (n.natAbs / 10)
theorem tdiv10 (x : Int) : (x.tdiv 10).natAbs = x.natAbs / 10 := by rw [Int.natAbs_tdiv]; rfl

theorem digits_spec (n : Int) (w : World) (h0 : -9223372036854775808 ≤ n) (h1 : n ≤ 9223372036854775807) : Calls Tryz.prog 143 #[.int .i64 n] w fun e w' => e = .returned (.int .i64 (digV n)) ∧ w = w' := by
  have t0 := tdiv10 n
  have t1 : -1000000000000000000 ≤ n.tdiv 10 := by omega
  have t2 : n.tdiv 10 ≤ 1000000000000000000 := by omega
  have hd := digN_le (n.natAbs / 10)
  have HD : Hid (digN (n.natAbs / 10) ≤ 1000000000000000000) := by show digN _ ≤ _; omega
  have T0 := Lib.hid t0
  unfold digV
  clear t0 hd
  clear h0 h1
  go_enter Tryz.func143, Tryz.ntmps143
  go_wp2
  go_loop [3, 4] (fun k x => ∃ (x' : Int) (k' : Nat), x = .int .i64 x' ∧ k = .int .i64 k' ∧ k' + digN x'.natAbs = 1 + digN (n.natAbs / 10) ∧ -1000000000000000000 ≤ x' ∧ x' ≤ 1000000000000000000) (fun _ x => (intOf x).natAbs)
  case atStart => exact ⟨_, 1, rfl, rfl, by rw [T0.out], t1, t2⟩
  case round =>
    obtain ⟨x', k', rfl, rfl, hk, b1, b2⟩ := hrel
    by_cases hz : x' = 0
    · subst hz
      go_wp2
      go_ret
      rw [show (0 : Int).natAbs = 0 from rfl, digN_zero] at hk
      exact ⟨ret_int (by omega), rfl⟩
    · have hs := digN_step x'.natAbs (by omega)
      have hb : (k' : Int) ≤ 2000000000000000000 := by have := HD.out; omega
      have hn : (x' != 0) = true := by simpa using hz
      have u0 := tdiv10 x'
      have u1 : -1000000000000000000 ≤ x'.tdiv 10 := by omega
      have u2 : x'.tdiv 10 ≤ 1000000000000000000 := by omega
      have u3 : (x'.tdiv 10).natAbs < x'.natAbs := by omega
      have HK := Lib.hid hk
      have HS := Lib.hid hs
      have U0 := Lib.hid u0
      clear hk hs u0
      go_wp2
      go_round
      case rel => exact ⟨_, k' + 1, rfl, by go_num, by rw [U0.out]; have := HK.out; have := HS.out; omega, u1, u2⟩
      case measure => exact u3
theorem digits_impl (n : Int) (w : World) (h0 : -9223372036854775808 ≤ n) (h1 : n ≤ 9223372036854775807) : Calls Tryz.prog 168 #[.int .i64 n] w fun e w' => e = .returned (.int .i64 (digV n)) ∧ w = w' := by
  have t0 := tdiv10 n
  have t1 : -1000000000000000000 ≤ n.tdiv 10 := by omega
  have t2 : n.tdiv 10 ≤ 1000000000000000000 := by omega
  have hd := digN_le (n.natAbs / 10)
  have HD : Hid (digN (n.natAbs / 10) ≤ 1000000000000000000) := by show digN _ ≤ _; omega
  have T0 := Lib.hid t0
  unfold digV
  clear t0 hd
  clear h0 h1
  go_enter Tryz.func168, Tryz.ntmps168
  go_wp2
  go_loop [0, 3] (fun x k => ∃ (x' : Int) (k' : Nat), x = .int .i64 x' ∧ k = .int .i64 k' ∧ k' + digN x'.natAbs = 1 + digN (n.natAbs / 10) ∧ -1000000000000000000 ≤ x' ∧ x' ≤ 1000000000000000000) (fun x _ => (intOf x).natAbs)
  case atStart => exact ⟨_, 1, rfl, rfl, by rw [T0.out], t1, t2⟩
  case round =>
    obtain ⟨x', k', rfl, rfl, hk, b1, b2⟩ := hrel
    by_cases hz : x' = 0
    · subst hz
      go_wp2
      go_ret
      rw [show (0 : Int).natAbs = 0 from rfl, digN_zero] at hk
      exact ⟨ret_int (by omega), rfl⟩
    · have hs := digN_step x'.natAbs (by omega)
      have hb : (k' : Int) ≤ 2000000000000000000 := by have := HD.out; omega
      have hn : (x' != 0) = true := by simpa using hz
      have u0 := tdiv10 x'
      have u1 : -1000000000000000000 ≤ x'.tdiv 10 := by omega
      have u2 : x'.tdiv 10 ≤ 1000000000000000000 := by omega
      have u3 : (x'.tdiv 10).natAbs < x'.natAbs := by omega
      have HK := Lib.hid hk
      have HS := Lib.hid hs
      have U0 := Lib.hid u0
      clear hk hs u0
      go_wp2
      go_round
      case rel => exact ⟨_, k' + 1, rfl, by go_num, by rw [U0.out]; have := HK.out; have := HS.out; omega, u1, u2⟩
      case measure => exact u3
end Go.Proofs.YtnikcgmbkmbloaaGreatDoor
