/- What a slice reads (Reads, Slc), what it owns (ownsRow), and what stays when one block or none of the elder ones turns. -/
import Derived.Test.YtilgncebhgplaaaRows
import Derived.WalkKit
import Derived.OwnWalk
import Derived.Laws.OwnMore
import Derived.Laws.AppendOwnNone
import Derived.Lib.UnsafeStr
import Derived.Deep.QuietTactic
import Derived.BigQuiet
namespace Go.Proofs.Ytilgncebhgplaaa
open Go.RowKit
/-- Of the blocks of w only block B may differ in w'; there may be new ones. -/
structure Only (B : Nat) (w w' : World) : Prop where
  os : w'.os = w.os
  tape : w'.tape = w.tape
  output : w'.output = w.output
  size : w.heap.size ≤ w'.heap.size
  block : ∀ k, k < w.heap.size → k ≠ B → w'.heap[k]? = w.heap[k]?
theorem Only.refl (B : Nat) (w : World) : Only B w w := ⟨rfl, rfl, rfl, Nat.le_refl _, fun _ _ _ => rfl⟩
theorem Only.trans {B : Nat} {a b c : World} (h : Only B a b) (k : Only B b c) : Only B a c :=
  ⟨k.os.trans h.os, k.tape.trans h.tape, k.output.trans h.output, Nat.le_trans h.size k.size, fun i hi hB => (k.block i (Nat.lt_of_lt_of_le hi h.size) hB).trans (h.block i hi hB)⟩
theorem Only.drew {B : Nat} {a w : World} (h : Only B a w) : Only B a w.drew := ⟨h.os, h.tape, h.output, h.size, h.block⟩
theorem Only.drewN {B : Nat} {a w : World} (h : Only B a w) (n : Nat) : Only B a (w.drewN n) := ⟨h.os, h.tape, h.output, h.size, h.block⟩
theorem Only.setCell {B : Nat} {a w : World} (h : Only B a w) (o : Nat) (u : Value) : Only B a (w.setCell ⟨B, o, none⟩ u) :=
  h.trans ⟨rfl, rfl, rfl, by simp [World.setCell], fun k hk hB => Below.heap_setCell _ _ _ _ hB⟩
theorem Only.alloc {B : Nat} {a w : World} (h : Only B a w) (o : Obj) : Only B a (w.alloc o) :=
  h.trans ⟨rfl, rfl, rfl, by simp, fun k hk _ => Below.heap_alloc _ _ _ hk⟩
theorem Only.below {B : Nat} {w w' : World} (h : Only B w w') (N : Nat) (hN : N ≤ B) (hs : N ≤ w.heap.size) : Below N w w' :=
  ⟨h.os, h.tape, h.output, h.size, fun k hk => h.block k (by omega) (by omega)⟩
theorem Only.cell {B : Nat} {w w' : World} (h : Only B w w') {p : Addr} {v : Value} (hp : p.block ≠ B) (hc : w.cell? p = some v) : w'.cell? p = some v := by
  have hlt : p.block < w.heap.size := by
    rcases Nat.lt_or_ge p.block w.heap.size with h' | h'
    · exact h'
    · simp [World.cell?, Array.getElem?_eq_none h'] at hc
  rw [World.cell?_of_block (w := w) (h.block p.block hlt hp)]; exact hc
theorem Only.of_below {B : Nat} {w w' : World} (h : Below w.heap.size w w') : Only B w w' := ⟨h.os, h.tape, h.output, h.size, fun k hk _ => h.block k hk⟩
theorem Only.of_grown {g : Nat} {w w' : World} (h : w.grownBy w' (some g)) : Only g w w' := ⟨h.os, h.tape, h.output, h.size, fun k hk hg => h.block k hk (by simpa using hg)⟩
theorem grown_below0 {w w' : World} {row : Option Nat} (h : w.grownBy w' row) (hr : ∀ k, row = some k → w.heap.size ≤ k) : Below w.heap.size w w' :=
  ⟨h.os, h.tape, h.output, h.size, fun k hk => h.block k hk (fun e => by have := hr k e.symm; omega)⟩
theorem grown_belowN {w w' : World} {row : Option Nat} {N : Nat} (h : w.grownBy w' row) (hN : N ≤ w.heap.size) (hr : ∀ k, row = some k → N ≤ k) : Below N w w' :=
  ⟨h.os, h.tape, h.output, h.size, fun k hk => h.block k (by omega) (fun e => by have := hr k e.symm; omega)⟩
theorem cell_lt {w : World} {p : Addr} {v : Value} (hc : w.cell? p = some v) : p.block < w.heap.size := by
  rcases Nat.lt_or_ge p.block w.heap.size with h' | h'
  · exact h'
  · simp [World.cell?, Array.getElem?_eq_none h'] at hc
theorem below_drewN {N : Nat} {a w : World} (h : Below N a w) (n : Nat) : Below N a (w.drewN n) := ⟨h.os, h.tape, h.output, h.size, h.block⟩
/-- bytes and ints as cells -/
def bv (l : List UInt8) : List Value := l.map fun x => Value.int .u8 x.toNat
def iv (l : List Int) : List Value := l.map (Value.int .i64)
@[simp] theorem bv_length (l : List UInt8) : (bv l).length = l.length := by simp [bv]
@[simp] theorem iv_length (l : List Int) : (iv l).length = l.length := by simp [iv]
theorem bv_append (k l : List UInt8) : bv (k ++ l) = bv k ++ bv l := by simp [bv]
theorem iv_append (k l : List Int) : iv (k ++ l) = iv k ++ iv l := by simp [iv]
theorem bv_cell : ∀ (l : List UInt8), ∀ u ∈ bv l, u.oneCell' = true := by
  intro l u hu
  simp only [bv, List.mem_map] at hu
  obtain ⟨x, _, rfl⟩ := hu
  rfl
theorem iv_cell : ∀ (l : List Int), ∀ u ∈ iv l, u.oneCell' = true := by
  intro l u hu
  simp only [iv, List.mem_map] at hu
  obtain ⟨x, _, rfl⟩ := hu
  rfl
/-- a slice whose elements read as xs (its address whatever where it is empty) -/
def Reads (w : World) (v : Value) (xs : List Value) : Prop :=
  ∃ a cap, v = .slice a xs.length cap ∧ ∀ j (h : j < xs.length), ∃ b o, a = some ⟨b, o, none⟩ ∧ w.cell? ⟨b, o + j, none⟩ = some xs[j]
theorem Reads.below {w w' : World} {v : Value} {xs : List Value} (h : Reads w v xs) (hb : Below w.heap.size w w') : Reads w' v xs := by
  obtain ⟨a, cap, rfl, hc⟩ := h
  refine ⟨a, cap, rfl, fun j hj => ?_⟩
  obtain ⟨b, o, ha, hcl⟩ := hc j hj
  exact ⟨b, o, ha, by rw [hb.cell (p := ⟨b, o + j, none⟩) (cell_lt hcl)]; exact hcl⟩
theorem Reads.only {w w' : World} {v : Value} {xs : List Value} {g : Nat} (h : Reads w v xs) (ho : Only g w w') (hg : v.ownBlock ≠ some g) : Reads w' v xs := by
  obtain ⟨a, cap, rfl, hc⟩ := h
  refine ⟨a, cap, rfl, fun j hj => ?_⟩
  obtain ⟨b, o, rfl, hcl⟩ := hc j hj
  exact ⟨b, o, rfl, ho.cell (by simpa [Value.ownBlock] using hg) hcl⟩
/-- a slice that is nil and empty, or stands at a plain address and reads as xs -/
def Slc (w : World) (v : Value) (xs : List Value) : Prop :=
  (v = .slice none 0 0 ∧ xs = []) ∨ ∃ b o cap, v = .slice (some ⟨b, o, none⟩) xs.length cap ∧ ∀ j u, xs[j]? = some u → w.cell? ⟨b, o + j, none⟩ = some u
theorem Slc.reads {w : World} {v : Value} {xs : List Value} (h : Slc w v xs) : Reads w v xs := by
  rcases h with ⟨rfl, rfl⟩ | ⟨b, o, cap, rfl, hc⟩
  · exact ⟨none, 0, rfl, fun j hj => absurd hj (by simp)⟩
  · exact ⟨_, cap, rfl, fun j hj => ⟨b, o, rfl, hc j _ (List.getElem?_eq_getElem hj)⟩⟩
theorem Slc.below {w w' : World} {v : Value} {xs : List Value} (h : Slc w v xs) (hb : Below w.heap.size w w') : Slc w' v xs := by
  rcases h with h | ⟨b, o, cap, rfl, hc⟩
  · exact .inl h
  · refine .inr ⟨b, o, cap, rfl, fun j u hu => ?_⟩
    have hcl := hc j u hu
    rw [hb.cell (p := ⟨b, o + j, none⟩) (cell_lt hcl)]; exact hcl
theorem own_slc {w : World} {B E : Nat} {v : Value} {xs : List Value} {n : Nat} (h : w.ownsRow B E 1 v n xs) : Slc w v xs := by
  have hl := h.1
  rcases h.2 with ⟨rfl, rfl⟩ | ⟨g, cap, cur, rfl, hb, hg, hnc, hcm, hcs, htake⟩
  · exact .inl ⟨rfl, by simpa using hl⟩
  · refine .inr ⟨g, 0, cap, by rw [hl]; simp, fun j u hu => ?_⟩
    rw [cell_of_row w g (0 + j) cur E (0, 0) hg]
    rw [← htake, List.getElem?_take] at hu
    split at hu
    · simpa using hu
    · cases hu
theorem own_reads {w : World} {B E : Nat} {v : Value} {xs : List Value} {n : Nat} (h : w.ownsRow B E 1 v n xs) : Reads w v xs := (own_slc h).reads
theorem own_below {w w' : World} {B E n : Nat} {v : Value} {xs : List Value} (h : w.ownsRow B E 1 v n xs) (hb : Below w.heap.size w w') : w'.ownsRow B E 1 v n xs := by
  refine h.kept (row := none) ⟨hb.os, hb.tape, hb.output, hb.size, fun k hk _ => hb.block k hk⟩ ?_
  cases v.ownBlock with
  | none => exact .inl rfl
  | some g => exact .inr (by simp)
theorem own_only {w w' : World} {B E n g : Nat} {v : Value} {xs : List Value} (h : w.ownsRow B E 1 v n xs) (ho : Only g w w') (hg : v.ownBlock ≠ some g) : w'.ownsRow B E 1 v n xs :=
  h.kept (row := some g) ⟨ho.os, ho.tape, ho.output, ho.size, fun k hk hne => ho.block k hk (fun e => hne (by rw [e]))⟩ (.inr hg)
theorem own_ne {w w' : World} {B E n E' n' : Nat} {u v : Value} {xs ys : List Value} (h : w.ownsRow B E 1 u n xs) (k : w'.ownsRow w.heap.size E' 1 v n' ys) : ∀ g, v.ownBlock = some g → u.ownBlock ≠ some g := by
  intro g hg hu
  have h1 := (h.lt g hu).2
  have h2 := (k.lt g hg).1
  omega
/-- a slice at a plain address that reads as xs -/
def Sl (w : World) (v : Value) (xs : List Value) : Prop := ∃ b o cap, v = .slice (some ⟨b, o, none⟩) xs.length cap ∧ ∀ j u, xs[j]? = some u → w.cell? ⟨b, o + j, none⟩ = some u
theorem Sl.below {w w' : World} {v : Value} {xs : List Value} (h : Sl w v xs) (hb : Below w.heap.size w w') : Sl w' v xs := by
  obtain ⟨b, o, cap, rfl, hc⟩ := h
  refine ⟨b, o, cap, rfl, fun j u hu => ?_⟩
  have hcl := hc j u hu
  rw [hb.cell (p := ⟨b, o + j, none⟩) (cell_lt hcl)]; exact hcl
theorem Sl.reads {w : World} {v : Value} {xs : List Value} (h : Sl w v xs) : Reads w v xs := Slc.reads (.inr h)
theorem own_sl {w : World} {B E : Nat} {v : Value} {xs : List Value} {n : Nat} (h : w.ownsRow B E 1 v n xs) (hv : v ≠ .slice none 0 0) : Sl w v xs := by
  rcases own_slc h with ⟨rfl, _⟩ | h
  · exact absurd rfl hv
  · exact h
theorem only_below {N g : Nat} {a w w' : World} (hb : Below N a w) (ho : Only g w w') (hg : N ≤ g) (hN : N ≤ w.heap.size) : Below N a w' := hb.trans (ho.below N hg hN)
/-- an elder row stays behind a turn of a younger one -/
theorem own_old {w w' : World} {B E n g : Nat} {v : Value} {xs : List Value} (h : w.ownsRow B E 1 v n xs) (ho : Only g w w') (hlt : ∀ k, v.ownBlock = some k → k < g) : w'.ownsRow B E 1 v n xs :=
  own_only h ho (fun e => by have := hlt g e; omega)
/-- a younger row stays behind a turn of an elder one -/
theorem own_new {w w' : World} {B E n g : Nat} {u v : Value} {xs : List Value} (h : w.ownsRow B E 1 v n xs) (ho : Only g w w') (hg : u.ownBlock = some g ∨ w.heap.size ≤ g) (hu : ∀ k, u.ownBlock = some k → k < B) : w'.ownsRow B E 1 v n xs :=
  own_only h ho (fun e => by
    have h1 := h.lt g e
    rcases hg with hg | hg
    · have := hu g hg; omega
    · omega)
theorem bv_getElem (l : List UInt8) (j : Nat) (h : j < (bv l).length) : (bv l)[j] = .int .u8 ((l[j]'(by simpa using h)).toNat) := by simp [bv]
theorem reads_byte {w : World} {v : Value} {l : List UInt8} (h : Reads w v (bv l)) : ∃ a cap, v = .slice a l.length cap ∧ ∀ j (hj : j < l.length), ∃ b o, a = some ⟨b, o, none⟩ ∧ w.cell? ⟨b, o + j, none⟩ = some (.int .u8 (l[j]).toNat) := by
  obtain ⟨a, cap, rfl, hc⟩ := h
  refine ⟨a, cap, by rw [bv_length], fun j hj => ?_⟩
  obtain ⟨b, o, ha, hcl⟩ := hc j (by simpa using hj)
  exact ⟨b, o, ha, by rw [hcl, bv_getElem]⟩
theorem iv_getElem (l : List Int) (j : Nat) (h : j < (iv l).length) : (iv l)[j] = .int .i64 (l[j]'(by simpa using h)) := by simp [iv]
theorem reads_int {w : World} {v : Value} {l : List Int} (h : Reads w v (iv l)) : ∃ a cap, v = .slice a l.length cap ∧ ∀ j (hj : j < l.length), ∃ b o, a = some ⟨b, o, none⟩ ∧ w.cell? ⟨b, o + j, none⟩ = some (.int .i64 l[j]) := by
  obtain ⟨a, cap, rfl, hc⟩ := h
  refine ⟨a, cap, by rw [iv_length], fun j hj => ?_⟩
  obtain ⟨b, o, ha, hcl⟩ := hc j (by simpa using hj)
  exact ⟨b, o, ha, by rw [hcl, iv_getElem]⟩
theorem below_step {N E n : Nat} {w w1 w2 : World} {o : Obj} {v : Value} {xs : List Value} (hb : Below N w w1) (hN : N ≤ w1.heap.size) (hown : w1.ownsRow N E 1 v n xs) (hg : (w1.alloc o).grownBy w2 v.ownBlock) : Below N w w2 :=
  (hb.alloc hN o).trans (grown_belowN hg (by simp; omega) (fun k hk => (hown.lt k hk).1))
theorem below_new {w w2 : World} {o : Obj} {v : Value} (hv : v.ownBlock = some w.heap.size) (hg : (w.alloc o).grownBy w2 v.ownBlock) : Below w.heap.size w w2 :=
  ((Below.refl w.heap.size w).alloc (Nat.le_refl _) o).trans (grown_belowN hg (by simp) (fun k hk => by rw [hv] at hk; injection hk with hk; omega))
theorem below_box (w : World) (o : Obj) : Below w.heap.size w (w.alloc o) := (Below.refl _ _).alloc (Nat.le_refl _) _
theorem relCall {P : Program} {f : FuncId} {args : Array Value} {v : Value} {N : Nat} {W0 : World} (h : ∀ W, Calls P f args W fun e w' => e = .returned v ∧ Below W.heap.size W w') :
    ∀ W, Below N W0 W → N ≤ W.heap.size → Calls P f args W fun e w' => e = .returned v ∧ Below N W0 w' ∧ N ≤ w'.heap.size :=
  fun W hb hN => (h W).mono fun _ _ ⟨he, hb2⟩ => ⟨he, hb.trans (hb2.mono hN), Nat.le_trans hN hb2.size⟩
end Go.Proofs.Ytilgncebhgplaaa
