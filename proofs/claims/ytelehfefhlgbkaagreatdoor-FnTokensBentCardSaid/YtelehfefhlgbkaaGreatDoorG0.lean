import Derived.Test.YtelehfefhlgbkaaGreatDoorRows
import Derived.WalkKit
import Derived.OwnWalk
import Derived.Laws.OwnMore
import Derived.Laws.AppendOwnNone
import Derived.Lib.UnsafeStr
import Derived.Deep.QuietTactic
import Derived.BigQuiet
import Derived.Lib.Hide
import Derived.Outline
import Derived.ProofKit
/- What the model's range test returns; small facts. -/
namespace Go.Proofs.YtelehfefhlgbkaaGreatDoor
open Go.RowKit
theorem ret_int {k : IntKind} {a b : Int} (h : a = b) : Ending.returned (.int k a) = .returned (.int k b) := by rw [h]
theorem wf_le {n : Int} (h : (Lit.int .i64 n).wf = true) : -9223372036854775808 ≤ n ∧ n ≤ 9223372036854775807 := by
  have h2 : (decide (IntKind.i64.min ≤ n) && decide (n ≤ IntKind.i64.max)) = true := h
  rw [Bool.and_eq_true, decide_eq_true_eq, decide_eq_true_eq] at h2
  exact h2
theorem in_any (x a b : Int) (w : World) : Calls Tryz.prog 42 #[.int .i64 x, .int .i64 a, .int .i64 b] w fun e w' => e = .returned (.bool (decide (a ≤ x ∧ x ≤ b))) ∧ w = w' := by
  by_cases h1 : a ≤ x
  · by_cases h2 : x ≤ b
    · go_enter Tryz.func42, Tryz.ntmps42
      go_wp2
      go_ret
      exact ⟨by simp [h1, h2], rfl⟩
    · go_enter Tryz.func42, Tryz.ntmps42
      go_wp2
      go_ret
      exact ⟨by simp [h2], rfl⟩
  · go_enter Tryz.func42, Tryz.ntmps42
    go_wp2
    go_ret
    exact ⟨by simp; omega, rfl⟩

theorem in_yes (x a b : Int) (w : World) (h1 : a ≤ x) (h2 : x ≤ b) : Calls Tryz.prog 42 #[.int .i64 x, .int .i64 a, .int .i64 b] w fun e w' => e = .returned (.bool true) ∧ w = w' :=
  (in_any x a b w).mono fun _ _ h => ⟨by rw [h.1]; simp [h1, h2], h.2⟩
theorem in_no (x a b : Int) (w : World) (h : x < a ∨ b < x) : Calls Tryz.prog 42 #[.int .i64 x, .int .i64 a, .int .i64 b] w fun e w' => e = .returned (.bool false) ∧ w = w' :=
  (in_any x a b w).mono fun _ _ g => ⟨by rw [g.1]; have : ¬ (a ≤ x ∧ x ≤ b) := by omega
                                         simp only [this, decide_false], g.2⟩
end Go.Proofs.YtelehfefhlgbkaaGreatDoor
/- What a slice reads (Reads, Slc), what it owns (ownsRow), and what stays when one block or none of the elder ones turns. -/
namespace Go.Proofs.YtelehfefhlgbkaaGreatDoor
open Go.RowKit
/-- Of the blocks of w only block B may differ in w'; there may be new ones. -/
structure Only (B : Nat) (w w' : World) : Prop where
  os : w'.os = w.os
  tape : w'.tape = w.tape
  output : w'.output = w.output
  size : w.heap.size ≤ w'.heap.size
  block : ∀ k, k < w.heap.size → k ≠ B → w'.heap[k]? = w.heap[k]?
theorem Only.refl (B : Nat) (w : World) : Only B w w := ⟨rfl, rfl, rfl, Nat.le_refl _, fun _ _ _ => rfl⟩
theorem Only.trans {B : Nat} {a b c : World} (h : Only B a b) (k : Only B b c) : Only B a c :=
  ⟨k.os.trans h.os, k.tape.trans h.tape, k.output.trans h.output, Nat.le_trans h.size k.size, fun i hi hB => (k.block i (Nat.lt_of_lt_of_le hi h.size) hB).trans (h.block i hi hB)⟩
theorem Only.drew {B : Nat} {a w : World} (h : Only B a w) : Only B a w.drew := ⟨h.os, h.tape, h.output, h.size, h.block⟩
theorem Only.drewN {B : Nat} {a w : World} (h : Only B a w) (n : Nat) : Only B a (w.drewN n) := ⟨h.os, h.tape, h.output, h.size, h.block⟩
theorem Only.setCell {B : Nat} {a w : World} (h : Only B a w) (o : Nat) (u : Value) : Only B a (w.setCell ⟨B, o, none⟩ u) :=
  h.trans ⟨rfl, rfl, rfl, by simp [World.setCell], fun k hk hB => Below.heap_setCell _ _ _ _ hB⟩
theorem Only.alloc {B : Nat} {a w : World} (h : Only B a w) (o : Obj) : Only B a (w.alloc o) :=
  h.trans ⟨rfl, rfl, rfl, by simp, fun k hk _ => Below.heap_alloc _ _ _ hk⟩
theorem Only.below {B : Nat} {w w' : World} (h : Only B w w') (N : Nat) (hN : N ≤ B) (hs : N ≤ w.heap.size) : Below N w w' :=
  ⟨h.os, h.tape, h.output, h.size, fun k hk => h.block k (by omega) (by omega)⟩
theorem Only.cell {B : Nat} {w w' : World} (h : Only B w w') {p : Addr} {v : Value} (hp : p.block ≠ B) (hc : w.cell? p = some v) : w'.cell? p = some v := by
  have hlt : p.block < w.heap.size := by
    rcases Nat.lt_or_ge p.block w.heap.size with h' | h'
    · exact h'
    · simp [World.cell?, Array.getElem?_eq_none h'] at hc
  rw [World.cell?_of_block (w := w) (h.block p.block hlt hp)]; exact hc
theorem Only.of_below {B : Nat} {w w' : World} (h : Below w.heap.size w w') : Only B w w' := ⟨h.os, h.tape, h.output, h.size, fun k hk _ => h.block k hk⟩
theorem Only.of_grown {g : Nat} {w w' : World} (h : w.grownBy w' (some g)) : Only g w w' := ⟨h.os, h.tape, h.output, h.size, fun k hk hg => h.block k hk (by simpa using hg)⟩
theorem grown_below0 {w w' : World} {row : Option Nat} (h : w.grownBy w' row) (hr : ∀ k, row = some k → w.heap.size ≤ k) : Below w.heap.size w w' :=
  ⟨h.os, h.tape, h.output, h.size, fun k hk => h.block k hk (fun e => by have := hr k e.symm; omega)⟩
theorem grown_belowN {w w' : World} {row : Option Nat} {N : Nat} (h : w.grownBy w' row) (hN : N ≤ w.heap.size) (hr : ∀ k, row = some k → N ≤ k) : Below N w w' :=
  ⟨h.os, h.tape, h.output, h.size, fun k hk => h.block k (by omega) (fun e => by have := hr k e.symm; omega)⟩
theorem cell_lt {w : World} {p : Addr} {v : Value} (hc : w.cell? p = some v) : p.block < w.heap.size := by
  rcases Nat.lt_or_ge p.block w.heap.size with h' | h'
  · exact h'
  · simp [World.cell?, Array.getElem?_eq_none h'] at hc
theorem below_drewN {N : Nat} {a w : World} (h : Below N a w) (n : Nat) : Below N a (w.drewN n) := ⟨h.os, h.tape, h.output, h.size, h.block⟩
/-- bytes and ints as cells -/
def bv (l : List UInt8) : List Value := l.map fun x => Value.int .u8 x.toNat
def iv (l : List Int) : List Value := l.map (Value.int .i64)
@[simp] theorem bv_length (l : List UInt8) : (bv l).length = l.length := by simp [bv]
@[simp] theorem iv_length (l : List Int) : (iv l).length = l.length := by simp [iv]
theorem bv_append (k l : List UInt8) : bv (k ++ l) = bv k ++ bv l := by simp [bv]
theorem iv_append (k l : List Int) : iv (k ++ l) = iv k ++ iv l := by simp [iv]
theorem bv_cell : ∀ (l : List UInt8), ∀ u ∈ bv l, u.oneCell' = true := by
  intro l u hu
  simp only [bv, List.mem_map] at hu
  obtain ⟨x, _, rfl⟩ := hu
  rfl
theorem iv_cell : ∀ (l : List Int), ∀ u ∈ iv l, u.oneCell' = true := by
  intro l u hu
  simp only [iv, List.mem_map] at hu
  obtain ⟨x, _, rfl⟩ := hu
  rfl
/-- a slice whose elements read as xs (its address whatever where it is empty) -/
def Reads (w : World) (v : Value) (xs : List Value) : Prop :=
  ∃ a cap, v = .slice a xs.length cap ∧ ∀ j (h : j < xs.length), ∃ b o, a = some ⟨b, o, none⟩ ∧ w.cell? ⟨b, o + j, none⟩ = some xs[j]
theorem Reads.below {w w' : World} {v : Value} {xs : List Value} (h : Reads w v xs) (hb : Below w.heap.size w w') : Reads w' v xs := by
  obtain ⟨a, cap, rfl, hc⟩ := h
  refine ⟨a, cap, rfl, fun j hj => ?_⟩
  obtain ⟨b, o, ha, hcl⟩ := hc j hj
  exact ⟨b, o, ha, by rw [hb.cell (p := ⟨b, o + j, none⟩) (cell_lt hcl)]; exact hcl⟩
theorem Reads.only {w w' : World} {v : Value} {xs : List Value} {g : Nat} (h : Reads w v xs) (ho : Only g w w') (hg : v.ownBlock ≠ some g) : Reads w' v xs := by
  obtain ⟨a, cap, rfl, hc⟩ := h
  refine ⟨a, cap, rfl, fun j hj => ?_⟩
  obtain ⟨b, o, rfl, hcl⟩ := hc j hj
  exact ⟨b, o, rfl, ho.cell (by simpa [Value.ownBlock] using hg) hcl⟩
/-- a slice that is nil and empty, or stands at a plain address and reads as xs -/
def Slc (w : World) (v : Value) (xs : List Value) : Prop :=
  (v = .slice none 0 0 ∧ xs = []) ∨ ∃ b o cap, v = .slice (some ⟨b, o, none⟩) xs.length cap ∧ ∀ j u, xs[j]? = some u → w.cell? ⟨b, o + j, none⟩ = some u
theorem Slc.reads {w : World} {v : Value} {xs : List Value} (h : Slc w v xs) : Reads w v xs := by
  rcases h with ⟨rfl, rfl⟩ | ⟨b, o, cap, rfl, hc⟩
  · exact ⟨none, 0, rfl, fun j hj => absurd hj (by simp)⟩
  · exact ⟨_, cap, rfl, fun j hj => ⟨b, o, rfl, hc j _ (List.getElem?_eq_getElem hj)⟩⟩
theorem Slc.below {w w' : World} {v : Value} {xs : List Value} (h : Slc w v xs) (hb : Below w.heap.size w w') : Slc w' v xs := by
  rcases h with h | ⟨b, o, cap, rfl, hc⟩
  · exact .inl h
  · refine .inr ⟨b, o, cap, rfl, fun j u hu => ?_⟩
    have hcl := hc j u hu
    rw [hb.cell (p := ⟨b, o + j, none⟩) (cell_lt hcl)]; exact hcl
theorem own_slc {w : World} {B E : Nat} {v : Value} {xs : List Value} {n : Nat} (h : w.ownsRow B E 1 v n xs) : Slc w v xs := by
  have hl := h.1
  rcases h.2 with ⟨rfl, rfl⟩ | ⟨g, cap, cur, rfl, hb, hg, hnc, hcm, hcs, htake⟩
  · exact .inl ⟨rfl, by simpa using hl⟩
  · refine .inr ⟨g, 0, cap, by rw [hl]; simp, fun j u hu => ?_⟩
    rw [cell_of_row w g (0 + j) cur E (0, 0) hg]
    rw [← htake, List.getElem?_take] at hu
    split at hu
    · simpa using hu
    · cases hu
theorem own_reads {w : World} {B E : Nat} {v : Value} {xs : List Value} {n : Nat} (h : w.ownsRow B E 1 v n xs) : Reads w v xs := (own_slc h).reads
theorem own_below {w w' : World} {B E n : Nat} {v : Value} {xs : List Value} (h : w.ownsRow B E 1 v n xs) (hb : Below w.heap.size w w') : w'.ownsRow B E 1 v n xs := by
  refine h.kept (row := none) ⟨hb.os, hb.tape, hb.output, hb.size, fun k hk _ => hb.block k hk⟩ ?_
  cases v.ownBlock with
  | none => exact .inl rfl
  | some g => exact .inr (by simp)
theorem own_only {w w' : World} {B E n g : Nat} {v : Value} {xs : List Value} (h : w.ownsRow B E 1 v n xs) (ho : Only g w w') (hg : v.ownBlock ≠ some g) : w'.ownsRow B E 1 v n xs :=
  h.kept (row := some g) ⟨ho.os, ho.tape, ho.output, ho.size, fun k hk hne => ho.block k hk (fun e => hne (by rw [e]))⟩ (.inr hg)
theorem own_ne {w w' : World} {B E n E' n' : Nat} {u v : Value} {xs ys : List Value} (h : w.ownsRow B E 1 u n xs) (k : w'.ownsRow w.heap.size E' 1 v n' ys) : ∀ g, v.ownBlock = some g → u.ownBlock ≠ some g := by
  intro g hg hu
  have h1 := (h.lt g hu).2
  have h2 := (k.lt g hg).1
  omega
/-- a slice at a plain address that reads as xs -/
def Sl (w : World) (v : Value) (xs : List Value) : Prop := ∃ b o cap, v = .slice (some ⟨b, o, none⟩) xs.length cap ∧ ∀ j u, xs[j]? = some u → w.cell? ⟨b, o + j, none⟩ = some u
theorem Sl.below {w w' : World} {v : Value} {xs : List Value} (h : Sl w v xs) (hb : Below w.heap.size w w') : Sl w' v xs := by
  obtain ⟨b, o, cap, rfl, hc⟩ := h
  refine ⟨b, o, cap, rfl, fun j u hu => ?_⟩
  have hcl := hc j u hu
  rw [hb.cell (p := ⟨b, o + j, none⟩) (cell_lt hcl)]; exact hcl
theorem Sl.reads {w : World} {v : Value} {xs : List Value} (h : Sl w v xs) : Reads w v xs := Slc.reads (.inr h)
theorem own_sl {w : World} {B E : Nat} {v : Value} {xs : List Value} {n : Nat} (h : w.ownsRow B E 1 v n xs) (hv : v ≠ .slice none 0 0) : Sl w v xs := by
  rcases own_slc h with ⟨rfl, _⟩ | h
  · exact absurd rfl hv
  · exact h
theorem only_below {N g : Nat} {a w w' : World} (hb : Below N a w) (ho : Only g w w') (hg : N ≤ g) (hN : N ≤ w.heap.size) : Below N a w' := hb.trans (ho.below N hg hN)
/-- an elder row stays behind a turn of a younger one -/
theorem own_old {w w' : World} {B E n g : Nat} {v : Value} {xs : List Value} (h : w.ownsRow B E 1 v n xs) (ho : Only g w w') (hlt : ∀ k, v.ownBlock = some k → k < g) : w'.ownsRow B E 1 v n xs :=
  own_only h ho (fun e => by have := hlt g e; omega)
/-- a younger row stays behind a turn of an elder one -/
theorem own_new {w w' : World} {B E n g : Nat} {u v : Value} {xs : List Value} (h : w.ownsRow B E 1 v n xs) (ho : Only g w w') (hg : u.ownBlock = some g ∨ w.heap.size ≤ g) (hu : ∀ k, u.ownBlock = some k → k < B) : w'.ownsRow B E 1 v n xs :=
  own_only h ho (fun e => by
    have h1 := h.lt g e
    rcases hg with hg | hg
    · have := hu g hg; omega
    · omega)
theorem bv_getElem (l : List UInt8) (j : Nat) (h : j < (bv l).length) : (bv l)[j] = .int .u8 ((l[j]'(by simpa using h)).toNat) := by simp [bv]
theorem reads_byte {w : World} {v : Value} {l : List UInt8} (h : Reads w v (bv l)) : ∃ a cap, v = .slice a l.length cap ∧ ∀ j (hj : j < l.length), ∃ b o, a = some ⟨b, o, none⟩ ∧ w.cell? ⟨b, o + j, none⟩ = some (.int .u8 (l[j]).toNat) := by
  obtain ⟨a, cap, rfl, hc⟩ := h
  refine ⟨a, cap, by rw [bv_length], fun j hj => ?_⟩
  obtain ⟨b, o, ha, hcl⟩ := hc j (by simpa using hj)
  exact ⟨b, o, ha, by rw [hcl, bv_getElem]⟩
theorem iv_getElem (l : List Int) (j : Nat) (h : j < (iv l).length) : (iv l)[j] = .int .i64 (l[j]'(by simpa using h)) := by simp [iv]
theorem reads_int {w : World} {v : Value} {l : List Int} (h : Reads w v (iv l)) : ∃ a cap, v = .slice a l.length cap ∧ ∀ j (hj : j < l.length), ∃ b o, a = some ⟨b, o, none⟩ ∧ w.cell? ⟨b, o + j, none⟩ = some (.int .i64 l[j]) := by
  obtain ⟨a, cap, rfl, hc⟩ := h
  refine ⟨a, cap, by rw [iv_length], fun j hj => ?_⟩
  obtain ⟨b, o, ha, hcl⟩ := hc j (by simpa using hj)
  exact ⟨b, o, ha, by rw [hcl, iv_getElem]⟩
theorem below_step {N E n : Nat} {w w1 w2 : World} {o : Obj} {v : Value} {xs : List Value} (hb : Below N w w1) (hN : N ≤ w1.heap.size) (hown : w1.ownsRow N E 1 v n xs) (hg : (w1.alloc o).grownBy w2 v.ownBlock) : Below N w w2 :=
  (hb.alloc hN o).trans (grown_belowN hg (by simp; omega) (fun k hk => (hown.lt k hk).1))
theorem below_new {w w2 : World} {o : Obj} {v : Value} (hv : v.ownBlock = some w.heap.size) (hg : (w.alloc o).grownBy w2 v.ownBlock) : Below w.heap.size w w2 :=
  ((Below.refl w.heap.size w).alloc (Nat.le_refl _) o).trans (grown_belowN hg (by simp) (fun k hk => by rw [hv] at hk; injection hk with hk; omega))
theorem below_box (w : World) (o : Obj) : Below w.heap.size w (w.alloc o) := (Below.refl _ _).alloc (Nat.le_refl _) _
theorem relCall {P : Program} {f : FuncId} {args : Array Value} {v : Value} {N : Nat} {W0 : World} (h : ∀ W, Calls P f args W fun e w' => e = .returned v ∧ Below W.heap.size W w') :
    ∀ W, Below N W0 W → N ≤ W.heap.size → Calls P f args W fun e w' => e = .returned v ∧ Below N W0 w' ∧ N ≤ w'.heap.size :=
  fun W hb hN => (h W).mono fun _ _ ⟨he, hb2⟩ => ⟨he, hb.trans (hb2.mono hN), Nat.le_trans hN hb2.size⟩
end Go.Proofs.YtelehfefhlgbkaaGreatDoor
/- The model's cursor over the bytes of a draw: what its functions return (some number in a range) and what they change (the cursor's own block). -/
namespace Go.Proofs.YtelehfefhlgbkaaGreatDoor
open Go.RowKit
/-- the cursor over the bytes of a slice that lies outside its block -/
def CurAt (w : World) (B : Nat) (a : Option Addr) (len cap : Nat) (i : Nat) (h : Int) : Prop :=
  w.heap[B]? = some (.cells #[.slice a len cap, .int .i64 i, .int .i64 h] 62) ∧ i ≤ len ∧ len ≤ 140737488355328 ∧
    ∀ j, j < len → ∃ (b o c : Nat), a = some ⟨b, o, none⟩ ∧ b < B ∧ c ≤ 255 ∧ w.cell? ⟨b, o + j, none⟩ = some (.int .u8 c)
def Cur (w : World) (B : Nat) : Prop := ∃ a len cap i h, CurAt w B a len cap i h
theorem cur_cells {w : World} {B : Nat} {T : TypeId} {x y z : Value} (h : w.heap[B]? = some (.cells #[x, y, z] T)) :
    w.cell? ⟨B, 0, none⟩ = some x ∧ w.cell? ⟨B, 1, none⟩ = some y ∧ w.cell? ⟨B, 2, none⟩ = some z ∧ (∀ o, w.frozen? ⟨B, o, none⟩ = false) := by
  refine ⟨by simp [World.cell?, h], by simp [World.cell?, h], by simp [World.cell?, h], fun o => by simp [World.frozen?, h]⟩

theorem i64_and255 (n : Int) : bits .and .i64 n 255 = n % 256 := by
  have h255 : (BitVec.ofInt 64 255).toNat = 2 ^ 8 - 1 := by decide
  have key : (BitVec.ofInt 64 n &&& BitVec.ofInt 64 255).toNat = (n % ((2 ^ 64 : Nat) : Int)).toNat % 2 ^ 8 := by
    rw [BitVec.toNat_and, BitVec.toNat_ofInt, h255, Nat.and_two_pow_sub_one_eq_mod]
  show IntKind.i64.wrap ((BitVec.ofInt 64 n &&& BitVec.ofInt 64 255).toNat : Nat) = n % 256
  rw [key, IntKind.wrap_i64]
  omega
theorem i64_and30 (n : Int) : bits .and .i64 n 1073741823 = n % 1073741824 := by
  have h30 : (BitVec.ofInt 64 1073741823).toNat = 2 ^ 30 - 1 := by decide
  have key : (BitVec.ofInt 64 n &&& BitVec.ofInt 64 1073741823).toNat = (n % ((2 ^ 64 : Nat) : Int)).toNat % 2 ^ 30 := by
    rw [BitVec.toNat_and, BitVec.toNat_ofInt, h30, Nat.and_two_pow_sub_one_eq_mod]
  show IntKind.i64.wrap ((BitVec.ofInt 64 n &&& BitVec.ofInt 64 1073741823).toNat : Nat) = n % 1073741824
  rw [key, IntKind.wrap_i64]
  omega
def BytePost (B : Nat) (w : World) (e : Ending) (w' : World) : Prop := ∃ x : Int, 0 ≤ x ∧ x ≤ 255 ∧ e = .returned (.int .i64 x) ∧ Only B w w' ∧ Cur w' B
theorem heap_setCell {w : World} {B o : Nat} {C : Array Value} {T : TypeId} (u : Value) (h : w.heap[B]? = some (.cells C T)) : (w.setCell ⟨B, o, none⟩ u).heap[B]? = some (.cells (C.setIfInBounds o u) T) := by
  simp [World.setCell, Array.getElem?_modify, h]
theorem cur_step {w w' : World} {B len cap i i' : Nat} {a : Option Addr} {h h' : Int} (hc : CurAt w B a len cap i h) (ho : Only B w w') (hh : w'.heap[B]? = some (.cells #[.slice a len cap, .int .i64 i', .int .i64 h'] 62)) (hi : i' ≤ len) : Cur w' B := by
  obtain ⟨_, _, hl, hcell⟩ := hc
  refine ⟨a, len, cap, i', h', hh, hi, hl, fun j hj => ?_⟩
  obtain ⟨b, o, c, ha, hb, hc, hcl⟩ := hcell j hj
  exact ⟨b, o, c, ha, hb, hc, ho.cell (Nat.ne_of_lt hb) hcl⟩

theorem byte_end {w : World} {B len cap i : Nat} {a : Option Addr} {h : Int} (hC : CurAt w B a len cap i h) (hi : i < len) (X h' : Int) (N : Nat) :
    BytePost B w (.returned (.int .i64 (X % 256))) (((w.setCell ⟨B, 2, none⟩ (.int .i64 h')).drewN N).setCell ⟨B, 1, none⟩ (.int .i64 ((i : Int) + 1))) := by
  have HO : Only B w (((w.setCell ⟨B, 2, none⟩ (.int .i64 h')).drewN N).setCell ⟨B, 1, none⟩ (.int .i64 ((i : Int) + 1))) := (((Only.refl B w).setCell 2 _).drewN N).setCell 1 _
  refine ⟨_, by omega, by omega, rfl, HO, cur_step hC HO (i' := i + 1) (h' := h') ?_ (by omega)⟩
  have h1 := heap_setCell (o := 2) (.int .i64 h') hC.1
  have h2 : ((w.setCell ⟨B, 2, none⟩ (.int .i64 h')).drewN N).heap[B]? = _ := h1
  have h3 := heap_setCell (o := 1) (.int .i64 ((i : Int) + 1)) h2
  rw [h3]
  rfl
theorem byte_end0 {w : World} {B len cap i : Nat} {a : Option Addr} {h : Int} (hC : CurAt w B a len cap i h) (X h' : Int) (N M : Nat) :
    BytePost B w (.returned (.int .i64 (X % 256))) (((w.setCell ⟨B, 2, none⟩ (.int .i64 h')).drewN N).drewN M) := by
  have HO : Only B w (((w.setCell ⟨B, 2, none⟩ (.int .i64 h')).drewN N).drewN M) := (((Only.refl B w).setCell 2 _).drewN N).drewN M
  refine ⟨_, by omega, by omega, rfl, HO, cur_step hC HO (i' := i) (h' := h') ?_ hC.2.1⟩
  have h1 := heap_setCell (o := 2) (.int .i64 h') hC.1
  have h2 : (((w.setCell ⟨B, 2, none⟩ (.int .i64 h')).drewN N).drewN M).heap[B]? = _ := h1
  rw [h2]
  rfl
theorem byte_in (w : World) (B b o len cap i c : Nat) (h : Int) (hC : CurAt w B (some ⟨b, o, none⟩) len cap i h) (hi : i < len) (hcell : w.cell? ⟨b, o + i, none⟩ = some (.int .u8 c)) (hc : c ≤ 255) (hb : b ≠ B) :
    Calls Tryz.prog 51 #[.pointer (some ⟨B, 0, none⟩)] w (BytePost B w) := by
  have HC := Lib.hid hC
  obtain ⟨hc0, hc1, hc2, hf⟩ := cur_cells hC.1
  have hl := hC.2.2.1
  clear hC
  have hf1 := hf 1
  have hf2 := hf 2
  have e255 := i64_and255
  clear hf
  go_enter Tryz.func51, Tryz.ntmps51
  go_wp2
  go_quiet (fail)
  go_wp2
  go_quiet (fail)
  go_wp2
  go_quiet (fail)
  go_wp2
  go_ret
  exact byte_end HC.out hi _ _ _
theorem byte_out (w : World) (B len cap : Nat) (a : Option Addr) (h : Int) (hC : CurAt w B a len cap len h) :
    Calls Tryz.prog 51 #[.pointer (some ⟨B, 0, none⟩)] w (BytePost B w) := by
  have HC := Lib.hid hC
  obtain ⟨hc0, hc1, hc2, hf⟩ := cur_cells hC.1
  have hl := hC.2.2.1
  clear hC
  have hf1 := hf 1
  have hf2 := hf 2
  have e255 := i64_and255
  clear hf
  go_enter Tryz.func51, Tryz.ntmps51
  go_wp2
  go_quiet (fail)
  go_wp2
  go_quiet (fail)
  go_wp2
  go_ret
  exact byte_end0 HC.out _ _ _ _
theorem byte_any (w : World) (B : Nat) (hC : Cur w B) : Calls Tryz.prog 51 #[.pointer (some ⟨B, 0, none⟩)] w (BytePost B w) := by
  obtain ⟨a, len, cap, i, h, hC⟩ := hC
  by_cases hi : i < len
  · obtain ⟨b, o, c, rfl, hb, hc, hcl⟩ := hC.2.2.2 i hi
    exact byte_in w B b o len cap i c h hC hi hcl hc (Nat.ne_of_lt hb)
  · obtain rfl : i = len := by have := hC.2.1; omega
    exact byte_out w B i cap a h hC

/-- a draw of a number: x in a range, the cursor stepped -/
def DrawPost (B : Nat) (P : Int → Prop) (w : World) (e : Ending) (w' : World) : Prop := ∃ x : Int, P x ∧ e = .returned (.int .i64 x) ∧ Only B w w' ∧ Cur w' B
theorem below_low (w : World) (B : Nat) (n : Int) (hC : Cur w B) (hn : n ≤ 0) : Calls Tryz.prog 30 #[.pointer (some ⟨B, 0, none⟩), .int .i64 n] w (DrawPost B (· = 0) w) := by
  go_enter Tryz.func30, Tryz.ntmps30
  go_wp2
  go_ret
  exact ⟨_, rfl, rfl, Only.refl _ _, hC⟩
theorem below_mid (w : World) (B : Nat) (n : Int) (hC : Cur w B) (hn : 0 < n) (hn2 : n ≤ 256) : Calls Tryz.prog 30 #[.pointer (some ⟨B, 0, none⟩), .int .i64 n] w (DrawPost B (fun x => 0 ≤ x ∧ x < n) w) := by
  have hb := byte_any w B hC
  go_enter Tryz.func30, Tryz.ntmps30
  go_wp2_with (go_at_call 51; refine hb.mono ?_; rintro e w1 ⟨x, hx0, hx1, rfl, ho, hc⟩)
  go_ret
  exact ⟨_, ⟨Int.emod_nonneg _ (by omega), Int.emod_lt_of_pos _ (by omega)⟩, rfl, ho, hc⟩
theorem below_high (w : World) (B : Nat) (n : Int) (hC : Cur w B) (hn : 256 < n) : Calls Tryz.prog 30 #[.pointer (some ⟨B, 0, none⟩), .int .i64 n] w (DrawPost B (fun x => 0 ≤ x ∧ x < n) w) := by
  go_enter Tryz.func30, Tryz.ntmps30
  go_wp2_with fail
  refine (byte_any w B hC).mono ?_
  rintro e w1 ⟨x, hx0, hx1, rfl, ho1, hc1⟩
  go_wp2_with fail
  refine (byte_any w1 B hc1).mono ?_
  rintro e w2 ⟨y, hy0, hy1, rfl, ho2, hc2⟩
  go_wp2_with fail
  refine (byte_any w2 B hc2).mono ?_
  rintro e w3 ⟨z, hz0, hz1, rfl, ho3, hc3⟩
  go_wp2
  go_ret
  exact ⟨_, ⟨Int.emod_nonneg _ (by omega), Int.emod_lt_of_pos _ (by omega)⟩, rfl, (ho1.trans ho2).trans ho3, hc3⟩
theorem below_any (w : World) (B : Nat) (n : Int) (hC : Cur w B) (hn : 0 < n) : Calls Tryz.prog 30 #[.pointer (some ⟨B, 0, none⟩), .int .i64 n] w (DrawPost B (fun x => 0 ≤ x ∧ x < n) w) := by
  by_cases h : n ≤ 256
  · exact below_mid w B n hC hn h
  · exact below_high w B n hC (by omega)
theorem once_any (w : World) (B : Nat) (n : Int) (hC : Cur w B) (hn : 0 < n) : Calls Tryz.prog 29 #[.pointer (some ⟨B, 0, none⟩), .int .i64 n] w fun e w' => ∃ b : Bool, e = .returned (.bool b) ∧ Only B w w' ∧ Cur w' B := by
  have hb := below_any w B n hC hn
  go_enter Tryz.func29, Tryz.ntmps29
  go_wp2_with (go_at_call 30; refine hb.mono ?_; rintro e w1 ⟨x, ⟨hx0, hx1⟩, rfl, ho, hc⟩)
  go_ret
  exact ⟨_, rfl, ho, hc⟩
/-- an element of a list that lies whole in memory outside the cursor's block -/
theorem int_any (w : World) (B b : Nat) (l : List Int) (cap : Nat) (hC : Cur w B) (hb : b ≠ B) (hl : 0 < l.length) (hl2 : l.length ≤ 1000) (hcells : ∀ j (hj : j < l.length), w.cell? ⟨b, j, none⟩ = some (.int .i64 l[j])) :
    Calls Tryz.prog 36 #[.pointer (some ⟨B, 0, none⟩), .slice (some ⟨b, 0, none⟩) l.length cap] w (DrawPost B (· ∈ l) w) := by
  go_enter Tryz.func36, Tryz.ntmps36
  go_wp2_with fail
  refine (below_any w B l.length hC (by omega)).mono ?_
  rintro e w1 ⟨x, ⟨hx0, hx1⟩, rfl, ho, hc⟩
  obtain ⟨k, rfl⟩ : ∃ k : Nat, x = k := ⟨x.toNat, by omega⟩
  have hk : k < l.length := by omega
  have hcell : w1.cell? ⟨b, k, none⟩ = some (.int .i64 l[k]) := ho.cell hb (hcells k hk)
  clear hcells
  go_wp2
  go_ret
  exact ⟨_, List.getElem_mem hk, rfl, ho, hc⟩

/-- the bytes of a draw's code, as they lie in the world of the call -/
def CodeAt (w : World) (a : Option Addr) (len : Nat) : Prop := ∀ j, j < len → ∃ (b o c : Nat), a = some ⟨b, o, none⟩ ∧ b < w.heap.size ∧ c ≤ 255 ∧ w.cell? ⟨b, o + j, none⟩ = some (.int .u8 c)
theorem CodeAt.below {w w' : World} {a : Option Addr} {len : Nat} (h : CodeAt w a len) (hb : Below w.heap.size w w') : CodeAt w' a len := by
  intro j hj
  obtain ⟨b, o, c, ha, hlt, hc, hcl⟩ := h j hj
  exact ⟨b, o, c, ha, Nat.lt_of_lt_of_le hlt hb.size, hc, by rw [hb.cell (p := ⟨b, o + j, none⟩) hlt]; exact hcl⟩
set_option maxRecDepth 100000 in
theorem open_code {H : Type} {enc : TypeId × Value → H} {W : World} {base : Nat} {v : Value} {d : DataW H} {p : List MemPlace} (hv : Value.okWide Tryz.prog W .any base 22 v)
    (h : DataW.Trod enc Tryz.prog W 0 (fun _ => true) true 22 v d p) (hp : ∀ x ∈ p, x.block < W.heap.size) : ∃ a len cap, v = .slice a len cap ∧ CodeAt W a len ∧ len ≤ maxLen := by
  obtain ⟨a0, len, cap, rfl⟩ := WideShapes.okWide_slice Tryz.underlying22 hv
  obtain ⟨fuel, hf⟩ := h
  have hc1 : Tryz.prog.cellsOf 5 = 1 := by kernel_rfl
  rcases ChangeShapes.open_ints Tryz.underlying22 Tryz.underlying5 hc1 hf with ⟨hcs, hx⟩ | ⟨a, len', cap', zs, hcs, _, hl, hm, hz, hx, hcell, hwz⟩
  · simp [Value.cells] at hcs
    obtain ⟨rfl, rfl, rfl⟩ := hcs
    exact ⟨none, 0, 0, rfl, fun j hj => absurd hj (by omega), Nat.zero_le _⟩
  · simp [Value.cells] at hcs
    obtain ⟨rfl, rfl, rfl⟩ := hcs
    simp only [if_true] at hz
    refine ⟨some a, len, cap, rfl, fun j hj => ?_, Nat.le_trans hl hm⟩
    obtain ⟨b, off, spot⟩ := a
    have hspot : spot = none := by simpa [Addr.add] using World.cell?_spot (hcell 0 (by omega))
    subst hspot
    have hcj := hcell j (by omega)
    have hplain : (⟨b, off, none⟩ : Addr).add j = ⟨b, off + j, none⟩ := by unfold Addr.add; split <;> simp_all
    rw [hplain] at hcj
    have hw := hwz (zs.getD j 0) (by rw [List.getD_eq_getElem?_getD, List.getElem?_eq_getElem (by omega)]; exact List.getElem_mem _)
    have hw2 : (decide (IntKind.u8.min ≤ zs.getD j 0) && decide (zs.getD j 0 ≤ IntKind.u8.max)) = true := hw
    rw [Bool.and_eq_true, decide_eq_true_eq, decide_eq_true_eq] at hw2
    have e1 : IntKind.u8.min = 0 := rfl
    have e2 : IntKind.u8.max = 255 := rfl
    rw [e1, e2] at hw2
    simp only [Prod.mk.injEq] at hx
    have hmem : MemPlace.cell b off ∈ p := by
      rw [hx.2]; exact MemPlace.mem_row.2 ⟨0, by omega, by simp⟩
    exact ⟨b, off, (zs.getD j 0).toNat, rfl, hp _ hmem, by omega, by rw [hcj, Int.toNat_of_nonneg hw2.1]⟩
theorem big_yes (a : Option Addr) (len cap : Nat) (w : World) (h : 1048576 < len) (hm : len ≤ maxLen) : Calls Tryz.prog 5 #[.slice a len cap] w fun e w' => e = .returned (.bool true) ∧ w = w' := by
  unfold maxLen at hm
  go_enter Tryz.func5, Tryz.ntmps5
  go_wp2
  go_ret
  exact ⟨by simp; omega, rfl⟩
theorem big_no (a : Option Addr) (len cap : Nat) (w : World) (h : len ≤ 1048576) : Calls Tryz.prog 5 #[.slice a len cap] w fun e w' => e = .returned (.bool false) ∧ w = w' := by
  have h2 : ¬ (1048576 < (len : Int)) := by omega
  go_enter Tryz.func5, Tryz.ntmps5
  go_wp2
  go_ret
  exact ⟨rfl, rfl⟩
theorem new_end {w : World} {a : Option Addr} {len cap : Nat} (hC : CodeAt w a len) (h : Int) (hl : len ≤ 1048576) :
    Ending.returned (.pointer (some ⟨w.heap.size, 0, none⟩)) = .returned (.pointer (some ⟨w.heap.size, 0, none⟩)) ∧ Below w.heap.size w (w.alloc (.cells #[.slice a len cap, .int .i64 0, .int .i64 h] 62)) ∧
      Cur (w.alloc (.cells #[.slice a len cap, .int .i64 0, .int .i64 h] 62)) w.heap.size ∧ w.heap.size < (w.alloc (.cells #[.slice a len cap, .int .i64 0, .int .i64 h] 62)).heap.size := by
  have hb : Below w.heap.size w (w.alloc (.cells #[.slice a len cap, .int .i64 0, .int .i64 h] 62)) := (Below.refl _ _).alloc (Nat.le_refl _) _
  refine ⟨rfl, hb, ⟨a, len, cap, 0, h, ?_, Nat.zero_le _, by omega, fun j hj => ?_⟩, by simp⟩
  · show (w.heap.push _)[w.heap.size]? = _
    rw [Array.getElem?_push_size]; rfl
  · obtain ⟨b, o, c, ha, hlt, hc, hcl⟩ := hC.below hb j hj
    obtain ⟨b', o', c', ha', hlt', _⟩ := hC j hj
    rw [ha] at ha'
    have : b = b' := by injection ha' with e; injection e
    exact ⟨b, o, c, ha, by omega, hc, hcl⟩
theorem new_any (a : Option Addr) (len cap : Nat) (w : World) (hC : CodeAt w a len) (hl : len ≤ 1048576) :
    Calls Tryz.prog 25 #[.slice a len cap] w fun e w' => e = .returned (.pointer (some ⟨w.heap.size, 0, none⟩)) ∧ Below w.heap.size w w' ∧ Cur w' w.heap.size ∧ w.heap.size < w'.heap.size := by
  have HC := Lib.hid hC
  have e30 := i64_and30
  clear hC
  go_enter Tryz.func25, Tryz.ntmps25
  go_wp2
  go_loop [3, 4] (fun h i => ∃ (i' : Nat) (h' : Int), i = .int .i64 i' ∧ h = .int .i64 h' ∧ i' ≤ len ∧ 0 ≤ h' ∧ h' ≤ 1073741823) (fun _ i => len - (intOf i).toNat)
  case atStart => exact ⟨0, _, rfl, rfl, Nat.zero_le _, by omega, by omega⟩
  case round =>
    obtain ⟨i', h', rfl, rfl, hi, hh0, hh1⟩ := hrel
    by_cases hlt : i' < len
    · by_cases h4 : (i' : Int) < 4000
      · obtain ⟨b, o, c, rfl, hbw, hc, hcl⟩ := HC.out i' hlt
        go_wp2
        go_round
        case rel => exact ⟨i' + 1, _, by go_num, rfl, by omega, by omega, by omega⟩
        case measure => simp [intOf]; omega
      · go_wp2
        go_ret
        exact new_end HC.out _ hl
    · go_wp2
      go_ret
      exact new_end HC.out _ hl

/-- the numbers that a draw may give: ints -/
def isInt (x : Int) : Prop := -9223372036854775808 ≤ x ∧ x ≤ 9223372036854775807
theorem Cur.lt {w : World} {B : Nat} (h : Cur w B) : B < w.heap.size := by
  obtain ⟨_, _, _, _, _, h, _⟩ := h
  rcases Nat.lt_or_ge B w.heap.size with h' | h'
  · exact h'
  · simp [Array.getElem?_eq_none h'] at h
theorem Cur.only {w w' : World} {B C : Nat} (h : Cur w B) (ho : Only C w w') (hne : B ≠ C) (hcode : ∀ p v, p.block ≠ B → w.cell? p = some v → w'.cell? p = some v) : Cur w' B := by
  have hlt := h.lt
  obtain ⟨a, len, cap, i, hh, h1, h2, h3, h4⟩ := h
  refine ⟨a, len, cap, i, hh, by rw [ho.block B hlt hne]; exact h1, h2, h3, fun j hj => ?_⟩
  obtain ⟨b, o, c, ha, hb, hc, hcl⟩ := h4 j hj
  exact ⟨b, o, c, ha, hb, hc, hcode _ _ (Nat.ne_of_lt hb) hcl⟩
theorem Cur.below {w w' : World} {B N : Nat} (h : Cur w B) (hb : Below N w w') (hN : B < N) : Cur w' B := by
  obtain ⟨a, len, cap, i, hh, h1, h2, h3, h4⟩ := h
  refine ⟨a, len, cap, i, hh, by rw [hb.block B hN]; exact h1, h2, h3, fun j hj => ?_⟩
  obtain ⟨b, o, c, ha, hlt, hc, hcl⟩ := h4 j hj
  exact ⟨b, o, c, ha, hlt, hc, by rw [World.cell?_of_block (w := w) (w' := w') (hb.block b (by omega))]; exact hcl⟩
theorem Only.then_below {B N : Nat} {a w w' : World} (h : Only B a w) (hb : Below N w w') (hN : a.heap.size ≤ N) : Only B a w' :=
  ⟨hb.os.trans h.os, hb.tape.trans h.tape, hb.output.trans h.output, Nat.le_trans h.size hb.size, fun k hk hB => (hb.block k (by omega)).trans (h.block k hk hB)⟩
theorem Cur.alloc {w : World} {B : Nat} (h : Cur w B) (o : Obj) : Cur (w.alloc o) B :=
  h.only ((Only.refl w.heap.size w).alloc o) (Nat.ne_of_lt h.lt) fun p v _ hc => by
    have hlt : p.block < w.heap.size := by
      rcases Nat.lt_or_ge p.block w.heap.size with h' | h'
      · exact h'
      · simp [World.cell?, Array.getElem?_eq_none h'] at hc
    exact ((Only.refl w.heap.size w).alloc o).cell (Nat.ne_of_lt hlt) hc
theorem cell_new (w : World) (l : List Int) (T : TypeId) (j : Nat) (hj : j < l.length) : (w.alloc (.cells (l.map (Value.int .i64)).toArray T)).cell? ⟨w.heap.size, j, none⟩ = some (.int .i64 l[j]) := by
  have := World.cell?_alloc_mark w (l.map (Value.int .i64)).toArray T (0, 0) j
  rw [this]
  simp [hj]
/-- a draw out of a list that the call itself wrote down -/
theorem int_lit (w : World) (B : Nat) (l : List Int) (T : TypeId) (P : Int → Prop) (hC : Cur w B) (hl : 0 < l.length) (hl2 : l.length ≤ 1000) (hP : ∀ x ∈ l, P x) :
    Calls Tryz.prog 36 #[.pointer (some ⟨B, 0, none⟩), .slice (some ⟨w.heap.size, 0, none⟩) l.length l.length] (w.alloc (.cells (l.map (Value.int .i64)).toArray T)) (DrawPost B P w) :=
  (int_any _ B w.heap.size l l.length (hC.alloc _) (Nat.ne_of_gt hC.lt) hl hl2 (fun j hj => cell_new w l T j hj)).mono fun _ _ ⟨x, hx, he, ho, hc⟩ => ⟨x, hP x hx, he, ((Only.refl B w).alloc _).trans ho, hc⟩
def isNum (x : Int) : Prop := 0 ≤ x ∧ x ≤ 1000000000000000
theorem num_any (w : World) (B : Nat) (hC : Cur w B) : Calls Tryz.prog 91 #[.pointer (some ⟨B, 0, none⟩)] w (DrawPost B isNum w) := by
  go_enter Tryz.func91, Tryz.ntmps91
  go_wp2_with fail
  refine (below_any w B 5 hC (by decide)).mono ?_
  rintro e w1 ⟨x, ⟨hx0, hx1⟩, rfl, ho, hc⟩
  have hx : x = 0 ∨ x = 1 ∨ x = 2 ∨ x = 3 ∨ x = 4 := by omega
  rcases hx with rfl | rfl | rfl | rfl | rfl
  · go_wp2_with fail
    refine (below_any w1 B 70000 hc (by decide)).mono ?_
    rintro e w2 ⟨x, hx, rfl, ho2, hc2⟩
    go_wp2
    go_ret
    exact ⟨_, by unfold isNum; omega, rfl, ho.trans ho2, hc2⟩
  · have hd := int_lit w1 B [0, 1, 9, 10, 255, 256, 65535, 65536, 1000000000000000] 3 isNum hc (by decide) (by decide) (by unfold isNum; decide)
    go_wp2_with fail
    refine hd.mono ?_
    rintro e w2 ⟨x, hx, rfl, ho2, hc2⟩
    go_wp2
    go_ret
    exact ⟨_, hx, rfl, ho.trans ho2, hc2⟩
  · go_wp2_with fail
    refine (below_any w1 B 1000000 hc (by decide)).mono ?_
    rintro e w2 ⟨x, ⟨hx0, hx1⟩, rfl, ho2, hc2⟩
    go_wp2_with fail
    refine (below_any w2 B 1000000 hc2 (by decide)).mono ?_
    rintro e w3 ⟨y, ⟨hy0, hy1⟩, rfl, ho3, hc3⟩
    have hxy0 : 0 ≤ x * y := Int.mul_nonneg hx0 hy0
    have hxy1 : x * y ≤ 999999 * 999999 := Int.mul_le_mul (by omega) (by omega) hy0 (by omega)
    go_wp2
    go_ret
    exact ⟨_, ⟨hxy0, by omega⟩, rfl, (ho.trans ho2).trans ho3, hc3⟩
  · go_wp2_with fail
    refine (below_any w1 B 50 hc (by decide)).mono ?_
    rintro e w2 ⟨x, ⟨hx0, hx1⟩, rfl, ho2, hc2⟩
    obtain ⟨k, rfl⟩ : ∃ k : Nat, x = k := ⟨x.toNat, by omega⟩
    have hk : k < 50 := by omega
    have hp : (0 : Int) ≤ 2 ^ k ∧ (2 : Int) ^ k ≤ 1000000000000000 := by
      have key : ∀ i : Fin 50, (0 : Int) ≤ 2 ^ i.val ∧ (2 : Int) ^ i.val ≤ 1000000000000000 := by decide
      exact key ⟨k, hk⟩
    go_wp2
    go_ret
    exact ⟨_, hp, rfl, ho.trans ho2, hc2⟩
  · go_wp2_with fail
    refine (below_any w1 B 30 hc (by decide)).mono ?_
    rintro e w2 ⟨x, ⟨hx0, hx1⟩, rfl, ho2, hc2⟩
    go_wp2
    go_ret
    exact ⟨_, by unfold isNum; omega, rfl, ho.trans ho2, hc2⟩
def isSgn (x : Int) : Prop := -1000000000000000 ≤ x ∧ x ≤ 1000000000000000
theorem signed_any (w : World) (B : Nat) (hC : Cur w B) : Calls Tryz.prog 72 #[.pointer (some ⟨B, 0, none⟩)] w (DrawPost B isSgn w) := by
  go_enter Tryz.func72, Tryz.ntmps72
  go_wp2_with fail
  refine (once_any w B 2 hC (by decide)).mono ?_
  rintro e w1 ⟨b, rfl, ho, hc⟩
  cases b
  all_goals
    go_wp2_with fail
    refine (num_any w1 B hc).mono ?_
    rintro e w2 ⟨x, ⟨hx0, hx1⟩, rfl, ho2, hc2⟩
    go_wp2
    go_ret
    exact ⟨_, by unfold isSgn; omega, rfl, ho.trans ho2, hc2⟩
def Single (P : Int → Prop) (w : World) (e : Ending) (w' : World) : Prop := ∃ x : Int, P x ∧ e = .returned (.int .i64 x) ∧ Below w.heap.size w w'
theorem below_only {w w1 w2 : World} {B : Nat} (h : Below w.heap.size w w1) (ho : Only B w1 w2) (hB : B = w.heap.size) : Below w.heap.size w w2 :=
  h.trans (ho.below w.heap.size (by omega) h.size)
end Go.Proofs.YtelehfefhlgbkaaGreatDoor
/- Draws of strings out of lists. -/
namespace Go.Proofs.YtelehfefhlgbkaaGreatDoor
open Go.RowKit
def Word (w : World) (e : Ending) (w' : World) : Prop := ∃ l : List UInt8, l.length ≤ 1000 ∧ e = .returned (.string ⟨l.toArray⟩) ∧ Below w.heap.size w w'
def StrPost (B : Nat) (P : List UInt8 → Prop) (w : World) (e : Ending) (w' : World) : Prop := ∃ l : List UInt8, P l ∧ e = .returned (.string ⟨l.toArray⟩) ∧ Only B w w' ∧ Cur w' B
def sv (l : List UInt8) : Value := .string ⟨l.toArray⟩
theorem str_any (w : World) (B b : Nat) (l : List (List UInt8)) (cap : Nat) (hC : Cur w B) (hb : b ≠ B) (hl : 0 < l.length) (hl2 : l.length ≤ 1000) (hcells : ∀ j (hj : j < l.length), w.cell? ⟨b, j, none⟩ = some (sv l[j])) :
    Calls Tryz.prog 45 #[.pointer (some ⟨B, 0, none⟩), .slice (some ⟨b, 0, none⟩) l.length cap] w (StrPost B (· ∈ l) w) := by
  unfold sv at hcells
  go_enter Tryz.func45, Tryz.ntmps45
  go_wp2_with fail
  refine (below_any w B l.length hC (by omega)).mono ?_
  rintro e w1 ⟨x, ⟨hx0, hx1⟩, rfl, ho, hc⟩
  obtain ⟨k, rfl⟩ : ∃ k : Nat, x = k := ⟨x.toNat, by omega⟩
  have hk : k < l.length := by omega
  have hcell : w1.cell? ⟨b, k, none⟩ = some (.string ⟨(l[k]).toArray⟩) := ho.cell hb (hcells k hk)
  have hmem : l[k] ∈ l := List.getElem_mem hk
  generalize l[k] = word at hcell hmem
  clear hcells
  go_wp2
  go_ret
  exact ⟨_, hmem, rfl, ho, hc⟩
theorem scell_new (w : World) (l : List (List UInt8)) (T : TypeId) (j : Nat) (hj : j < l.length) : (w.alloc (.cells (l.map sv).toArray T)).cell? ⟨w.heap.size, j, none⟩ = some (sv l[j]) := by
  have := World.cell?_alloc_mark w (l.map sv).toArray T (0, 0) j
  rw [this]
  simp [hj]
theorem str_lit (w : World) (B : Nat) (l : List (List UInt8)) (T : TypeId) (P : List UInt8 → Prop) (hC : Cur w B) (hl : 0 < l.length) (hl2 : l.length ≤ 1000) (hP : ∀ x ∈ l, P x) :
    Calls Tryz.prog 45 #[.pointer (some ⟨B, 0, none⟩), .slice (some ⟨w.heap.size, 0, none⟩) l.length l.length] (w.alloc (.cells (l.map sv).toArray T)) (StrPost B P w) :=
  (str_any _ B w.heap.size l l.length (hC.alloc _) (Nat.ne_of_gt hC.lt) hl hl2 (fun j hj => scell_new w l T j hj)).mono fun _ _ ⟨x, hx, he, ho, hc⟩ => ⟨x, hP x hx, he, ((Only.refl B w).alloc _).trans ho, hc⟩
end Go.Proofs.YtelehfefhlgbkaaGreatDoor
/- A fact on lists: one more element of a copy. -/
namespace Go.Proofs.YtelehfefhlgbkaaGreatDoor
theorem fill_set {α : Type} (xs z : List α) (k : Nat) (hk : k < xs.length) (hz : xs.length = z.length) : (xs.take k ++ z.drop k).set k xs[k] = xs.take (k + 1) ++ z.drop (k + 1) := by
  have hzk : k < z.length := by omega
  rw [List.set_append]
  have h1 : (xs.take k).length = k := by simp; omega
  rw [h1, if_neg (by omega), Nat.sub_self, List.drop_eq_getElem_cons hzk, List.set_cons_zero, List.take_succ_eq_append_getElem hk, List.append_assoc]
  rfl
end Go.Proofs.YtelehfefhlgbkaaGreatDoor
/- A row of the call's own: facts. -/
namespace Go.Proofs.YtelehfefhlgbkaaGreatDoor
open Go.RowKit
theorem byteInfo' : (Tryz.prog.info? 5).map (fun i => (i.zero, i.size, i.bytes)) = some (some (.int .u8 0), 1, 1) := by kernel_rfl
theorem addr_add (b o j : Nat) : (⟨b, o, none⟩ : Addr).add j = ⟨b, o + j, none⟩ := by unfold Addr.add; split <;> simp_all
theorem own_nonnil {w : World} {B E n : Nat} {v : Value} {xs : List Value} (h : w.ownsRow B E 1 v n xs) (hn : 0 < n) : v ≠ .slice none 0 0 := by
  rcases h.2 with ⟨_, h0⟩ | ⟨g, cap, cur, rfl, _⟩
  · omega
  · intro e; cases e
/-- what PutRune hands on: a row of its own that holds the bytes l -/
def Fresh (w : World) (l : List UInt8) (e : Ending) (w' : World) : Prop := ∃ v', e = .returned v' ∧ v' ≠ .slice none 0 0 ∧ w'.ownsRow w.heap.size 5 1 v' l.length (bv l) ∧ Below w.heap.size w w'
theorem own_take {w : World} {B E n cap g k : Nat} {xs : List Value} (h : w.ownsRow B E 1 (.slice (some ⟨g, 0, none⟩) n cap) n xs) (hk : k ≤ n) : w.ownsRow B E 1 (.slice (some ⟨g, 0, none⟩) k cap) k (xs.take k) := by
  have hl := h.1
  refine ⟨by rw [List.length_take]; omega, ?_⟩
  rcases h.2 with ⟨h, _⟩ | ⟨g', cap', cur, h, hb, hg, hnc, hcm, hcs, htake⟩
  · cases h
  · injection h with h1 h2 h3
    injection h1 with h1
    injection h1 with h1
    subst h1
    subst h3
    refine .inr ⟨g, cap, cur, rfl, hb, hg, by omega, hcm, hcs, ?_⟩
    rw [← htake, List.take_take]
    congr 1
    omega
theorem bv_take (l : List UInt8) (k : Nat) : (bv l).take k = bv (l.take k) := by simp [bv, List.map_take]
theorem bv_set (l : List UInt8) (k : Nat) (z : Int) (h0 : 0 ≤ z) (h1 : z < 256) : (bv l).set k (.int .u8 z) = bv (l.set k (UInt8.ofNat z.toNat)) := by
  unfold bv
  rw [List.map_set]
  congr 2
  have : (UInt8.ofNat z.toNat).toNat = z.toNat % 256 := by simp
  rw [this]
  omega
theorem own_shape {w : World} {B E n : Nat} {v : Value} {xs : List Value} (h : w.ownsRow B E 1 v n xs) (hv : v ≠ .slice none 0 0) : ∃ g cap, v = .slice (some ⟨g, 0, none⟩) n cap ∧ B ≤ g ∧ n ≤ cap ∧ cap ≤ maxLen := by
  rcases h.2 with ⟨h, _⟩ | ⟨g, cap, cur, rfl, hb, _, h1, h2, _⟩
  · exact absurd h hv
  · exact ⟨g, cap, rfl, hb, h1, h2⟩
theorem own_base {w : World} {B B' E n : Nat} {v : Value} {xs : List Value} (h : w.ownsRow B E 1 v n xs) (hB : B' ≤ B) : w.ownsRow B' E 1 v n xs := by
  refine ⟨h.1, ?_⟩
  rcases h.2 with h | ⟨g, cap, cur, hv, hb, rest⟩
  · exact .inl h
  · exact .inr ⟨g, cap, cur, hv, Nat.le_trans hB hb, rest⟩
theorem own_cells {w : World} {B E n cap g : Nat} {xs : List Value} (h : w.ownsRow B E 1 (.slice (some ⟨g, 0, none⟩) n cap) n xs) (j : Nat) (u : Value) (hu : xs[j]? = some u) : w.cell? ⟨g, 0 + j, none⟩ = some u := by
  have h1 := (List.getElem?_eq_some_iff.1 hu).1
  have h2 := h.1
  rw [Nat.zero_add, h.cellAt j (by omega)]
  exact hu
theorem sub_reads {w : World} {g n c off len c' j k : Nat} {l : List UInt8} (h : Reads w (.slice (some ⟨g, 0, none⟩) n c) (bv l)) (hjk : j + k ≤ l.length) (ho : off = j) (hl : len = k) : Reads w (.slice (some ⟨g, off, none⟩) len c') (bv ((l.drop j).take k)) := by
  subst ho hl
  refine ⟨_, c', by rw [bv_length, List.length_take, List.length_drop, Nat.min_eq_left (by omega)], fun i hi => ⟨g, off, rfl, ?_⟩⟩
  have hi' : i < len := by rw [bv_length, List.length_take, List.length_drop] at hi; omega
  obtain ⟨a, c2, e, hc⟩ := h
  obtain ⟨b, o, ha, hcl⟩ := hc (off + i) (by rw [bv_length]; omega)
  injection e with e1 e2 e3
  rw [ha] at e1
  injection e1 with e1
  injection e1 with e1 e4
  subst e1
  subst e4
  rw [Nat.zero_add] at hcl
  rw [hcl]
  simp [bv]
theorem slc_sl {w : World} {v : Value} {xs : List Value} (h : Sl w v xs) : Slc w v xs := .inr h
theorem below_alloc (w : World) (o : Obj) : Below w.heap.size w (w.alloc o) := (Below.refl w.heap.size w).alloc (Nat.le_refl _) o
end Go.Proofs.YtelehfefhlgbkaaGreatDoor
