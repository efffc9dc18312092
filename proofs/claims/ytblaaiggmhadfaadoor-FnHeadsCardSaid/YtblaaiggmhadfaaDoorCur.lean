/- The model's cursor over the bytes of a draw: what its functions return (some number in a range) and what they change (the cursor's own block). -/
import Derived.Test.YtblaaiggmhadfaaDoorRows
import Derived.Test.YtblaaiggmhadfaaDoorIn
import Derived.Test.YtblaaiggmhadfaaDoorMem
import Derived.WalkKit
import Derived.Lib.Hide
import Derived.Outline
import Derived.ProofKit
import Derived.Deep.QuietTactic
import Derived.BigQuiet
namespace Go.Proofs.YtblaaiggmhadfaaDoor
open Go.RowKit
/-- the cursor over the bytes of a slice that lies outside its block -/
def CurAt (w : World) (B : Nat) (a : Option Addr) (len cap : Nat) (i : Nat) (h : Int) : Prop :=
  w.heap[B]? = some (.cells #[.slice a len cap, .int .i64 i, .int .i64 h] 63) ∧ i ≤ len ∧ len ≤ 140737488355328 ∧
    ∀ j, j < len → ∃ (b o c : Nat), a = some ⟨b, o, none⟩ ∧ b < B ∧ c ≤ 255 ∧ w.cell? ⟨b, o + j, none⟩ = some (.int .u8 c)
def Cur (w : World) (B : Nat) : Prop := ∃ a len cap i h, CurAt w B a len cap i h
theorem cur_cells {w : World} {B : Nat} {T : TypeId} {x y z : Value} (h : w.heap[B]? = some (.cells #[x, y, z] T)) :
    w.cell? ⟨B, 0, none⟩ = some x ∧ w.cell? ⟨B, 1, none⟩ = some y ∧ w.cell? ⟨B, 2, none⟩ = some z ∧ (∀ o, w.frozen? ⟨B, o, none⟩ = false) := by
  refine ⟨by simp [World.cell?, h], by simp [World.cell?, h], by simp [World.cell?, h], fun o => by simp [World.frozen?, h]⟩

theorem i64_and255 (n : Int) : bits .and .i64 n 255 = n % 256 := by
  have h255 : (BitVec.ofInt 64 255).toNat = 2 ^ 8 - 1 := by decide
  have key : (BitVec.ofInt 64 n &&& BitVec.ofInt 64 255).toNat = (n % ((2 ^ 64 : Nat) : Int)).toNat % 2 ^ 8 := by
    rw [BitVec.toNat_and, BitVec.toNat_ofInt, h255, Nat.and_two_pow_sub_one_eq_mod]
  show IntKind.i64.wrap ((BitVec.ofInt 64 n &&& BitVec.ofInt 64 255).toNat : Nat) = n % 256
  rw [key, IntKind.wrap_i64]
  omega
theorem i64_and30 (n : Int) : bits .and .i64 n 1073741823 = n % 1073741824 := by
  have h30 : (BitVec.ofInt 64 1073741823).toNat = 2 ^ 30 - 1 := by decide
  have key : (BitVec.ofInt 64 n &&& BitVec.ofInt 64 1073741823).toNat = (n % ((2 ^ 64 : Nat) : Int)).toNat % 2 ^ 30 := by
    rw [BitVec.toNat_and, BitVec.toNat_ofInt, h30, Nat.and_two_pow_sub_one_eq_mod]
  show IntKind.i64.wrap ((BitVec.ofInt 64 n &&& BitVec.ofInt 64 1073741823).toNat : Nat) = n % 1073741824
  rw [key, IntKind.wrap_i64]
  omega
def BytePost (B : Nat) (w : World) (e : Ending) (w' : World) : Prop := ∃ x : Int, 0 ≤ x ∧ x ≤ 255 ∧ e = .returned (.int .i64 x) ∧ Only B w w' ∧ Cur w' B
theorem heap_setCell {w : World} {B o : Nat} {C : Array Value} {T : TypeId} (u : Value) (h : w.heap[B]? = some (.cells C T)) : (w.setCell ⟨B, o, none⟩ u).heap[B]? = some (.cells (C.setIfInBounds o u) T) := by
  simp [World.setCell, Array.getElem?_modify, h]
theorem cur_step {w w' : World} {B len cap i i' : Nat} {a : Option Addr} {h h' : Int} (hc : CurAt w B a len cap i h) (ho : Only B w w') (hh : w'.heap[B]? = some (.cells #[.slice a len cap, .int .i64 i', .int .i64 h'] 63)) (hi : i' ≤ len) : Cur w' B := by
  obtain ⟨_, _, hl, hcell⟩ := hc
  refine ⟨a, len, cap, i', h', hh, hi, hl, fun j hj => ?_⟩
  obtain ⟨b, o, c, ha, hb, hc, hcl⟩ := hcell j hj
  exact ⟨b, o, c, ha, hb, hc, ho.cell (Nat.ne_of_lt hb) hcl⟩

theorem byte_end {w : World} {B len cap i : Nat} {a : Option Addr} {h : Int} (hC : CurAt w B a len cap i h) (hi : i < len) (X h' : Int) (N : Nat) :
    BytePost B w (.returned (.int .i64 (X % 256))) (((w.setCell ⟨B, 2, none⟩ (.int .i64 h')).drewN N).setCell ⟨B, 1, none⟩ (.int .i64 ((i : Int) + 1))) := by
  have HO : Only B w (((w.setCell ⟨B, 2, none⟩ (.int .i64 h')).drewN N).setCell ⟨B, 1, none⟩ (.int .i64 ((i : Int) + 1))) := (((Only.refl B w).setCell 2 _).drewN N).setCell 1 _
  refine ⟨_, by omega, by omega, rfl, HO, cur_step hC HO (i' := i + 1) (h' := h') ?_ (by omega)⟩
  have h1 := heap_setCell (o := 2) (.int .i64 h') hC.1
  have h2 : ((w.setCell ⟨B, 2, none⟩ (.int .i64 h')).drewN N).heap[B]? = _ := h1
  have h3 := heap_setCell (o := 1) (.int .i64 ((i : Int) + 1)) h2
  rw [h3]
  rfl
theorem byte_end0 {w : World} {B len cap i : Nat} {a : Option Addr} {h : Int} (hC : CurAt w B a len cap i h) (X h' : Int) (N M : Nat) :
    BytePost B w (.returned (.int .i64 (X % 256))) (((w.setCell ⟨B, 2, none⟩ (.int .i64 h')).drewN N).drewN M) := by
  have HO : Only B w (((w.setCell ⟨B, 2, none⟩ (.int .i64 h')).drewN N).drewN M) := (((Only.refl B w).setCell 2 _).drewN N).drewN M
  refine ⟨_, by omega, by omega, rfl, HO, cur_step hC HO (i' := i) (h' := h') ?_ hC.2.1⟩
  have h1 := heap_setCell (o := 2) (.int .i64 h') hC.1
  have h2 : (((w.setCell ⟨B, 2, none⟩ (.int .i64 h')).drewN N).drewN M).heap[B]? = _ := h1
  rw [h2]
  rfl
theorem byte_in (w : World) (B b o len cap i c : Nat) (h : Int) (hC : CurAt w B (some ⟨b, o, none⟩) len cap i h) (hi : i < len) (hcell : w.cell? ⟨b, o + i, none⟩ = some (.int .u8 c)) (hc : c ≤ 255) (hb : b ≠ B) :
    Calls Tryd.prog 42 #[.pointer (some ⟨B, 0, none⟩)] w (BytePost B w) := by
  have HC := Lib.hid hC
  obtain ⟨hc0, hc1, hc2, hf⟩ := cur_cells hC.1
  have hl := hC.2.2.1
  clear hC
  have hf1 := hf 1
  have hf2 := hf 2
  have e255 := i64_and255
  clear hf
  go_enter Tryd.func42, Tryd.ntmps42
  go_wp2
  go_quiet (fail)
  go_wp2
  go_quiet (fail)
  go_wp2
  go_quiet (fail)
  go_wp2
  go_ret
  exact byte_end HC.out hi _ _ _
theorem byte_out (w : World) (B len cap : Nat) (a : Option Addr) (h : Int) (hC : CurAt w B a len cap len h) :
    Calls Tryd.prog 42 #[.pointer (some ⟨B, 0, none⟩)] w (BytePost B w) := by
  have HC := Lib.hid hC
  obtain ⟨hc0, hc1, hc2, hf⟩ := cur_cells hC.1
  have hl := hC.2.2.1
  clear hC
  have hf1 := hf 1
  have hf2 := hf 2
  have e255 := i64_and255
  clear hf
  go_enter Tryd.func42, Tryd.ntmps42
  go_wp2
  go_quiet (fail)
  go_wp2
  go_quiet (fail)
  go_wp2
  go_ret
  exact byte_end0 HC.out _ _ _ _
theorem byte_any (w : World) (B : Nat) (hC : Cur w B) : Calls Tryd.prog 42 #[.pointer (some ⟨B, 0, none⟩)] w (BytePost B w) := by
  obtain ⟨a, len, cap, i, h, hC⟩ := hC
  by_cases hi : i < len
  · obtain ⟨b, o, c, rfl, hb, hc, hcl⟩ := hC.2.2.2 i hi
    exact byte_in w B b o len cap i c h hC hi hcl hc (Nat.ne_of_lt hb)
  · obtain rfl : i = len := by have := hC.2.1; omega
    exact byte_out w B i cap a h hC

/-- a draw of a number: x in a range, the cursor stepped -/
def DrawPost (B : Nat) (P : Int → Prop) (w : World) (e : Ending) (w' : World) : Prop := ∃ x : Int, P x ∧ e = .returned (.int .i64 x) ∧ Only B w w' ∧ Cur w' B
theorem below_low (w : World) (B : Nat) (n : Int) (hC : Cur w B) (hn : n ≤ 0) : Calls Tryd.prog 25 #[.pointer (some ⟨B, 0, none⟩), .int .i64 n] w (DrawPost B (· = 0) w) := by
  go_enter Tryd.func25, Tryd.ntmps25
  go_wp2
  go_ret
  exact ⟨_, rfl, rfl, Only.refl _ _, hC⟩
theorem below_mid (w : World) (B : Nat) (n : Int) (hC : Cur w B) (hn : 0 < n) (hn2 : n ≤ 256) : Calls Tryd.prog 25 #[.pointer (some ⟨B, 0, none⟩), .int .i64 n] w (DrawPost B (fun x => 0 ≤ x ∧ x < n) w) := by
  have hb := byte_any w B hC
  go_enter Tryd.func25, Tryd.ntmps25
  go_wp2_with (go_at_call 42; refine hb.mono ?_; rintro e w1 ⟨x, hx0, hx1, rfl, ho, hc⟩)
  go_ret
  exact ⟨_, ⟨Int.emod_nonneg _ (by omega), Int.emod_lt_of_pos _ (by omega)⟩, rfl, ho, hc⟩
theorem below_high (w : World) (B : Nat) (n : Int) (hC : Cur w B) (hn : 256 < n) : Calls Tryd.prog 25 #[.pointer (some ⟨B, 0, none⟩), .int .i64 n] w (DrawPost B (fun x => 0 ≤ x ∧ x < n) w) := by
  go_enter Tryd.func25, Tryd.ntmps25
  go_wp2_with fail
  refine (byte_any w B hC).mono ?_
  rintro e w1 ⟨x, hx0, hx1, rfl, ho1, hc1⟩
  go_wp2_with fail
  refine (byte_any w1 B hc1).mono ?_
  rintro e w2 ⟨y, hy0, hy1, rfl, ho2, hc2⟩
  go_wp2_with fail
  refine (byte_any w2 B hc2).mono ?_
  rintro e w3 ⟨z, hz0, hz1, rfl, ho3, hc3⟩
  go_wp2
  go_ret
  exact ⟨_, ⟨Int.emod_nonneg _ (by omega), Int.emod_lt_of_pos _ (by omega)⟩, rfl, (ho1.trans ho2).trans ho3, hc3⟩
theorem below_any (w : World) (B : Nat) (n : Int) (hC : Cur w B) (hn : 0 < n) : Calls Tryd.prog 25 #[.pointer (some ⟨B, 0, none⟩), .int .i64 n] w (DrawPost B (fun x => 0 ≤ x ∧ x < n) w) := by
  by_cases h : n ≤ 256
  · exact below_mid w B n hC hn h
  · exact below_high w B n hC (by omega)
theorem once_any (w : World) (B : Nat) (n : Int) (hC : Cur w B) (hn : 0 < n) : Calls Tryd.prog 32 #[.pointer (some ⟨B, 0, none⟩), .int .i64 n] w fun e w' => ∃ b : Bool, e = .returned (.bool b) ∧ Only B w w' ∧ Cur w' B := by
  have hb := below_any w B n hC hn
  go_enter Tryd.func32, Tryd.ntmps32
  go_wp2_with (go_at_call 25; refine hb.mono ?_; rintro e w1 ⟨x, ⟨hx0, hx1⟩, rfl, ho, hc⟩)
  go_ret
  exact ⟨_, rfl, ho, hc⟩
/-- an element of a list that lies whole in memory outside the cursor's block -/
theorem int_any (w : World) (B b : Nat) (l : List Int) (cap : Nat) (hC : Cur w B) (hb : b ≠ B) (hl : 0 < l.length) (hl2 : l.length ≤ 1000) (hcells : ∀ j (hj : j < l.length), w.cell? ⟨b, j, none⟩ = some (.int .i64 l[j])) :
    Calls Tryd.prog 35 #[.pointer (some ⟨B, 0, none⟩), .slice (some ⟨b, 0, none⟩) l.length cap] w (DrawPost B (· ∈ l) w) := by
  go_enter Tryd.func35, Tryd.ntmps35
  go_wp2_with fail
  refine (below_any w B l.length hC (by omega)).mono ?_
  rintro e w1 ⟨x, ⟨hx0, hx1⟩, rfl, ho, hc⟩
  obtain ⟨k, rfl⟩ : ∃ k : Nat, x = k := ⟨x.toNat, by omega⟩
  have hk : k < l.length := by omega
  have hcell : w1.cell? ⟨b, k, none⟩ = some (.int .i64 l[k]) := ho.cell hb (hcells k hk)
  clear hcells
  go_wp2
  go_ret
  exact ⟨_, List.getElem_mem hk, rfl, ho, hc⟩

/-- the bytes of a draw's code, as they lie in the world of the call -/
def CodeAt (w : World) (a : Option Addr) (len : Nat) : Prop := ∀ j, j < len → ∃ (b o c : Nat), a = some ⟨b, o, none⟩ ∧ b < w.heap.size ∧ c ≤ 255 ∧ w.cell? ⟨b, o + j, none⟩ = some (.int .u8 c)
theorem CodeAt.below {w w' : World} {a : Option Addr} {len : Nat} (h : CodeAt w a len) (hb : Below w.heap.size w w') : CodeAt w' a len := by
  intro j hj
  obtain ⟨b, o, c, ha, hlt, hc, hcl⟩ := h j hj
  exact ⟨b, o, c, ha, Nat.lt_of_lt_of_le hlt hb.size, hc, by rw [hb.cell (p := ⟨b, o + j, none⟩) hlt]; exact hcl⟩
set_option maxRecDepth 100000 in
theorem open_code {H : Type} {enc : TypeId × Value → H} {W : World} {base : Nat} {v : Value} {d : DataW H} {p : List MemPlace} (hv : Value.okWide Tryd.prog W .any base 22 v)
    (h : DataW.Trod enc Tryd.prog W 0 (fun _ => true) true 22 v d p) (hp : ∀ x ∈ p, x.block < W.heap.size) : ∃ a len cap, v = .slice a len cap ∧ CodeAt W a len ∧ len ≤ maxLen := by
  obtain ⟨a0, len, cap, rfl⟩ := WideShapes.okWide_slice Tryd.underlying22 hv
  obtain ⟨fuel, hf⟩ := h
  have hc1 : Tryd.prog.cellsOf 5 = 1 := by kernel_rfl
  rcases ChangeShapes.open_ints Tryd.underlying22 Tryd.underlying5 hc1 hf with ⟨hcs, hx⟩ | ⟨a, len', cap', zs, hcs, _, hl, hm, hz, hx, hcell, hwz⟩
  · simp [Value.cells] at hcs
    obtain ⟨rfl, rfl, rfl⟩ := hcs
    exact ⟨none, 0, 0, rfl, fun j hj => absurd hj (by omega), Nat.zero_le _⟩
  · simp [Value.cells] at hcs
    obtain ⟨rfl, rfl, rfl⟩ := hcs
    simp only [if_true] at hz
    refine ⟨some a, len, cap, rfl, fun j hj => ?_, Nat.le_trans hl hm⟩
    obtain ⟨b, off, spot⟩ := a
    have hspot : spot = none := by simpa [Addr.add] using World.cell?_spot (hcell 0 (by omega))
    subst hspot
    have hcj := hcell j (by omega)
    have hplain : (⟨b, off, none⟩ : Addr).add j = ⟨b, off + j, none⟩ := by unfold Addr.add; split <;> simp_all
    rw [hplain] at hcj
    have hw := hwz (zs.getD j 0) (by rw [List.getD_eq_getElem?_getD, List.getElem?_eq_getElem (by omega)]; exact List.getElem_mem _)
    have hw2 : (decide (IntKind.u8.min ≤ zs.getD j 0) && decide (zs.getD j 0 ≤ IntKind.u8.max)) = true := hw
    rw [Bool.and_eq_true, decide_eq_true_eq, decide_eq_true_eq] at hw2
    have e1 : IntKind.u8.min = 0 := rfl
    have e2 : IntKind.u8.max = 255 := rfl
    rw [e1, e2] at hw2
    simp only [Prod.mk.injEq] at hx
    have hmem : MemPlace.cell b off ∈ p := by
      rw [hx.2]; exact MemPlace.mem_row.2 ⟨0, by omega, by simp⟩
    exact ⟨b, off, (zs.getD j 0).toNat, rfl, hp _ hmem, by omega, by rw [hcj, Int.toNat_of_nonneg hw2.1]⟩
theorem big_yes (a : Option Addr) (len cap : Nat) (w : World) (h : 1048576 < len) (hm : len ≤ maxLen) : Calls Tryd.prog 5 #[.slice a len cap] w fun e w' => e = .returned (.bool true) ∧ w = w' := by
  unfold maxLen at hm
  go_enter Tryd.func5, Tryd.ntmps5
  go_wp2
  go_ret
  exact ⟨by simp; omega, rfl⟩
theorem big_no (a : Option Addr) (len cap : Nat) (w : World) (h : len ≤ 1048576) : Calls Tryd.prog 5 #[.slice a len cap] w fun e w' => e = .returned (.bool false) ∧ w = w' := by
  have h2 : ¬ (1048576 < (len : Int)) := by omega
  go_enter Tryd.func5, Tryd.ntmps5
  go_wp2
  go_ret
  exact ⟨rfl, rfl⟩
theorem new_end {w : World} {a : Option Addr} {len cap : Nat} (hC : CodeAt w a len) (h : Int) (hl : len ≤ 1048576) :
    Ending.returned (.pointer (some ⟨w.heap.size, 0, none⟩)) = .returned (.pointer (some ⟨w.heap.size, 0, none⟩)) ∧ Below w.heap.size w (w.alloc (.cells #[.slice a len cap, .int .i64 0, .int .i64 h] 63)) ∧
      Cur (w.alloc (.cells #[.slice a len cap, .int .i64 0, .int .i64 h] 63)) w.heap.size ∧ w.heap.size < (w.alloc (.cells #[.slice a len cap, .int .i64 0, .int .i64 h] 63)).heap.size := by
  have hb : Below w.heap.size w (w.alloc (.cells #[.slice a len cap, .int .i64 0, .int .i64 h] 63)) := (Below.refl _ _).alloc (Nat.le_refl _) _
  refine ⟨rfl, hb, ⟨a, len, cap, 0, h, ?_, Nat.zero_le _, by omega, fun j hj => ?_⟩, by simp⟩
  · show (w.heap.push _)[w.heap.size]? = _
    rw [Array.getElem?_push_size]; rfl
  · obtain ⟨b, o, c, ha, hlt, hc, hcl⟩ := hC.below hb j hj
    obtain ⟨b', o', c', ha', hlt', _⟩ := hC j hj
    rw [ha] at ha'
    have : b = b' := by injection ha' with e; injection e
    exact ⟨b, o, c, ha, by omega, hc, hcl⟩
theorem new_any (a : Option Addr) (len cap : Nat) (w : World) (hC : CodeAt w a len) (hl : len ≤ 1048576) :
    Calls Tryd.prog 23 #[.slice a len cap] w fun e w' => e = .returned (.pointer (some ⟨w.heap.size, 0, none⟩)) ∧ Below w.heap.size w w' ∧ Cur w' w.heap.size ∧ w.heap.size < w'.heap.size := by
  have HC := Lib.hid hC
  have e30 := i64_and30
  clear hC
  go_enter Tryd.func23, Tryd.ntmps23
  go_wp2
  go_loop [3, 4] (fun h i => ∃ (i' : Nat) (h' : Int), i = .int .i64 i' ∧ h = .int .i64 h' ∧ i' ≤ len ∧ 0 ≤ h' ∧ h' ≤ 1073741823) (fun _ i => len - (intOf i).toNat)
  case atStart => exact ⟨0, _, rfl, rfl, Nat.zero_le _, by omega, by omega⟩
  case round =>
    obtain ⟨i', h', rfl, rfl, hi, hh0, hh1⟩ := hrel
    by_cases hlt : i' < len
    · by_cases h4 : (i' : Int) < 4000
      · obtain ⟨b, o, c, rfl, hbw, hc, hcl⟩ := HC.out i' hlt
        go_wp2
        go_round
        case rel => exact ⟨i' + 1, _, by go_num, rfl, by omega, by omega, by omega⟩
        case measure => simp [intOf]; omega
      · go_wp2
        go_ret
        exact new_end HC.out _ hl
    · go_wp2
      go_ret
      exact new_end HC.out _ hl

/-- the numbers that a draw may give: ints -/
def isInt (x : Int) : Prop := -9223372036854775808 ≤ x ∧ x ≤ 9223372036854775807
theorem Cur.lt {w : World} {B : Nat} (h : Cur w B) : B < w.heap.size := by
  obtain ⟨_, _, _, _, _, h, _⟩ := h
  rcases Nat.lt_or_ge B w.heap.size with h' | h'
  · exact h'
  · simp [Array.getElem?_eq_none h'] at h
theorem Cur.only {w w' : World} {B C : Nat} (h : Cur w B) (ho : Only C w w') (hne : B ≠ C) (hcode : ∀ p v, p.block ≠ B → w.cell? p = some v → w'.cell? p = some v) : Cur w' B := by
  have hlt := h.lt
  obtain ⟨a, len, cap, i, hh, h1, h2, h3, h4⟩ := h
  refine ⟨a, len, cap, i, hh, by rw [ho.block B hlt hne]; exact h1, h2, h3, fun j hj => ?_⟩
  obtain ⟨b, o, c, ha, hb, hc, hcl⟩ := h4 j hj
  exact ⟨b, o, c, ha, hb, hc, hcode _ _ (Nat.ne_of_lt hb) hcl⟩
theorem Cur.below {w w' : World} {B N : Nat} (h : Cur w B) (hb : Below N w w') (hN : B < N) : Cur w' B := by
  obtain ⟨a, len, cap, i, hh, h1, h2, h3, h4⟩ := h
  refine ⟨a, len, cap, i, hh, by rw [hb.block B hN]; exact h1, h2, h3, fun j hj => ?_⟩
  obtain ⟨b, o, c, ha, hlt, hc, hcl⟩ := h4 j hj
  exact ⟨b, o, c, ha, hlt, hc, by rw [World.cell?_of_block (w := w) (w' := w') (hb.block b (by omega))]; exact hcl⟩
theorem Only.then_below {B N : Nat} {a w w' : World} (h : Only B a w) (hb : Below N w w') (hN : a.heap.size ≤ N) : Only B a w' :=
  ⟨hb.os.trans h.os, hb.tape.trans h.tape, hb.output.trans h.output, Nat.le_trans h.size hb.size, fun k hk hB => (hb.block k (by omega)).trans (h.block k hk hB)⟩
theorem Cur.alloc {w : World} {B : Nat} (h : Cur w B) (o : Obj) : Cur (w.alloc o) B :=
  h.only ((Only.refl w.heap.size w).alloc o) (Nat.ne_of_lt h.lt) fun p v _ hc => by
    have hlt : p.block < w.heap.size := by
      rcases Nat.lt_or_ge p.block w.heap.size with h' | h'
      · exact h'
      · simp [World.cell?, Array.getElem?_eq_none h'] at hc
    exact ((Only.refl w.heap.size w).alloc o).cell (Nat.ne_of_lt hlt) hc
theorem cell_new (w : World) (l : List Int) (T : TypeId) (j : Nat) (hj : j < l.length) : (w.alloc (.cells (l.map (Value.int .i64)).toArray T)).cell? ⟨w.heap.size, j, none⟩ = some (.int .i64 l[j]) := by
  have := World.cell?_alloc_mark w (l.map (Value.int .i64)).toArray T (0, 0) j
  rw [this]
  simp [hj]
/-- a draw out of a list that the call itself wrote down -/
theorem int_lit (w : World) (B : Nat) (l : List Int) (T : TypeId) (P : Int → Prop) (hC : Cur w B) (hl : 0 < l.length) (hl2 : l.length ≤ 1000) (hP : ∀ x ∈ l, P x) :
    Calls Tryd.prog 35 #[.pointer (some ⟨B, 0, none⟩), .slice (some ⟨w.heap.size, 0, none⟩) l.length l.length] (w.alloc (.cells (l.map (Value.int .i64)).toArray T)) (DrawPost B P w) :=
  (int_any _ B w.heap.size l l.length (hC.alloc _) (Nat.ne_of_gt hC.lt) hl hl2 (fun j hj => cell_new w l T j hj)).mono fun _ _ ⟨x, hx, he, ho, hc⟩ => ⟨x, hP x hx, he, ((Only.refl B w).alloc _).trans ho, hc⟩
theorem odd_any (w : World) (B : Nat) (hC : Cur w B) : Calls Tryd.prog 54 #[.pointer (some ⟨B, 0, none⟩)] w (DrawPost B isInt w) := by
  have hd := int_lit w B [-1, 0, 1, 2, 255, 256, 65535, 2147483647, 2147483648, 4294967295, 4294967296, -2147483648, 9223372036854775807, -9223372036854775808] 3 isInt hC (by decide) (by decide) (by unfold isInt; decide)
  go_enter Tryd.func54, Tryd.ntmps54
  go_wp2_with fail
  refine hd.mono ?_
  rintro e w1 ⟨x, hx, rfl, ho, hc⟩
  go_wp2
  go_ret
  exact ⟨_, hx, rfl, ho, hc⟩
theorem raw_any (w : World) (B : Nat) (hC : Cur w B) : Calls Tryd.prog 43 #[.pointer (some ⟨B, 0, none⟩)] w (DrawPost B isInt w) := by
  go_enter Tryd.func43, Tryd.ntmps43
  go_wp2_with fail
  refine (once_any w B 2 hC (by decide)).mono ?_
  rintro e w1 ⟨b, rfl, ho, hc⟩
  cases b
  · have hd := int_lit w1 B [-1, 1000000000000001, -1000000000000001] 3 isInt hc (by decide) (by decide) (by unfold isInt; decide)
    go_wp2_with fail
    refine hd.mono ?_
    rintro e w2 ⟨x, hx, rfl, ho2, hc2⟩
    go_wp2
    go_ret
    exact ⟨_, hx, rfl, ho.trans ho2, hc2⟩
  · go_wp2_with fail
    refine (odd_any w1 B hc).mono ?_
    rintro e w2 ⟨x, hx, rfl, ho2, hc2⟩
    go_wp2
    go_ret
    exact ⟨_, hx, rfl, ho.trans ho2, hc2⟩
def isNum (x : Int) : Prop := 0 ≤ x ∧ x ≤ 1000000000000000
theorem num_any (w : World) (B : Nat) (hC : Cur w B) : Calls Tryd.prog 49 #[.pointer (some ⟨B, 0, none⟩)] w (DrawPost B isNum w) := by
  go_enter Tryd.func49, Tryd.ntmps49
  go_wp2_with fail
  refine (below_any w B 5 hC (by decide)).mono ?_
  rintro e w1 ⟨x, ⟨hx0, hx1⟩, rfl, ho, hc⟩
  have hx : x = 0 ∨ x = 1 ∨ x = 2 ∨ x = 3 ∨ x = 4 := by omega
  rcases hx with rfl | rfl | rfl | rfl | rfl
  · go_wp2_with fail
    refine (below_any w1 B 70000 hc (by decide)).mono ?_
    rintro e w2 ⟨x, hx, rfl, ho2, hc2⟩
    go_wp2
    go_ret
    exact ⟨_, by unfold isNum; omega, rfl, ho.trans ho2, hc2⟩
  · have hd := int_lit w1 B [0, 1, 9, 10, 255, 256, 65535, 65536, 1000000000000000] 3 isNum hc (by decide) (by decide) (by unfold isNum; decide)
    go_wp2_with fail
    refine hd.mono ?_
    rintro e w2 ⟨x, hx, rfl, ho2, hc2⟩
    go_wp2
    go_ret
    exact ⟨_, hx, rfl, ho.trans ho2, hc2⟩
  · go_wp2_with fail
    refine (below_any w1 B 1000000 hc (by decide)).mono ?_
    rintro e w2 ⟨x, ⟨hx0, hx1⟩, rfl, ho2, hc2⟩
    go_wp2_with fail
    refine (below_any w2 B 1000000 hc2 (by decide)).mono ?_
    rintro e w3 ⟨y, ⟨hy0, hy1⟩, rfl, ho3, hc3⟩
    have hxy0 : 0 ≤ x * y := Int.mul_nonneg hx0 hy0
    have hxy1 : x * y ≤ 999999 * 999999 := Int.mul_le_mul (by omega) (by omega) hy0 (by omega)
    go_wp2
    go_ret
    exact ⟨_, ⟨hxy0, by omega⟩, rfl, (ho.trans ho2).trans ho3, hc3⟩
  · go_wp2_with fail
    refine (below_any w1 B 50 hc (by decide)).mono ?_
    rintro e w2 ⟨x, ⟨hx0, hx1⟩, rfl, ho2, hc2⟩
    obtain ⟨k, rfl⟩ : ∃ k : Nat, x = k := ⟨x.toNat, by omega⟩
    have hk : k < 50 := by omega
    have hp : (0 : Int) ≤ 2 ^ k ∧ (2 : Int) ^ k ≤ 1000000000000000 := by
      have key : ∀ i : Fin 50, (0 : Int) ≤ 2 ^ i.val ∧ (2 : Int) ^ i.val ≤ 1000000000000000 := by decide
      exact key ⟨k, hk⟩
    go_wp2
    go_ret
    exact ⟨_, hp, rfl, ho.trans ho2, hc2⟩
  · go_wp2_with fail
    refine (below_any w1 B 30 hc (by decide)).mono ?_
    rintro e w2 ⟨x, ⟨hx0, hx1⟩, rfl, ho2, hc2⟩
    go_wp2
    go_ret
    exact ⟨_, by unfold isNum; omega, rfl, ho.trans ho2, hc2⟩
def isSgn (x : Int) : Prop := -1000000000000000 ≤ x ∧ x ≤ 1000000000000000
theorem signed_any (w : World) (B : Nat) (hC : Cur w B) : Calls Tryd.prog 46 #[.pointer (some ⟨B, 0, none⟩)] w (DrawPost B isSgn w) := by
  go_enter Tryd.func46, Tryd.ntmps46
  go_wp2_with fail
  refine (once_any w B 2 hC (by decide)).mono ?_
  rintro e w1 ⟨b, rfl, ho, hc⟩
  cases b
  all_goals
    go_wp2_with fail
    refine (num_any w1 B hc).mono ?_
    rintro e w2 ⟨x, ⟨hx0, hx1⟩, rfl, ho2, hc2⟩
    go_wp2
    go_ret
    exact ⟨_, by unfold isSgn; omega, rfl, ho.trans ho2, hc2⟩
theorem one_any (w : World) (B : Nat) (hC : Cur w B) : Calls Tryd.prog 29 #[.pointer (some ⟨B, 0, none⟩)] w (DrawPost B isInt w) := by
  go_enter Tryd.func29, Tryd.ntmps29
  go_wp2_with fail
  refine (once_any w B 6 hC (by decide)).mono ?_
  rintro e w1 ⟨b, rfl, ho, hc⟩
  cases b
  · go_wp2_with fail
    refine (signed_any w1 B hc).mono ?_
    rintro e w2 ⟨x, ⟨hx0, hx1⟩, rfl, ho2, hc2⟩
    go_wp2
    go_ret
    exact ⟨_, by unfold isInt; omega, rfl, ho.trans ho2, hc2⟩
  · go_wp2_with fail
    refine (raw_any w1 B hc).mono ?_
    rintro e w2 ⟨x, hx, rfl, ho2, hc2⟩
    go_wp2
    go_ret
    exact ⟨_, hx, rfl, ho.trans ho2, hc2⟩
def Single (P : Int → Prop) (w : World) (e : Ending) (w' : World) : Prop := ∃ x : Int, P x ∧ e = .returned (.int .i64 x) ∧ Below w.heap.size w w'
theorem below_only {w w1 w2 : World} {B : Nat} (h : Below w.heap.size w w1) (ho : Only B w1 w2) (hB : B = w.heap.size) : Below w.heap.size w w2 :=
  h.trans (ho.below w.heap.size (by omega) h.size)
end Go.Proofs.YtblaaiggmhadfaaDoor
