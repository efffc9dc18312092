import Derived.Test.YtnikcgmbkmbloaaGreatDoorRows
import Derived.Test.YtnikcgmbkmbloaaGreatDoorG0
import Derived.WalkKit
import Derived.Lib.Hide
import Derived.Outline
import Derived.ProofKit
import Derived.Deep.QuietTactic
import Derived.BigQuiet
import Derived.Test.YtnikcgmbkmbloaaGreatDoorG4
import Derived.Test.YtnikcgmbkmbloaaGreatDoorG3
import Derived.Deep.RegionHeld3
import Derived.Deep.AppendLies
import Derived.Test.YtnikcgmbkmbloaaGreatDoorG2
import Derived.Lib.LaidTab
import Derived.Lib.ItoaNum
import Derived.Stop.LaidErr
import Derived.MakeChecks
import Derived.Shelf.Strconv.ErrVarAll
/- The model's cursor over the bytes of a draw: what its functions return (some number in a range) and what they change (the cursor's own block). -/
namespace Go.Proofs.YtnikcgmbkmbloaaGreatDoor
open Go.RowKit
/-- the cursor over the bytes of a slice that lies outside its block -/
def CurAt (w : World) (B : Nat) (a : Option Addr) (len cap : Nat) (i : Nat) (h : Int) : Prop :=
  w.heap[B]? = some (.cells #[.slice a len cap, .int .i64 i, .int .i64 h] 100) ∧ i ≤ len ∧ len ≤ 140737488355328 ∧
    ∀ j, j < len → ∃ (b o c : Nat), a = some ⟨b, o, none⟩ ∧ b < B ∧ c ≤ 255 ∧ w.cell? ⟨b, o + j, none⟩ = some (.int .u8 c)
def Cur (w : World) (B : Nat) : Prop := ∃ a len cap i h, CurAt w B a len cap i h
theorem cur_cells {w : World} {B : Nat} {T : TypeId} {x y z : Value} (h : w.heap[B]? = some (.cells #[x, y, z] T)) :
    w.cell? ⟨B, 0, none⟩ = some x ∧ w.cell? ⟨B, 1, none⟩ = some y ∧ w.cell? ⟨B, 2, none⟩ = some z ∧ (∀ o, w.frozen? ⟨B, o, none⟩ = false) := by
  refine ⟨by simp [World.cell?, h], by simp [World.cell?, h], by simp [World.cell?, h], fun o => by simp [World.frozen?, h]⟩

theorem i64_and255 (n : Int) : bits .and .i64 n 255 = n % 256 := by
  have h255 : (BitVec.ofInt 64 255).toNat = 2 ^ 8 - 1 := by decide
  have key : (BitVec.ofInt 64 n &&& BitVec.ofInt 64 255).toNat = (n % ((2 ^ 64 : Nat) : Int)).toNat % 2 ^ 8 := by
    rw [BitVec.toNat_and, BitVec.toNat_ofInt, h255, Nat.and_two_pow_sub_one_eq_mod]
  show IntKind.i64.wrap ((BitVec.ofInt 64 n &&& BitVec.ofInt 64 255).toNat : Nat) = n % 256
  rw [key, IntKind.wrap_i64]
  omega
theorem i64_and30 (n : Int) : bits .and .i64 n 1073741823 = n % 1073741824 := by
  have h30 : (BitVec.ofInt 64 1073741823).toNat = 2 ^ 30 - 1 := by decide
  have key : (BitVec.ofInt 64 n &&& BitVec.ofInt 64 1073741823).toNat = (n % ((2 ^ 64 : Nat) : Int)).toNat % 2 ^ 30 := by
    rw [BitVec.toNat_and, BitVec.toNat_ofInt, h30, Nat.and_two_pow_sub_one_eq_mod]
  show IntKind.i64.wrap ((BitVec.ofInt 64 n &&& BitVec.ofInt 64 1073741823).toNat : Nat) = n % 1073741824
  rw [key, IntKind.wrap_i64]
  omega
def BytePost (B : Nat) (w : World) (e : Ending) (w' : World) : Prop := ∃ x : Int, 0 ≤ x ∧ x ≤ 255 ∧ e = .returned (.int .i64 x) ∧ Only B w w' ∧ Cur w' B
theorem heap_setCell {w : World} {B o : Nat} {C : Array Value} {T : TypeId} (u : Value) (h : w.heap[B]? = some (.cells C T)) : (w.setCell ⟨B, o, none⟩ u).heap[B]? = some (.cells (C.setIfInBounds o u) T) := by
  simp [World.setCell, Array.getElem?_modify, h]
theorem cur_step {w w' : World} {B len cap i i' : Nat} {a : Option Addr} {h h' : Int} (hc : CurAt w B a len cap i h) (ho : Only B w w') (hh : w'.heap[B]? = some (.cells #[.slice a len cap, .int .i64 i', .int .i64 h'] 100)) (hi : i' ≤ len) : Cur w' B := by
  obtain ⟨_, _, hl, hcell⟩ := hc
  refine ⟨a, len, cap, i', h', hh, hi, hl, fun j hj => ?_⟩
  obtain ⟨b, o, c, ha, hb, hc, hcl⟩ := hcell j hj
  exact ⟨b, o, c, ha, hb, hc, ho.cell (Nat.ne_of_lt hb) hcl⟩

theorem byte_end {w : World} {B len cap i : Nat} {a : Option Addr} {h : Int} (hC : CurAt w B a len cap i h) (hi : i < len) (X h' : Int) (N : Nat) :
    BytePost B w (.returned (.int .i64 (X % 256))) (((w.setCell ⟨B, 2, none⟩ (.int .i64 h')).drewN N).setCell ⟨B, 1, none⟩ (.int .i64 ((i : Int) + 1))) := by
  have HO : Only B w (((w.setCell ⟨B, 2, none⟩ (.int .i64 h')).drewN N).setCell ⟨B, 1, none⟩ (.int .i64 ((i : Int) + 1))) := (((Only.refl B w).setCell 2 _).drewN N).setCell 1 _
  refine ⟨_, by omega, by omega, rfl, HO, cur_step hC HO (i' := i + 1) (h' := h') ?_ (by omega)⟩
  have h1 := heap_setCell (o := 2) (.int .i64 h') hC.1
  have h2 : ((w.setCell ⟨B, 2, none⟩ (.int .i64 h')).drewN N).heap[B]? = _ := h1
  have h3 := heap_setCell (o := 1) (.int .i64 ((i : Int) + 1)) h2
  rw [h3]
  rfl
theorem byte_end0 {w : World} {B len cap i : Nat} {a : Option Addr} {h : Int} (hC : CurAt w B a len cap i h) (X h' : Int) (N M : Nat) :
    BytePost B w (.returned (.int .i64 (X % 256))) (((w.setCell ⟨B, 2, none⟩ (.int .i64 h')).drewN N).drewN M) := by
  have HO : Only B w (((w.setCell ⟨B, 2, none⟩ (.int .i64 h')).drewN N).drewN M) := (((Only.refl B w).setCell 2 _).drewN N).drewN M
  refine ⟨_, by omega, by omega, rfl, HO, cur_step hC HO (i' := i) (h' := h') ?_ hC.2.1⟩
  have h1 := heap_setCell (o := 2) (.int .i64 h') hC.1
  have h2 : (((w.setCell ⟨B, 2, none⟩ (.int .i64 h')).drewN N).drewN M).heap[B]? = _ := h1
  rw [h2]
  rfl
theorem byte_in (w : World) (B b o len cap i c : Nat) (h : Int) (hC : CurAt w B (some ⟨b, o, none⟩) len cap i h) (hi : i < len) (hcell : w.cell? ⟨b, o + i, none⟩ = some (.int .u8 c)) (hc : c ≤ 255) (hb : b ≠ B) :
    Calls Tryz.prog 106 #[.pointer (some ⟨B, 0, none⟩)] w (BytePost B w) := by
  have HC := Lib.hid hC
  obtain ⟨hc0, hc1, hc2, hf⟩ := cur_cells hC.1
  have hl := hC.2.2.1
  clear hC
  have hf1 := hf 1
  have hf2 := hf 2
  have e255 := i64_and255
  clear hf
  go_enter Tryz.func106, Tryz.ntmps106
  go_wp2
  go_quiet (fail)
  go_wp2
  go_quiet (fail)
  go_wp2
  go_quiet (fail)
  go_wp2
  go_ret
  exact byte_end HC.out hi _ _ _
theorem byte_out (w : World) (B len cap : Nat) (a : Option Addr) (h : Int) (hC : CurAt w B a len cap len h) :
    Calls Tryz.prog 106 #[.pointer (some ⟨B, 0, none⟩)] w (BytePost B w) := by
  have HC := Lib.hid hC
  obtain ⟨hc0, hc1, hc2, hf⟩ := cur_cells hC.1
  have hl := hC.2.2.1
  clear hC
  have hf1 := hf 1
  have hf2 := hf 2
  have e255 := i64_and255
  clear hf
  go_enter Tryz.func106, Tryz.ntmps106
  go_wp2
  go_quiet (fail)
  go_wp2
  go_quiet (fail)
  go_wp2
  go_ret
  exact byte_end0 HC.out _ _ _ _
theorem byte_any (w : World) (B : Nat) (hC : Cur w B) : Calls Tryz.prog 106 #[.pointer (some ⟨B, 0, none⟩)] w (BytePost B w) := by
  obtain ⟨a, len, cap, i, h, hC⟩ := hC
  by_cases hi : i < len
  · obtain ⟨b, o, c, rfl, hb, hc, hcl⟩ := hC.2.2.2 i hi
    exact byte_in w B b o len cap i c h hC hi hcl hc (Nat.ne_of_lt hb)
  · obtain rfl : i = len := by have := hC.2.1; omega
    exact byte_out w B i cap a h hC

/-- a draw of a number: x in a range, the cursor stepped -/
def DrawPost (B : Nat) (P : Int → Prop) (w : World) (e : Ending) (w' : World) : Prop := ∃ x : Int, P x ∧ e = .returned (.int .i64 x) ∧ Only B w w' ∧ Cur w' B
theorem below_low (w : World) (B : Nat) (n : Int) (hC : Cur w B) (hn : n ≤ 0) : Calls Tryz.prog 61 #[.pointer (some ⟨B, 0, none⟩), .int .i64 n] w (DrawPost B (· = 0) w) := by
  go_enter Tryz.func61, Tryz.ntmps61
  go_wp2
  go_ret
  exact ⟨_, rfl, rfl, Only.refl _ _, hC⟩
theorem below_mid (w : World) (B : Nat) (n : Int) (hC : Cur w B) (hn : 0 < n) (hn2 : n ≤ 256) : Calls Tryz.prog 61 #[.pointer (some ⟨B, 0, none⟩), .int .i64 n] w (DrawPost B (fun x => 0 ≤ x ∧ x < n) w) := by
  have hb := byte_any w B hC
  go_enter Tryz.func61, Tryz.ntmps61
  go_wp2_with (go_at_call 106; refine hb.mono ?_; rintro e w1 ⟨x, hx0, hx1, rfl, ho, hc⟩)
  go_ret
  exact ⟨_, ⟨Int.emod_nonneg _ (by omega), Int.emod_lt_of_pos _ (by omega)⟩, rfl, ho, hc⟩
theorem below_high (w : World) (B : Nat) (n : Int) (hC : Cur w B) (hn : 256 < n) : Calls Tryz.prog 61 #[.pointer (some ⟨B, 0, none⟩), .int .i64 n] w (DrawPost B (fun x => 0 ≤ x ∧ x < n) w) := by
  go_enter Tryz.func61, Tryz.ntmps61
  go_wp2_with fail
  refine (byte_any w B hC).mono ?_
  rintro e w1 ⟨x, hx0, hx1, rfl, ho1, hc1⟩
  go_wp2_with fail
  refine (byte_any w1 B hc1).mono ?_
  rintro e w2 ⟨y, hy0, hy1, rfl, ho2, hc2⟩
  go_wp2_with fail
  refine (byte_any w2 B hc2).mono ?_
  rintro e w3 ⟨z, hz0, hz1, rfl, ho3, hc3⟩
  go_wp2
  go_ret
  exact ⟨_, ⟨Int.emod_nonneg _ (by omega), Int.emod_lt_of_pos _ (by omega)⟩, rfl, (ho1.trans ho2).trans ho3, hc3⟩
theorem below_any (w : World) (B : Nat) (n : Int) (hC : Cur w B) (hn : 0 < n) : Calls Tryz.prog 61 #[.pointer (some ⟨B, 0, none⟩), .int .i64 n] w (DrawPost B (fun x => 0 ≤ x ∧ x < n) w) := by
  by_cases h : n ≤ 256
  · exact below_mid w B n hC hn h
  · exact below_high w B n hC (by omega)
theorem once_any (w : World) (B : Nat) (n : Int) (hC : Cur w B) (hn : 0 < n) : Calls Tryz.prog 46 #[.pointer (some ⟨B, 0, none⟩), .int .i64 n] w fun e w' => ∃ b : Bool, e = .returned (.bool b) ∧ Only B w w' ∧ Cur w' B := by
  have hb := below_any w B n hC hn
  go_enter Tryz.func46, Tryz.ntmps46
  go_wp2_with (go_at_call 61; refine hb.mono ?_; rintro e w1 ⟨x, ⟨hx0, hx1⟩, rfl, ho, hc⟩)
  go_ret
  exact ⟨_, rfl, ho, hc⟩
/-- an element of a list that lies whole in memory outside the cursor's block -/
theorem int_any (w : World) (B b : Nat) (l : List Int) (cap : Nat) (hC : Cur w B) (hb : b ≠ B) (hl : 0 < l.length) (hl2 : l.length ≤ 1000) (hcells : ∀ j (hj : j < l.length), w.cell? ⟨b, j, none⟩ = some (.int .i64 l[j])) :
    Calls Tryz.prog 88 #[.pointer (some ⟨B, 0, none⟩), .slice (some ⟨b, 0, none⟩) l.length cap] w (DrawPost B (· ∈ l) w) := by
  go_enter Tryz.func88, Tryz.ntmps88
  go_wp2_with fail
  refine (below_any w B l.length hC (by omega)).mono ?_
  rintro e w1 ⟨x, ⟨hx0, hx1⟩, rfl, ho, hc⟩
  obtain ⟨k, rfl⟩ : ∃ k : Nat, x = k := ⟨x.toNat, by omega⟩
  have hk : k < l.length := by omega
  have hcell : w1.cell? ⟨b, k, none⟩ = some (.int .i64 l[k]) := ho.cell hb (hcells k hk)
  clear hcells
  go_wp2
  go_ret
  exact ⟨_, List.getElem_mem hk, rfl, ho, hc⟩

/-- the bytes of a draw's code, as they lie in the world of the call -/
def CodeAt (w : World) (a : Option Addr) (len : Nat) : Prop := ∀ j, j < len → ∃ (b o c : Nat), a = some ⟨b, o, none⟩ ∧ b < w.heap.size ∧ c ≤ 255 ∧ w.cell? ⟨b, o + j, none⟩ = some (.int .u8 c)
theorem CodeAt.below {w w' : World} {a : Option Addr} {len : Nat} (h : CodeAt w a len) (hb : Below w.heap.size w w') : CodeAt w' a len := by
  intro j hj
  obtain ⟨b, o, c, ha, hlt, hc, hcl⟩ := h j hj
  exact ⟨b, o, c, ha, Nat.lt_of_lt_of_le hlt hb.size, hc, by rw [hb.cell (p := ⟨b, o + j, none⟩) hlt]; exact hcl⟩
set_option maxRecDepth 100000 in
theorem open_code {H : Type} {enc : TypeId × Value → H} {W : World} {base : Nat} {v : Value} {d : DataW H} {p : List MemPlace} (hv : Value.okWide Tryz.prog W .any base 22 v)
    (h : DataW.Trod enc Tryz.prog W 0 (fun _ => true) true 22 v d p) (hp : ∀ x ∈ p, x.block < W.heap.size) : ∃ a len cap, v = .slice a len cap ∧ CodeAt W a len ∧ len ≤ maxLen := by
  obtain ⟨a0, len, cap, rfl⟩ := WideShapes.okWide_slice Tryz.underlying22 hv
  obtain ⟨fuel, hf⟩ := h
  have hc1 : Tryz.prog.cellsOf 5 = 1 := by kernel_rfl
  rcases ChangeShapes.open_ints Tryz.underlying22 Tryz.underlying5 hc1 hf with ⟨hcs, hx⟩ | ⟨a, len', cap', zs, hcs, _, hl, hm, hz, hx, hcell, hwz⟩
  · simp [Value.cells] at hcs
    obtain ⟨rfl, rfl, rfl⟩ := hcs
    exact ⟨none, 0, 0, rfl, fun j hj => absurd hj (by omega), Nat.zero_le _⟩
  · simp [Value.cells] at hcs
    obtain ⟨rfl, rfl, rfl⟩ := hcs
    simp only [if_true] at hz
    refine ⟨some a, len, cap, rfl, fun j hj => ?_, Nat.le_trans hl hm⟩
    obtain ⟨b, off, spot⟩ := a
    have hspot : spot = none := by simpa [Addr.add] using World.cell?_spot (hcell 0 (by omega))
    subst hspot
    have hcj := hcell j (by omega)
    have hplain : (⟨b, off, none⟩ : Addr).add j = ⟨b, off + j, none⟩ := by unfold Addr.add; split <;> simp_all
    rw [hplain] at hcj
    have hw := hwz (zs.getD j 0) (by rw [List.getD_eq_getElem?_getD, List.getElem?_eq_getElem (by omega)]; exact List.getElem_mem _)
    have hw2 : (decide (IntKind.u8.min ≤ zs.getD j 0) && decide (zs.getD j 0 ≤ IntKind.u8.max)) = true := hw
    rw [Bool.and_eq_true, decide_eq_true_eq, decide_eq_true_eq] at hw2
    have e1 : IntKind.u8.min = 0 := rfl
    have e2 : IntKind.u8.max = 255 := rfl
    rw [e1, e2] at hw2
    simp only [Prod.mk.injEq] at hx
    have hmem : MemPlace.cell b off ∈ p := by
      rw [hx.2]; exact MemPlace.mem_row.2 ⟨0, by omega, by simp⟩
    exact ⟨b, off, (zs.getD j 0).toNat, rfl, hp _ hmem, by omega, by rw [hcj, Int.toNat_of_nonneg hw2.1]⟩
theorem big_yes (a : Option Addr) (len cap : Nat) (w : World) (h : 1048576 < len) (hm : len ≤ maxLen) : Calls Tryz.prog 9 #[.slice a len cap] w fun e w' => e = .returned (.bool true) ∧ w = w' := by
  unfold maxLen at hm
  go_enter Tryz.func9, Tryz.ntmps9
  go_wp2
  go_ret
  exact ⟨by simp; omega, rfl⟩
theorem big_no (a : Option Addr) (len cap : Nat) (w : World) (h : len ≤ 1048576) : Calls Tryz.prog 9 #[.slice a len cap] w fun e w' => e = .returned (.bool false) ∧ w = w' := by
  have h2 : ¬ (1048576 < (len : Int)) := by omega
  go_enter Tryz.func9, Tryz.ntmps9
  go_wp2
  go_ret
  exact ⟨rfl, rfl⟩
theorem new_end {w : World} {a : Option Addr} {len cap : Nat} (hC : CodeAt w a len) (h : Int) (hl : len ≤ 1048576) :
    Ending.returned (.pointer (some ⟨w.heap.size, 0, none⟩)) = .returned (.pointer (some ⟨w.heap.size, 0, none⟩)) ∧ Below w.heap.size w (w.alloc (.cells #[.slice a len cap, .int .i64 0, .int .i64 h] 100)) ∧
      Cur (w.alloc (.cells #[.slice a len cap, .int .i64 0, .int .i64 h] 100)) w.heap.size ∧ w.heap.size < (w.alloc (.cells #[.slice a len cap, .int .i64 0, .int .i64 h] 100)).heap.size := by
  have hb : Below w.heap.size w (w.alloc (.cells #[.slice a len cap, .int .i64 0, .int .i64 h] 100)) := (Below.refl _ _).alloc (Nat.le_refl _) _
  refine ⟨rfl, hb, ⟨a, len, cap, 0, h, ?_, Nat.zero_le _, by omega, fun j hj => ?_⟩, by simp⟩
  · show (w.heap.push _)[w.heap.size]? = _
    rw [Array.getElem?_push_size]; rfl
  · obtain ⟨b, o, c, ha, hlt, hc, hcl⟩ := hC.below hb j hj
    obtain ⟨b', o', c', ha', hlt', _⟩ := hC j hj
    rw [ha] at ha'
    have : b = b' := by injection ha' with e; injection e
    exact ⟨b, o, c, ha, by omega, hc, hcl⟩
theorem new_any (a : Option Addr) (len cap : Nat) (w : World) (hC : CodeAt w a len) (hl : len ≤ 1048576) :
    Calls Tryz.prog 41 #[.slice a len cap] w fun e w' => e = .returned (.pointer (some ⟨w.heap.size, 0, none⟩)) ∧ Below w.heap.size w w' ∧ Cur w' w.heap.size ∧ w.heap.size < w'.heap.size := by
  have HC := Lib.hid hC
  have e30 := i64_and30
  clear hC
  go_enter Tryz.func41, Tryz.ntmps41
  go_wp2
  go_loop [3, 4] (fun h i => ∃ (i' : Nat) (h' : Int), i = .int .i64 i' ∧ h = .int .i64 h' ∧ i' ≤ len ∧ 0 ≤ h' ∧ h' ≤ 1073741823) (fun _ i => len - (intOf i).toNat)
  case atStart => exact ⟨0, _, rfl, rfl, Nat.zero_le _, by omega, by omega⟩
  case round =>
    obtain ⟨i', h', rfl, rfl, hi, hh0, hh1⟩ := hrel
    by_cases hlt : i' < len
    · by_cases h4 : (i' : Int) < 4000
      · obtain ⟨b, o, c, rfl, hbw, hc, hcl⟩ := HC.out i' hlt
        go_wp2
        go_round
        case rel => exact ⟨i' + 1, _, by go_num, rfl, by omega, by omega, by omega⟩
        case measure => simp [intOf]; omega
      · go_wp2
        go_ret
        exact new_end HC.out _ hl
    · go_wp2
      go_ret
      exact new_end HC.out _ hl

/-- the numbers that a draw may give: ints -/
def isInt (x : Int) : Prop := -9223372036854775808 ≤ x ∧ x ≤ 9223372036854775807
theorem Cur.lt {w : World} {B : Nat} (h : Cur w B) : B < w.heap.size := by
  obtain ⟨_, _, _, _, _, h, _⟩ := h
  rcases Nat.lt_or_ge B w.heap.size with h' | h'
  · exact h'
  · simp [Array.getElem?_eq_none h'] at h
theorem Cur.only {w w' : World} {B C : Nat} (h : Cur w B) (ho : Only C w w') (hne : B ≠ C) (hcode : ∀ p v, p.block ≠ B → w.cell? p = some v → w'.cell? p = some v) : Cur w' B := by
  have hlt := h.lt
  obtain ⟨a, len, cap, i, hh, h1, h2, h3, h4⟩ := h
  refine ⟨a, len, cap, i, hh, by rw [ho.block B hlt hne]; exact h1, h2, h3, fun j hj => ?_⟩
  obtain ⟨b, o, c, ha, hb, hc, hcl⟩ := h4 j hj
  exact ⟨b, o, c, ha, hb, hc, hcode _ _ (Nat.ne_of_lt hb) hcl⟩
theorem Cur.below {w w' : World} {B N : Nat} (h : Cur w B) (hb : Below N w w') (hN : B < N) : Cur w' B := by
  obtain ⟨a, len, cap, i, hh, h1, h2, h3, h4⟩ := h
  refine ⟨a, len, cap, i, hh, by rw [hb.block B hN]; exact h1, h2, h3, fun j hj => ?_⟩
  obtain ⟨b, o, c, ha, hlt, hc, hcl⟩ := h4 j hj
  exact ⟨b, o, c, ha, hlt, hc, by rw [World.cell?_of_block (w := w) (w' := w') (hb.block b (by omega))]; exact hcl⟩
theorem Only.then_below {B N : Nat} {a w w' : World} (h : Only B a w) (hb : Below N w w') (hN : a.heap.size ≤ N) : Only B a w' :=
  ⟨hb.os.trans h.os, hb.tape.trans h.tape, hb.output.trans h.output, Nat.le_trans h.size hb.size, fun k hk hB => (hb.block k (by omega)).trans (h.block k hk hB)⟩
theorem Cur.alloc {w : World} {B : Nat} (h : Cur w B) (o : Obj) : Cur (w.alloc o) B :=
  h.only ((Only.refl w.heap.size w).alloc o) (Nat.ne_of_lt h.lt) fun p v _ hc => by
    have hlt : p.block < w.heap.size := by
      rcases Nat.lt_or_ge p.block w.heap.size with h' | h'
      · exact h'
      · simp [World.cell?, Array.getElem?_eq_none h'] at hc
    exact ((Only.refl w.heap.size w).alloc o).cell (Nat.ne_of_lt hlt) hc
theorem cell_new (w : World) (l : List Int) (T : TypeId) (j : Nat) (hj : j < l.length) : (w.alloc (.cells (l.map (Value.int .i64)).toArray T)).cell? ⟨w.heap.size, j, none⟩ = some (.int .i64 l[j]) := by
  have := World.cell?_alloc_mark w (l.map (Value.int .i64)).toArray T (0, 0) j
  rw [this]
  simp [hj]
/-- a draw out of a list that the call itself wrote down -/
theorem int_lit (w : World) (B : Nat) (l : List Int) (T : TypeId) (P : Int → Prop) (hC : Cur w B) (hl : 0 < l.length) (hl2 : l.length ≤ 1000) (hP : ∀ x ∈ l, P x) :
    Calls Tryz.prog 88 #[.pointer (some ⟨B, 0, none⟩), .slice (some ⟨w.heap.size, 0, none⟩) l.length l.length] (w.alloc (.cells (l.map (Value.int .i64)).toArray T)) (DrawPost B P w) :=
  (int_any _ B w.heap.size l l.length (hC.alloc _) (Nat.ne_of_gt hC.lt) hl hl2 (fun j hj => cell_new w l T j hj)).mono fun _ _ ⟨x, hx, he, ho, hc⟩ => ⟨x, hP x hx, he, ((Only.refl B w).alloc _).trans ho, hc⟩
theorem odd_any (w : World) (B : Nat) (hC : Cur w B) : Calls Tryz.prog 131 #[.pointer (some ⟨B, 0, none⟩)] w (DrawPost B isInt w) := by
  have hd := int_lit w B [-1, 0, 1, 2, 255, 256, 65535, 2147483647, 2147483648, 4294967295, 4294967296, -2147483648, 9223372036854775807, -9223372036854775808] 3 isInt hC (by decide) (by decide) (by unfold isInt; decide)
  go_enter Tryz.func131, Tryz.ntmps131
  go_wp2_with fail
  refine hd.mono ?_
  rintro e w1 ⟨x, hx, rfl, ho, hc⟩
  go_wp2
  go_ret
  exact ⟨_, hx, rfl, ho, hc⟩
theorem raw_any (w : World) (B : Nat) (hC : Cur w B) : Calls Tryz.prog 87 #[.pointer (some ⟨B, 0, none⟩)] w (DrawPost B isInt w) := by
  go_enter Tryz.func87, Tryz.ntmps87
  go_wp2_with fail
  refine (once_any w B 2 hC (by decide)).mono ?_
  rintro e w1 ⟨b, rfl, ho, hc⟩
  cases b
  · have hd := int_lit w1 B [-1, 1000000000000001, -1000000000000001] 3 isInt hc (by decide) (by decide) (by unfold isInt; decide)
    go_wp2_with fail
    refine hd.mono ?_
    rintro e w2 ⟨x, hx, rfl, ho2, hc2⟩
    go_wp2
    go_ret
    exact ⟨_, hx, rfl, ho.trans ho2, hc2⟩
  · go_wp2_with fail
    refine (odd_any w1 B hc).mono ?_
    rintro e w2 ⟨x, hx, rfl, ho2, hc2⟩
    go_wp2
    go_ret
    exact ⟨_, hx, rfl, ho.trans ho2, hc2⟩
def isNum (x : Int) : Prop := 0 ≤ x ∧ x ≤ 1000000000000000
theorem num_any (w : World) (B : Nat) (hC : Cur w B) : Calls Tryz.prog 170 #[.pointer (some ⟨B, 0, none⟩)] w (DrawPost B isNum w) := by
  go_enter Tryz.func170, Tryz.ntmps170
  go_wp2_with fail
  refine (below_any w B 5 hC (by decide)).mono ?_
  rintro e w1 ⟨x, ⟨hx0, hx1⟩, rfl, ho, hc⟩
  have hx : x = 0 ∨ x = 1 ∨ x = 2 ∨ x = 3 ∨ x = 4 := by omega
  rcases hx with rfl | rfl | rfl | rfl | rfl
  · go_wp2_with fail
    refine (below_any w1 B 70000 hc (by decide)).mono ?_
    rintro e w2 ⟨x, hx, rfl, ho2, hc2⟩
    go_wp2
    go_ret
    exact ⟨_, by unfold isNum; omega, rfl, ho.trans ho2, hc2⟩
  · have hd := int_lit w1 B [0, 1, 9, 10, 255, 256, 65535, 65536, 1000000000000000] 3 isNum hc (by decide) (by decide) (by unfold isNum; decide)
    go_wp2_with fail
    refine hd.mono ?_
    rintro e w2 ⟨x, hx, rfl, ho2, hc2⟩
    go_wp2
    go_ret
    exact ⟨_, hx, rfl, ho.trans ho2, hc2⟩
  · go_wp2_with fail
    refine (below_any w1 B 1000000 hc (by decide)).mono ?_
    rintro e w2 ⟨x, ⟨hx0, hx1⟩, rfl, ho2, hc2⟩
    go_wp2_with fail
    refine (below_any w2 B 1000000 hc2 (by decide)).mono ?_
    rintro e w3 ⟨y, ⟨hy0, hy1⟩, rfl, ho3, hc3⟩
    have hxy0 : 0 ≤ x * y := Int.mul_nonneg hx0 hy0
    have hxy1 : x * y ≤ 999999 * 999999 := Int.mul_le_mul (by omega) (by omega) hy0 (by omega)
    go_wp2
    go_ret
    exact ⟨_, ⟨hxy0, by omega⟩, rfl, (ho.trans ho2).trans ho3, hc3⟩
  · go_wp2_with fail
    refine (below_any w1 B 50 hc (by decide)).mono ?_
    rintro e w2 ⟨x, ⟨hx0, hx1⟩, rfl, ho2, hc2⟩
    obtain ⟨k, rfl⟩ : ∃ k : Nat, x = k := ⟨x.toNat, by omega⟩
    have hk : k < 50 := by omega
    have hp : (0 : Int) ≤ 2 ^ k ∧ (2 : Int) ^ k ≤ 1000000000000000 := by
      have key : ∀ i : Fin 50, (0 : Int) ≤ 2 ^ i.val ∧ (2 : Int) ^ i.val ≤ 1000000000000000 := by decide
      exact key ⟨k, hk⟩
    go_wp2
    go_ret
    exact ⟨_, hp, rfl, ho.trans ho2, hc2⟩
  · go_wp2_with fail
    refine (below_any w1 B 30 hc (by decide)).mono ?_
    rintro e w2 ⟨x, ⟨hx0, hx1⟩, rfl, ho2, hc2⟩
    go_wp2
    go_ret
    exact ⟨_, by unfold isNum; omega, rfl, ho.trans ho2, hc2⟩
def isSgn (x : Int) : Prop := -1000000000000000 ≤ x ∧ x ≤ 1000000000000000
theorem signed_any (w : World) (B : Nat) (hC : Cur w B) : Calls Tryz.prog 124 #[.pointer (some ⟨B, 0, none⟩)] w (DrawPost B isSgn w) := by
  go_enter Tryz.func124, Tryz.ntmps124
  go_wp2_with fail
  refine (once_any w B 2 hC (by decide)).mono ?_
  rintro e w1 ⟨b, rfl, ho, hc⟩
  cases b
  all_goals
    go_wp2_with fail
    refine (num_any w1 B hc).mono ?_
    rintro e w2 ⟨x, ⟨hx0, hx1⟩, rfl, ho2, hc2⟩
    go_wp2
    go_ret
    exact ⟨_, by unfold isSgn; omega, rfl, ho.trans ho2, hc2⟩
def Single (P : Int → Prop) (w : World) (e : Ending) (w' : World) : Prop := ∃ x : Int, P x ∧ e = .returned (.int .i64 x) ∧ Below w.heap.size w w'
theorem below_only {w w1 w2 : World} {B : Nat} (h : Below w.heap.size w w1) (ho : Only B w1 w2) (hB : B = w.heap.size) : Below w.heap.size w w2 :=
  h.trans (ho.below w.heap.size (by omega) h.size)
end Go.Proofs.YtnikcgmbkmbloaaGreatDoor
/- The hexadecimal digits of bytes: the program's and the model's answers. -/
namespace Go.Proofs.YtnikcgmbkmbloaaGreatDoor
open Go.RowKit
def hexS : ByteArray := ⟨#[48, 49, 50, 51, 52, 53, 54, 55, 56, 57, 97, 98, 99, 100, 101, 102]⟩
theorem hex_at (q : Nat) (h : q < 16) (h2 : q < hexS.size) : hexS[q] = hexd q := by
  have h1 : q = 0 ∨ q = 1 ∨ q = 2 ∨ q = 3 ∨ q = 4 ∨ q = 5 ∨ q = 6 ∨ q = 7 ∨ q = 8 ∨ q = 9 ∨ q = 10 ∨ q = 11 ∨ q = 12 ∨ q = 13 ∨ q = 14 ∨ q = 15 := by omega
  rcases h1 with rfl | rfl | rfl | rfl | rfl | rfl | rfl | rfl | rfl | rfl | rfl | rfl | rfl | rfl | rfl | rfl <;> rfl
theorem hex_index (q : Nat) (h : q < 16) (w : World) : (Instr.index 9 (.string ⟨#[48, 49, 50, 51, 52, 53, 54, 55, 56, 57, 97, 98, 99, 100, 101, 102]⟩) (.int .u8 q)).run Tryz.prog w = .ok (.int .u8 (hexd q).toNat) w := by
  have hs : hexS.size = 16 := rfl
  have := run_index_string (P := Tryz.prog) w 9 hexS .u8 q Tryz.underlying9
  rw [dif_pos (by rw [hs]; omega)] at this
  rw [show (⟨#[48, 49, 50, 51, 52, 53, 54, 55, 56, 57, 97, 98, 99, 100, 101, 102]⟩ : ByteArray) = hexS from rfl, this]
  have e := hex_at q h (by rw [hs]; exact h)
  simp only [Int.toNat_natCast]
  rw [e]
theorem grown_undrew {w w' : World} {r : Option Nat} (h : w.drew.grownBy w' r) : w.grownBy w' r := ⟨h.os, h.tape, h.output, h.size, h.block⟩
theorem step_hex {w wr w1 : World} {o : Obj} {g n c cap gg m : Nat} {xs : List Value} (hg : g ≠ w.heap.size + 1) (hs : w.heap.size + 1 < wr.heap.size) (hb : Below w.heap.size w wr) (hR : Reads wr (.slice (some ⟨w.heap.size + 1, 0, none⟩) m cap) xs)
    (hgrow : (wr.alloc o).drew.grownBy w1 (Value.slice (some ⟨g, 0, none⟩) n c).ownBlock) (hat : (Value.slice (some ⟨g, 0, none⟩) n c).ownBlock = some gg ∨ gg = wr.heap.size + 1) (hgb : w.heap.size ≤ g) :
    gg ≠ w.heap.size + 1 ∧ w.heap.size + 1 < w1.heap.size ∧ Reads w1 (.slice (some ⟨w.heap.size + 1, 0, none⟩) m cap) xs ∧ Below w.heap.size w w1 := by
  have hgr := grown_undrew hgrow
  have hsz := hgr.size
  simp at hsz
  refine ⟨?_, by omega, ?_, ?_⟩
  · rcases hat with h | h
    · simp [Value.ownBlock] at h; omega
    · omega
  · exact (hR.below (below_alloc wr o)).only (Only.of_grown hgr) (by simp [Value.ownBlock]; omega)
  · exact (hb.alloc (by omega) o).trans (grown_belowN hgr (by simp; omega) (by simp [Value.ownBlock]; omega))
set_option maxRecDepth 100000 in
theorem hextext_impl (l : List UInt8) (w : World) (hl : l.length ≤ 1099511627776) : Calls Tryz.prog 223 #[.string ⟨l.toArray⟩] w fun e w' => e = .returned (.string ⟨(hexL l).toArray⟩) ∧ Below w.heap.size w w' := by
  obtain ⟨i0, hi, hz0, hz1, hz2⟩ := info_parts byteInfo'
  obtain ⟨cap, w1, hcv, hR, hb, _, _, hR0⟩ := conv_bytes (w.alloc (.cells #[] 5)) l
  have hR0 : w.heap.size + 1 < w1.heap.size := by
    rcases Nat.lt_or_ge (w.alloc (.cells #[] 5)).heap.size w1.heap.size with h | h
    · simpa using h
    · rw [Array.getElem?_eq_none h] at hR0; cases hR0
  have hR : Reads w1 (.slice (some ⟨w.heap.size + 1, 0, none⟩) l.length cap) (bv l) := by simpa using hR
  have hsz := size_l l
  generalize hgs : (ByteArray.mk l.toArray) = s at *
  go_enter Tryz.func223, Tryz.ntmps223
  go_wp2
  go_loopw [3, 5, 10] (fun out _ i wr => ∃ (i' g c : Nat), i = .int .i64 i' ∧ i' ≤ l.length ∧ out = .slice (some ⟨g, 0, none⟩) (2 * i') c ∧ g ≠ w.heap.size + 1 ∧ w.heap.size + 1 < wr.heap.size ∧ wr.ownsRow w.heap.size 5 1 out (2 * i') (bv (hexL (l.take i'))) ∧ Reads wr (.slice (some ⟨w.heap.size + 1, 0, none⟩) l.length cap) (bv l) ∧ Below w.heap.size w wr) (fun _ _ i _ => l.length - (intOf i).toNat)
  case atStart =>
    refine ⟨0, w.heap.size, 0, rfl, Nat.zero_le _, rfl, by omega, ?_, ?_, hR, (below_alloc w _).trans (hb.mono (by simp))⟩
    · exact hR0
    · exact own_below (World.ownsRow_made w #[] 0 (Nat.le_refl _) (by decide) rfl) hb
  case round =>
    obtain ⟨i, g, c, rfl, hi', rfl, hg, hsz, hown, hR, hb⟩ := hrel
    by_cases hlt : i < l.length
    · obtain ⟨_, hcs⟩ := slice_cells hR
      have hcl : wr.cell? ⟨w.heap.size + 1, i, none⟩ = some (.int .u8 (l[i]).toNat) := by have := hcs i _ (by rw [List.getElem?_eq_getElem (by simpa using hlt), bv_getElem]); rw [Nat.zero_add] at this; exact this
      have HT := Lib.hid (hexL_take l i hlt)
      have HL := Lib.hid hlt
      have hc1 : (l[i].toNat : Int) < 256 := by have : l[i].toNat < 256 := UInt8.toNat_lt _; omega
      generalize l[i].toNat = x at *
      have hx0 : (0 : Int) ≤ x := by omega
      have e1 : ((x : Int)).tdiv 16 = ((x / 16 : Nat) : Int) := by rw [Int.tdiv_eq_ediv_of_nonneg (by omega)]; omega
      have e2 : ((x : Int)).tmod 16 = ((x % 16 : Nat) : Int) := by rw [Int.tmod_eq_emod_of_nonneg (by omega)]; omega
      have hq : x / 16 < 16 := by omega
      have hr : x % 16 < 16 := by omega
      generalize x / 16 = q at *
      generalize x % 16 = r at *
      have iq := hex_index q hq
      have ir := hex_index r hr
      have wq : IntKind.u8.wrap (q : Int) = q := by rw [IntKind.wrap_u8']; omega
      have wr' : IntKind.u8.wrap (r : Int) = r := by rw [IntKind.wrap_u8']; omega
      have HG := Lib.hid hg
      have HO := Lib.hid hown
      have HS := Lib.hid hsz
      have HB := Lib.hid hb
      have HR := Lib.hid hR
      have HQ := Lib.hid (And.intro hq hr)
      clear hcs hg hown hsz hb hR hq hr
      go_wp2_with fail
      go_region_held3 (fun _ => True) (trivial) ((refine step_append_lies _ (by rfl) _ _ _ (by rfl) w.heap.size 5 i0 _ 1 1 Tryz.underlying22 hi hz0 hz1 hz2 rfl (by omega) _ (2 * i) _ (by rfl) ((HO.out.alloc _).drew) ⟨wr.heap.size, 0, none⟩ 2 2 [.int .u8 (hexd q).toNat, .int .u8 (hexd r).toNat] (by rfl) (by rfl) (World.news_of_block (cs := #[.int .u8 (hexd q).toNat, .int .u8 (hexd r).toNat]) (t := 5) (fr := (0, 0)) (heap_alloc_new wr _)) (by simp [Value.oneCell']) (by omega) (by unfold maxLen; omega) (by omega) (by simp; have := HB.out.size; omega) (wr.heap.size + 1) (by simp) ?_; intro gg cap w1 hown1 hgrow hat hlt))
      all_goals
        have hx := step_hex HG.out HS.out HB.out HR.out hgrow hat (HO.out.lt g rfl).1
        have HX := Lib.hid hx
        have HW := Lib.hid hown1
        clear hx hown1 hgrow hat hlt hcl e1 e2 iq ir wq wr'
        go_wp2
        go_roundw
        case rel =>
          refine ⟨i + 1, gg, cap, by go_num, HL.out, by rw [show 2 * (i + 1) = 2 * i + 2 by omega], HX.out.1, HX.out.2.1, ?_, HX.out.2.2.1, HX.out.2.2.2⟩
          rw [HT.out, bv_append, show 2 * (i + 1) = 2 * i + 2 by omega]
          exact HW.out
        case measure => have := HL.out; simp [intOf]; omega
    · obtain rfl : i = l.length := by omega
      rw [List.take_of_length_le (Nat.le_refl _)] at hown
      have hcv2 := conv_str wr _ _ (own_slc hown)
      generalize hs : (ByteArray.mk (hexL l).toArray) = s2 at hcv2
      have HS := Lib.hid hs
      have HB := Lib.hid hb
      clear hown hb hs hR hcv hg hsz
      go_wp2
      go_ret
      exact ⟨by rw [HS.out]; rfl, HB.out⟩
theorem hx_index (l : List UInt8) (i : Nat) (h : i < l.length) (w : World) : (Instr.index 9 (.string ⟨l.toArray⟩) (.int .i64 i)).run Tryz.prog w = .ok (.int .u8 (l[i]).toNat) w := by
  have := run_index_string (P := Tryz.prog) w 9 ⟨l.toArray⟩ .i64 i Tryz.underlying9
  rw [dif_pos (by rw [size_l]; omega)] at this
  rw [this]
  congr 3
theorem u8_and15 (n : Nat) : bits .and .u8 n 15 = ((n % 16 : Nat) : Int) := by
  have h15 : (BitVec.ofInt 8 15).toNat = 2 ^ 4 - 1 := by decide
  have key : (BitVec.ofInt 8 (n : Int) &&& BitVec.ofInt 8 15).toNat = n % 16 := by
    rw [BitVec.toNat_and, BitVec.toNat_ofInt, h15, Nat.and_two_pow_sub_one_eq_mod]
    omega
  show IntKind.u8.wrap ((BitVec.ofInt 8 (n : Int) &&& BitVec.ofInt 8 15).toNat : Nat) = _
  rw [key, IntKind.wrap_u8']
  omega
set_option maxRecDepth 100000 in
theorem hextext_spec (l : List UInt8) (w : World) (hl : l.length ≤ 1099511627776) : Calls Tryz.prog 80 #[.string ⟨l.toArray⟩] w fun e w' => e = .returned (.string ⟨(hexL l).toArray⟩) ∧ Below w.heap.size w w' := by
  obtain ⟨i0, hi, hz0, hz1, hz2⟩ := info_parts byteInfo'
  have hsz := size_l l
  have IX := Lib.hid (hx_index l)
  generalize hgs : (ByteArray.mk l.toArray) = s at *
  clear hgs
  go_enter Tryz.func80, Tryz.ntmps80
  go_wp2
  go_loopw [3, 4] (fun out i wr => ∃ (i' g c : Nat), i = .int .i64 i' ∧ i' ≤ l.length ∧ out = .slice (some ⟨g, 0, none⟩) (2 * i') c ∧ wr.ownsRow w.heap.size 5 1 out (2 * i') (bv (hexL (l.take i'))) ∧ Below w.heap.size w wr) (fun _ i _ => l.length - (intOf i).toNat)
  case atStart => exact ⟨0, w.heap.size, 0, rfl, Nat.zero_le _, rfl, World.ownsRow_made w #[] 0 (Nat.le_refl _) (by decide) rfl, below_alloc w _⟩
  case round =>
    obtain ⟨i, g, c, rfl, hi', rfl, hown, hb⟩ := hrel
    by_cases hlt : i < l.length
    · have ix := IX.out i hlt
      have HT := Lib.hid (hexL_take l i hlt)
      have HL := Lib.hid hlt
      have hc1 : (l[i].toNat : Int) < 256 := by have : l[i].toNat < 256 := UInt8.toNat_lt _; omega
      generalize l[i].toNat = x at *
      have hx0 : (0 : Int) ≤ x := by omega
      have e1 : ((x : Int)) / 16 = ((x / 16 : Nat) : Int) := by omega
      have e2 := u8_and15 x
      have hq : x / 16 < 16 := by omega
      have hr : x % 16 < 16 := by omega
      generalize x / 16 = q at *
      generalize x % 16 = r at *
      have iq := hex_index q hq
      have ir := hex_index r hr
      have wq : IntKind.u8.wrap (q : Int) = q := by rw [IntKind.wrap_u8']; omega
      have wr' : IntKind.u8.wrap (r : Int) = r := by rw [IntKind.wrap_u8']; omega
      have HO := Lib.hid hown
      have HB := Lib.hid hb
      clear hown hb hq hr
      go_wp2_with fail
      go_region_held3 (fun _ => True) (trivial) ((refine step_append_lies _ (by rfl) _ _ _ (by rfl) w.heap.size 5 i0 _ 1 1 Tryz.underlying22 hi hz0 hz1 hz2 rfl (by omega) _ (2 * i) _ (by rfl) ((HO.out.alloc _).drew) ⟨wr.heap.size, 0, none⟩ 2 2 [.int .u8 (hexd q).toNat, .int .u8 (hexd r).toNat] (by rfl) (by rfl) (World.news_of_block (cs := #[.int .u8 (hexd q).toNat, .int .u8 (hexd r).toNat]) (t := 5) (fr := (0, 0)) (heap_alloc_new wr _)) (by simp [Value.oneCell']) (by omega) (by unfold maxLen; omega) (by omega) (by simp; have := HB.out.size; omega) (wr.heap.size + 1) (by simp) ?_; intro gg cap w1 hown1 hgrow hat hlt))
      all_goals
        have hb1 := (HB.out.alloc HB.out.size _).trans (grown_belowN (grown_undrew hgrow) (by simp; have := HB.out.size; omega) (by simp [Value.ownBlock]; exact (HO.out.lt g rfl).1))
        have HX := Lib.hid hb1
        have HW := Lib.hid hown1
        clear hb1 hown1 hgrow hat hlt e1 e2 iq ir wq wr' ix
        go_wp2
        go_roundw
        case rel =>
          refine ⟨i + 1, gg, cap, by go_num, HL.out, by rw [show 2 * (i + 1) = 2 * i + 2 by omega], ?_, HX.out⟩
          rw [HT.out, bv_append, show 2 * (i + 1) = 2 * i + 2 by omega]
          exact HW.out
        case measure => have := HL.out; simp [intOf]; omega
    · obtain rfl : i = l.length := by omega
      rw [List.take_of_length_le (Nat.le_refl _)] at hown
      have hcv2 := conv_str wr _ _ (own_slc hown)
      generalize hs : (ByteArray.mk (hexL l).toArray) = s2 at hcv2
      have HS := Lib.hid hs
      have HB := Lib.hid hb
      clear hown hb hs
      go_wp2
      go_ret
      exact ⟨by rw [HS.out]; rfl, HB.out⟩
end Go.Proofs.YtnikcgmbkmbloaaGreatDoor
/- The bytes that hexadecimal digits stand for: the program's and the model's answers. -/
namespace Go.Proofs.YtnikcgmbkmbloaaGreatDoor
open Go.RowKit
def unhexT (l : List UInt8) : Value := match unhex l with
  | some r => .tuple #[.string ⟨r.toArray⟩, .bool true]
  | none => .tuple #[.string ⟨#[]⟩, .bool false]
theorem unhexT_some {l r : List UInt8} (h : unhex l = some r) : unhexT l = .tuple #[.string ⟨r.toArray⟩, .bool true] := by unfold unhexT; rw [h]
theorem unhexT_none {l : List UInt8} (h : unhex l = none) : unhexT l = .tuple #[.string ⟨#[]⟩, .bool false] := by unfold unhexT; rw [h]
theorem hex_find (c : UInt8) : Lib.indexByte [48, 49, 50, 51, 52, 53, 54, 55, 56, 57, 97, 98, 99, 100, 101, 102] c = hexv c := by
  have : ∀ n : Fin 256, Lib.indexByte [48, 49, 50, 51, 52, 53, 54, 55, 56, 57, 97, 98, 99, 100, 101, 102] (UInt8.ofNat n.val) = hexv (UInt8.ofNat n.val) := by decide +kernel
  have h := this ⟨c.toNat, UInt8.toNat_lt c⟩
  simpa using h
def pre (l : List UInt8) (i : Nat) (p : List UInt8) : Prop := p.length = i ∧ 2 * i ≤ l.length ∧ unhex l = (unhex (l.drop (2 * i))).map (p ++ ·)
theorem pre_start (l : List UInt8) : pre l 0 [] := ⟨rfl, Nat.zero_le _, by simp⟩
theorem pre_step {l p : List UInt8} {i : Nat} (h : pre l i p) (hi : 2 * i + 1 < l.length) (h1 : 0 ≤ hexv l[2 * i]) (h2 : 0 ≤ hexv l[2 * i + 1]) : pre l (i + 1) (p ++ [UInt8.ofNat (16 * hexv l[2 * i] + hexv l[2 * i + 1]).toNat]) := by
  obtain ⟨a, b, c⟩ := h
  refine ⟨by simp [a], by omega, ?_⟩
  rw [c, unhex_step l i hi, if_pos ⟨h1, h2⟩, Option.map_map]
  congr 1
  funext r
  simp
theorem prex_bad {l p : List UInt8} {i : Nat} (h : pre l i p) (hi : 2 * i + 1 < l.length) (h1 : ¬ (0 ≤ hexv l[2 * i] ∧ 0 ≤ hexv l[2 * i + 1])) : unhex l = none := by
  obtain ⟨a, b, c⟩ := h
  rw [c, unhex_step l i hi, if_neg h1]
  rfl
theorem pre_end {l p : List UInt8} {i : Nat} (h : pre l i p) (hi : ¬ 2 * i + 1 < l.length) (he : l.length = 2 * i) : unhex l = some p := by
  obtain ⟨a, b, c⟩ := h
  rw [c, unhex_end l i hi b, if_pos he]
  simp
theorem pre_odd {l p : List UInt8} {i : Nat} (h : pre l i p) (hi : ¬ 2 * i + 1 < l.length) (he : ¬ l.length = 2 * i) : unhex l = none := by
  obtain ⟨a, b, c⟩ := h
  rw [c, unhex_end l i hi b, if_neg he]
  rfl
theorem unhex_odd : ∀ (n : Nat) (l : List UInt8), l.length ≤ n → l.length % 2 = 1 → unhex l = none
  | _, [], _, h => by simp at h
  | _, [a], _, h => rfl
  | 0, a :: b :: l, hn, h => by simp at hn
  | n + 1, a :: b :: l, hn, h => by
    rw [unhex, unhex_odd n l (by simp at hn; omega) (by simp at h; omega)]
    split <;> rfl
theorem find_any (x : UInt8) (w : World) : Calls Tryz.prog 173 #[.string ⟨#[48, 49, 50, 51, 52, 53, 54, 55, 56, 57, 97, 98, 99, 100, 101, 102]⟩, .int .u8 x.toNat] w fun e w' => e = .returned (.int .i64 (hexv x)) ∧ w = w' := by
  have := Tryz.strings_IndexByte ⟨#[48, 49, 50, 51, 52, 53, 54, 55, 56, 57, 97, 98, 99, 100, 101, 102]⟩ x.toNat w
  have e : (x.toNat : Int).toNat.toUInt8 = x := by simp
  rw [e, show (ByteArray.mk #[48, 49, 50, 51, 52, 53, 54, 55, 56, 57, 97, 98, 99, 100, 101, 102]).data.toList = [48, 49, 50, 51, 52, 53, 54, 55, 56, 57, 97, 98, 99, 100, 101, 102] from rfl, hex_find] at this
  exact this.mono fun _ _ h => ⟨h.1, h.2.symm⟩
theorem l3hex_any (x : UInt8) (w : World) : Calls Tryz.prog 260 #[.int .u8 x.toNat] w fun e w' => e = .returned (.int .i64 (hexv x)) ∧ w = w' := by
  have hx : (x.toNat : Int) < 256 := by have : x.toNat < 256 := UInt8.toNat_lt x; omega
  by_cases h1 : 48 ≤ x.toNat ∧ x.toNat ≤ 57
  · have e : hexv x = x.toNat - 48 := by unfold hexv; rw [if_pos h1]
    rw [e]
    have a1 : (48 : Int) ≤ x.toNat := by omega
    have a2 : (x.toNat : Int) ≤ 57 := by omega
    generalize x.toNat = n at *
    clear h1 e
    go_enter Tryz.func260, Tryz.ntmps260
    go_wp2_with (go_at_call 97; refine (in_yes _ _ _ _ a1 a2).mono ?_; rintro e w' ⟨rfl, rfl⟩)
    go_ret
    exact ⟨rfl, rfl⟩
  by_cases h2 : 97 ≤ x.toNat ∧ x.toNat ≤ 102
  · have e : hexv x = x.toNat - 87 := by unfold hexv; rw [if_neg h1, if_pos h2]
    rw [e]
    have a1 : (97 : Int) ≤ x.toNat := by omega
    have a2 : (x.toNat : Int) ≤ 102 := by omega
    generalize x.toNat = n at *
    clear h1 h2 e
    have c1 := in_no n 48 57 w (by omega)
    have c2 := in_yes n 97 102 w a1 a2
    go_enter Tryz.func260, Tryz.ntmps260
    go_wp2_with fail
    refine c1.mono ?_
    rintro e w' ⟨rfl, rfl⟩
    go_wp2_with fail
    refine c2.mono ?_
    rintro e w' ⟨rfl, rfl⟩
    go_wp2
    go_ret
    exact ⟨ret_int (by omega), rfl⟩
  · have e : hexv x = -1 := by unfold hexv; rw [if_neg h1, if_neg h2]
    rw [e]
    generalize x.toNat = n at *
    have c1 := in_no n 48 57 w (by omega)
    have c2 := in_no n 97 102 w (by omega)
    clear h1 h2 e
    go_enter Tryz.func260, Tryz.ntmps260
    go_wp2_with fail
    refine c1.mono ?_
    rintro e w' ⟨rfl, rfl⟩
    go_wp2_with fail
    refine c2.mono ?_
    rintro e w' ⟨rfl, rfl⟩
    go_wp2
    go_ret
    exact ⟨rfl, rfl⟩
theorem hx_indexZ (l : List UInt8) (i : Nat) (z : Int) (hz : z = i) (h : i < l.length) (w : World) : (Instr.index 9 (.string ⟨l.toArray⟩) (.int .i64 z)).run Tryz.prog w = .ok (.int .u8 (l[i]).toNat) w := by subst hz; exact hx_index l i h w
theorem hex_byte {a b : Int} (ha : 0 ≤ a) (ha2 : a ≤ 15) (hb : 0 ≤ b) (hb2 : b ≤ 15) : bv [UInt8.ofNat (16 * a + b).toNat] = [.int .u8 (16 * a + b)] := by
  have : (UInt8.ofNat (16 * a + b).toNat).toNat = (16 * a + b).toNat % 256 := by simp
  simp only [bv, List.map_cons, List.map_nil, this]
  congr 2
  omega
end Go.Proofs.YtnikcgmbkmbloaaGreatDoor
/- What a row's list of package-level variables gives: the library's table holds its numbers, the two errors of strconv are set. -/
namespace Go.Proofs.YtnikcgmbkmbloaaGreatDoor
theorem gPow : Tryz.prog.globalNamed "internal/strconv.uint64pow10" = some 1 := by kernel_rfl
theorem gPowType : (Tryz.prog.globals[1]?).map (·.type) = some 269 := by kernel_rfl
theorem cellsPow : Tryz.prog.cellsOf 269 = 20 := by kernel_rfl
theorem cellsU64 : Tryz.prog.cellsOf 225 = 1 := by kernel_rfl
theorem tabs_pow10 {a b : String × DataW Unit} {r : List (String × DataW Unit)} {W : World} (h : laidMet Tryz.prog (a :: b :: ("internal/strconv.uint64pow10", Rows.laid_internal_strconv_uint64pow10) :: r) W) : Lib.TabIs Tryz.prog W "internal/strconv.uint64pow10" .u64 Lib.pow10Tab :=
  Lib.tabIs_of_head (rest := r) gPow gPowType Tryz.underlying269 Tryz.underlying225 cellsU64 cellsPow h.tail.tail
theorem gES : Tryz.prog.globalNamed "strconv.ErrSyntax" = some 6 := by kernel_rfl
theorem gER : Tryz.prog.globalNamed "strconv.ErrRange" = some 7 := by kernel_rfl
theorem gESType : (Tryz.prog.globals[6]?).map (·.type) = some 183 := by kernel_rfl
theorem gERType : (Tryz.prog.globals[7]?).map (·.type) = some 183 := by kernel_rfl
theorem cellsErr : Tryz.prog.cellsOf 292 = 1 := by kernel_rfl
theorem cellsStr : Tryz.prog.cellsOf 9 = 1 := by kernel_rfl
theorem starStr : "*" ++ "errors.errorString" = "*errors.errorString" := by decide
theorem rowErr (u : TypeId) (h : Tryz.prog.typeName? 3 u = some "*errors.errorString") : u = 290 :=
  typeName_ptr_named (nm := "errors.errorString") (by rw [starStr]; kernel_rfl) (by kernel_rfl) (by decide) u (by rw [starStr]; exact h)
theorem errs_of {a b c : String × DataW Unit} {r : List (String × DataW Unit)} {W : World} (h : laidMet Tryz.prog (a :: b :: c :: ("strconv.ErrRange", Rows.laid_strconv_ErrRange) :: ("strconv.ErrSyntax", Rows.laid_strconv_ErrSyntax) :: r) W) :
    (∃ ps, W.var? Tryz.prog "strconv.ErrSyntax" = some #[.iface 290 ps]) ∧ (∃ pr, W.var? Tryz.prog "strconv.ErrRange" = some #[.iface 290 pr]) := by
  have h1 := h.tail.tail.tail
  obtain ⟨a0, _, hv0, _⟩ := laid_sentinel h1 gER gERType Tryz.underlying183 rowErr Tryz.underlying290 Tryz.underlying292 rfl rfl Tryz.underlying9 cellsErr cellsStr
  obtain ⟨a1, _, hv1, _⟩ := laid_sentinel h1.tail gES gESType Tryz.underlying183 rowErr Tryz.underlying290 Tryz.underlying292 rfl rfl Tryz.underlying9 cellsErr cellsStr
  exact ⟨⟨_, hv1⟩, ⟨_, hv0⟩⟩
end Go.Proofs.YtnikcgmbkmbloaaGreatDoor
