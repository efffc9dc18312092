/- For every input the law FnReads returns true and its arguments read afterwards as they read before; beside what the row states there is no condition. -/
import Derived.Test.YtmjlbglnlpfadaaDoorCards
import Derived.Test.YtmjlbglnlpfadaaDoorTie
import Derived.WalkKit
import Derived.ProofKit
import Derived.OpenShut
import Derived.SizedLaws
import Derived.Carry
import Derived.Deep.DeepHandedRow
import Derived.Deep.DeepWitnessRowRef
import Derived.LaidMore
import Derived.Lay
import Derived.Lib.LaidTab
import Derived.Stop.LaidErr
import Derived.Test.YtmjlbglnlpfadaaDoorDrawLess
import Derived.Test.YtmjlbglnlpfadaaDoorReadSpec2
import Derived.Test.YtmjlbglnlpfadaaDoorDecEq
import Derived.Deep.RegionHeld3
import Derived.Deep.Cut
import Derived.Deep.DeepCutAuto

namespace Go.Proofs.YtmjlbglnlpfadaaDoor.fnReads
open Go.ChangeShapes Go.WideShapes Go.ChangeAt Go.RowKit
open Go.ChangeMaps (open_string shut_string)
set_option linter.unusedVariables false

theorem own : ownKnob Tryd.prog.godebug = none := by kernel_rfl
theorem laidOut : laidOutB Tryd.prog = true := by kernel_rfl

def Post (W : World) (e : Ending) (w' : World) : Prop := e = .returned (.bool true) ∧ Below W.heap.size W w'
theorem walk_long (a : Option Addr) (len cap : Nat) (W : World) (h : 1048576 < len) (hm : len ≤ maxLen) : Calls Tryd.prog 4 #[.slice a len cap] W (Post W) := by
  go_enter Tryd.func4, Tryd.ntmps4
  go_wp2_with (go_at_call 7; refine (big_yes a len cap _ h hm).mono ?_; rintro e w' ⟨rfl, rfl⟩)
  go_ret
  exact ⟨rfl, Below.refl _ _⟩
/-- What is read at z, as four numbers. -/
def Read4 (l : List UInt8) (z n x nx c : Int) : Prop := readT l z = .tuple #[.int .i64 n, .int .i64 x, .int .i64 nx, .int .i64 c] ∧
  ((c = 0 ∧ ∃ i k : Nat, z = i ∧ nx = k ∧ i ≤ k ∧ k ≤ l.length ∧ readT (cut l i k) 0 = .tuple #[.int .i64 n, .int .i64 x, .int .i64 (nx - z), .int .i64 0]) ∨ (c ≠ 0 ∧ n = 0 ∧ x = 0))
theorem read4 (l : List UInt8) (z : Int) : ∃ n x nx c, Read4 l z n x nx c := by
  by_cases h : z < 0 ∨ (l.length : Int) < z
  · exact ⟨0, 0, z, 1, readT_out h, .inr ⟨by decide, rfl, rfl⟩⟩
  · obtain ⟨i, rfl⟩ : ∃ i : Nat, z = i := ⟨z.toNat, by omega⟩
    have hi : i ≤ l.length := by omega
    refine ⟨(readN l i).n, (readN l i).x, (readN l i).next, (readN l i).code, readT_in hi, ?_⟩
    by_cases hc : (readN l i).code = 0
    · left
      have hk := parts_next (readN_code hc)
      rw [← readN_next] at hk
      have hle : (readN l i).next ≤ l.length := by rw [readN_next]; exact parts_le hi
      refine ⟨by rw [hc]; rfl, i, (readN l i).next, rfl, rfl, by omega, hle, ?_⟩
      rw [show (0 : Int) = ((0 : Nat) : Int) from rfl, readT_in (Nat.zero_le _), readN_cut hi hc]
      show Value.tuple #[_, _, .int .i64 (((readN l i).next - i : Nat) : Int), _] = _
      rw [show (((readN l i).next - i : Nat) : Int) = ((readN l i).next : Int) - i by omega]
    · obtain ⟨h1, h2⟩ := readN_bad hc
      exact .inr ⟨by omega, h1, h2⟩
/-- What is known of two numbers' validity and order. -/
def Facts (n x N X : Int) (v1 v2 L1 L2 : Bool) : Prop := (v1 = true → v2 = true → ((L1 || L2) = true ↔ ¬ (n = N ∧ x = X))) ∧ ¬ (L1 = true ∧ L2 = true)
theorem facts (n x N X : Int) : Facts n x N X (decOk n x) (decOk N X) (lessB n x N X) (lessB N X n x) := ⟨fun a b => less_tri a b, less_anti⟩
set_option maxRecDepth 100000 in
set_option maxHeartbeats 16000000 in
theorem walk (a : Option Addr) (len cap : Nat) (W : World) (hC : CodeAt W a len) (hl : len ≤ 1048576) : Calls Tryd.prog 4 #[.slice a len cap] W (Post W) := by
  go_enter Tryd.func4, Tryd.ntmps4
  go_wp2_with fail
  refine (big_no a len cap _ hl).mono ?_
  rintro e w' ⟨rfl, rfl⟩
  go_wp2_with fail
  refine (drawreadnumber_any a len cap W hC hl).mono ?_
  rintro e w1 ⟨l, z, hlen, hz0, hz1, rfl, hb1⟩
  obtain ⟨n, x, nx, c, hR⟩ := read4 l z
  have ci := fun W1 => readnum_impl l z W1 (by omega)
  have cs := fun W1 => readnum_spec l z W1 (by omega)
  rw [hR.1] at ci cs
  have HR := Lib.hid hR
  have HL := Lib.hid hlen
  clear hR hlen
  go_wp2_with fail
  refine (ci _).mono ?_
  rintro e w2 ⟨rfl, hb2⟩
  have B2 := hb1.trans (hb2.mono hb1.size)
  clear hb1 hb2
  go_wp2_with fail
  refine (cs _).mono ?_
  rintro e w' ⟨rfl, rfl⟩
  clear ci cs
  go_wp2_with fail
  refine (drawlessdec_any a len cap w2 (hC.below B2) hl).mono ?_
  rintro e w3 ⟨n1, x1, n2, x2, hd1, hn2, rfl, hb3⟩
  have B3 := B2.trans (hb3.mono B2.size)
  clear hb3 B2 hC
  obtain ⟨W0, hW⟩ : ∃ W0 : World, W0 = (w3.alloc (.cells #[.int .i64 n1, .int .i64 x1] 25)).alloc (.cells #[.int .i64 n2, .int .i64 x2] 25) := ⟨_, rfl⟩
  have hkeep : ∀ W' : World, Below W0.heap.size W0 W' → W0.heap.size ≤ W'.heap.size → Below W0.heap.size W0 W' ∧ W0.heap.size ≤ W'.heap.size ∧ W'.cell? ⟨w3.heap.size, 0, none⟩ = some (.int .i64 n1) ∧ W'.cell? ⟨w3.heap.size, 1, none⟩ = some (.int .i64 x1) ∧ W'.cell? ⟨w3.heap.size + 1, 0, none⟩ = some (.int .i64 n2) ∧ W'.cell? ⟨w3.heap.size + 1, 1, none⟩ = some (.int .i64 x2) := fun W' hb hN => by
    subst hW
    exact ⟨hb, hN, (hb.cell (p := ⟨w3.heap.size, 0, none⟩) (by simp; omega)).trans (by simp [go_sem]), (hb.cell (p := ⟨w3.heap.size, 1, none⟩) (by simp; omega)).trans (by simp [go_sem]), (hb.cell (p := ⟨w3.heap.size + 1, 0, none⟩) (by simp)).trans (by simp [go_sem]), (hb.cell (p := ⟨w3.heap.size + 1, 1, none⟩) (by simp)).trans (by simp [go_sem])⟩
  have hend : ∀ W', Below W0.heap.size W0 W' → Below W.heap.size W W' := fun W' hb => by
    subst hW
    exact ((B3.alloc B3.size _).alloc (by have := B3.size; simp; omega) _).trans (hb.mono (by have := B3.size; simp; omega))
  have hB := Below.refl W0.heap.size W0
  have hN := Nat.le_refl W0.heap.size
  go_upto_region 7 with fail
  rw [← hW]
  clear hW B3
  obtain ⟨hn10, hn11⟩ : isInt n1 := (any_of hd1).1
  obtain ⟨hn20, hn21⟩ := hn2
  have cL := relCall (N := W0.heap.size) (W0 := W0) (fun W => less_impl n1 x1 n2 x2 W hn10 hn11 hn20 hn21)
  have cS := relCall (N := W0.heap.size) (W0 := W0) (fun W => less_spec n1 x1 n2 x2 W hn10 hn11 hn20 hn21)
  have cM := relCall (N := W0.heap.size) (W0 := W0) (fun W => less_impl n2 x2 n1 x1 W hn20 hn21 hn10 hn11)
  have c1 := relCall (N := W0.heap.size) (W0 := W0) (fun W => decok_impl n1 x1 W hn10 hn11)
  have c2 := relCall (N := W0.heap.size) (W0 := W0) (fun W => decok_impl n2 x2 W hn20 hn21)
  have hfact : Hid (Facts n1 x1 n2 x2 (decOk n1 x1) (decOk n2 x2) (lessB n1 x1 n2 x2) (lessB n2 x2 n1 x1)) := Lib.hid (facts _ _ _ _)
  rw [hd1] at c1 hfact
  generalize decOk n2 x2 = v2 at *
  generalize lessB n1 x1 n2 x2 = L1 at *
  generalize lessB n2 x2 n1 x1 = L2 at *
  clear hn10 hn11 hn20 hn21 hd1
  obtain ⟨_, _, _, _, _, _⟩ := hkeep _ hB hN
  have n0 : (n != n) = false := bne_self_eq_false n
  have n1' : (x != x) = false := bne_self_eq_false x
  have n2' : (nx != nx) = false := bne_self_eq_false nx
  have n3' : (c != c) = false := bne_self_eq_false c
  have n4' : (L1 != L1) = false := bne_self_eq_false L1
  go_cut [73] from 19 (fun v wx => v = .bool false ∧ Below W0.heap.size W0 wx ∧ W0.heap.size ≤ wx.heap.size)
  case first =>
    go_region_held3 (fun W' => Below W0.heap.size W0 W' ∧ W0.heap.size ≤ W'.heap.size ∧ W'.cell? ⟨w3.heap.size, 0, none⟩ = some (.int .i64 n1) ∧ W'.cell? ⟨w3.heap.size, 1, none⟩ = some (.int .i64 x1) ∧ W'.cell? ⟨w3.heap.size + 1, 0, none⟩ = some (.int .i64 n2) ∧ W'.cell? ⟨w3.heap.size + 1, 1, none⟩ = some (.int .i64 x2)) (first | (refine hkeep _ ?_ ?_ <;> assumption) | (refine hkeep _ (Below.drew ?_) ?_ <;> assumption)) ((first | (go_at_call_of 20 (Value.agg #[Value.int IntKind.i64 n1, Value.int IntKind.i64 x1]); go_split_ands; refine (cL _ ?_ ?_).mono ?_; assumption; assumption; rintro e w' ⟨rfl, hb', hN'⟩) | (go_at_call_of 21 (Value.agg #[Value.int IntKind.i64 n1, Value.int IntKind.i64 x1]); go_split_ands; refine (cS _ ?_ ?_).mono ?_; assumption; assumption; rintro e w' ⟨rfl, hb', hN'⟩)))
    all_goals
      go_split_ands
      go_wp2
      go_meet
      case rel => exact ⟨rfl, by assumption, by assumption⟩
  case rest =>
    obtain ⟨rfl, hB2, hN2⟩ := hcut
    clear hB hN n0 n1' n2' n3' n4'
    obtain ⟨_, _, _, _, _, _⟩ := hkeep _ hB2 hN2
    have hg := fun x y xs ys w => run_eqGuard_agg (P := Tryd.prog) w .eql 25 x y xs ys (by kernel_rfl)
    have hq := fun w => dec_eql n1 x1 n2 x2 w
    obtain ⟨q, hqv⟩ : ∃ q, q = (n1 == n2 && x1 == x2) := ⟨_, rfl⟩
    rw [← hqv] at hq
    have hqi : q = true ↔ (n1 = n2 ∧ x1 = x2) := by rw [hqv, Bool.and_eq_true, beq_iff_eq, beq_iff_eq]
    have hfq : Hid ((true = true → v2 = true → ((L1 || L2) = true ↔ ¬ q = true)) ∧ ¬ (L1 = true ∧ L2 = true)) := Lib.hid (by rw [hqi]; exact hfact.out)
    clear hfact hqi hqv
    go_upto_region 9 with fail
    go_cut [93] from 19 (fun v wx => v = .bool false ∧ Below W0.heap.size W0 wx ∧ W0.heap.size ≤ wx.heap.size)
    case first =>
      cases v2
      · clear hfq hq
        refine wp_region_noPanic ?_
        refine wp_region_held_drew (S := (fun W' => Below W0.heap.size W0 W' ∧ W0.heap.size ≤ W'.heap.size ∧ W'.cell? ⟨w3.heap.size, 0, none⟩ = some (.int .i64 n1) ∧ W'.cell? ⟨w3.heap.size, 1, none⟩ = some (.int .i64 x1) ∧ W'.cell? ⟨w3.heap.size + 1, 0, none⟩ = some (.int .i64 n2) ∧ W'.cell? ⟨w3.heap.size + 1, 1, none⟩ = some (.int .i64 x2))) (by kernel_rfl) ?_ (fun hHeld => ?_)
        · exact hkeep _ (Below.drew (by assumption)) (by assumption)
        refine wpAnyH_take (i := 0) (oi := { dst := some 74, op := Op.load 25 (Operand.tmp 13), type := 25, pos := "laws.go:293", after := #[], guard := none }) (v := .agg #[.int .i64 n1, .int .i64 x1]) rfl (by kernel_rfl) (by kernel_rfl) (by kernel_rfl) (fun _ _ _ h => h) (Or.inl ⟨by rfl, ?_⟩) (by assumption) ?_
        · intro w hSw
          (try dsimp only at hSw)
          go_simp
          try with_reducible rfl
        (try simp only [Act.put, List.setIfInBounds_toArray, List.set_cons_zero, List.set_cons_succ])
        refine wpAnyH_ready (rs := [1]) (by kernel_rfl) (by simp) ?_
        refine AllReadyH.cons (o := { dst := some 75, op := Op.call { callee := Callee.value (Operand.func 14), args := #[Operand.tmp 74], argTypes := #[25] }, type := 4, pos := "laws.go:293", after := #[{ on := 0, ground := Ground.data }], guard := none }) rfl (fun K hK => ?_) AllReadyH.nil
        go_simp
        go_at_call 14
        go_split_ands
        refine (c1 _ ?_ ?_).mono ?_
        assumption
        assumption
        rintro e w' ⟨rfl, hb', hN'⟩
        go_wp2_with fail
        refine hK.out _ _ ?_ (fun hHeld => ?_)
        · exact hkeep _ hb' hN'
        clear hK K
        (try simp only [Act.put, List.setIfInBounds_toArray, List.set_cons_zero, List.set_cons_succ])
        refine wpAnyH_take (i := 2) (oi := { dst := some 76, op := Op.move (Operand.tmp 75), type := 4, pos := "laws.go:293", after := #[{ on := 1, ground := Ground.data }, { on := 1, ground := Ground.chain }], guard := none }) (v := .bool true) rfl (by kernel_rfl) (by kernel_rfl) (by kernel_rfl) (fun _ _ _ h => h) (Or.inl ⟨by rfl, ?_⟩) (by assumption) ?_
        · intro w hSw
          (try dsimp only at hSw)
          go_simp
          try with_reducible rfl
        (try simp only [Act.put, List.setIfInBounds_toArray, List.set_cons_zero, List.set_cons_succ])
        refine wpAnyH_take (i := 3) (oi := { dst := some 77, op := Op.load 25 (Operand.tmp 14), type := 25, pos := "laws.go:293", after := #[{ on := 2, ground := Ground.guard }], guard := some (2, true) }) (v := .agg #[.int .i64 n2, .int .i64 x2]) rfl (by kernel_rfl) (by kernel_rfl) (by kernel_rfl) (fun _ _ _ h => h) (Or.inl ⟨by rfl, ?_⟩) (by assumption) ?_
        · intro w hSw
          (try dsimp only at hSw)
          go_simp
          try with_reducible rfl
        (try simp only [Act.put, List.setIfInBounds_toArray, List.set_cons_zero, List.set_cons_succ])
        refine wpAnyH_ready (rs := [4]) (by kernel_rfl) (by simp) ?_
        refine AllReadyH.cons (o := { dst := some 78, op := Op.call { callee := Callee.value (Operand.func 14), args := #[Operand.tmp 77], argTypes := #[25] }, type := 4, pos := "laws.go:293", after := #[{ on := 3, ground := Ground.data }, { on := 2, ground := Ground.chain }, { on := 2, ground := Ground.guard }], guard := some (2, true) }) rfl (fun K hK => ?_) AllReadyH.nil
        go_simp
        go_at_call 14
        go_split_ands
        refine (c2 _ ?_ ?_).mono ?_
        assumption
        assumption
        rintro e w' ⟨rfl, hb', hN'⟩
        go_wp2_with fail
        refine hK.out _ _ ?_ (fun hHeld => ?_)
        · exact hkeep _ hb' hN'
        clear hK K
        (try simp only [Act.put, List.setIfInBounds_toArray, List.set_cons_zero, List.set_cons_succ])
        refine wpAnyH_take (i := 5) (oi := { dst := some 79, op := Op.pick (Operand.tmp 76) (Operand.tmp 78) (Operand.const (Value.bool false)), type := 4, pos := "laws.go:293", after := #[{ on := 2, ground := Ground.data }, { on := 4, ground := Ground.data }], guard := none }) (v := .bool false) rfl (by kernel_rfl) (by kernel_rfl) (by kernel_rfl) (fun _ _ _ h => h) (Or.inl ⟨by rfl, ?_⟩) (by assumption) ?_
        · intro w hSw
          (try dsimp only at hSw)
          go_simp
          try with_reducible rfl
        (try simp only [Act.put, List.setIfInBounds_toArray, List.set_cons_zero, List.set_cons_succ])
        refine wpAnyH_take (i := 6) (oi := { dst := some 80, op := Op.move (Operand.tmp 79), type := 4, pos := "laws.go:293", after := #[{ on := 5, ground := Ground.data }, { on := 4, ground := Ground.chain }], guard := none }) (v := .bool false) rfl (by kernel_rfl) (by kernel_rfl) (by kernel_rfl) (fun _ _ _ h => h) (Or.inl ⟨by rfl, ?_⟩) (by assumption) ?_
        · intro w hSw
          (try dsimp only at hSw)
          go_simp
          try with_reducible rfl
        (try simp only [Act.put, List.setIfInBounds_toArray, List.set_cons_zero, List.set_cons_succ])
        refine wpAnyH_take (i := 7) (oi := { dst := some 81, op := Op.load 25 (Operand.tmp 13), type := 25, pos := "laws.go:293", after := #[{ on := 6, ground := Ground.guard }], guard := some (6, true) }) (v := undef) rfl (by kernel_rfl) (by kernel_rfl) (by kernel_rfl) (fun _ _ _ h => h) (Or.inr ⟨by rfl, rfl⟩) (by assumption) ?_
        (try simp only [Act.put, List.setIfInBounds_toArray, List.set_cons_zero, List.set_cons_succ])
        refine wpAnyH_take (i := 8) (oi := { dst := some 82, op := Op.load 25 (Operand.tmp 14), type := 25, pos := "laws.go:293", after := #[{ on := 6, ground := Ground.guard }], guard := some (6, true) }) (v := undef) rfl (by kernel_rfl) (by kernel_rfl) (by kernel_rfl) (fun _ _ _ h => h) (Or.inr ⟨by rfl, rfl⟩) (by assumption) ?_
        (try simp only [Act.put, List.setIfInBounds_toArray, List.set_cons_zero, List.set_cons_succ])
        refine wpAnyH_take (i := 9) (oi := { dst := some 83, op := Op.call { callee := Callee.value (Operand.func 20), args := #[Operand.tmp 81, Operand.tmp 82], argTypes := #[25, 25] }, type := 4, pos := "laws.go:293", after := #[{ on := 7, ground := Ground.data }, { on := 8, ground := Ground.data }, { on := 6, ground := Ground.chain }, { on := 6, ground := Ground.guard }], guard := some (6, true) }) (v := undef) rfl (by kernel_rfl) (by kernel_rfl) (by kernel_rfl) (fun _ _ _ h => h) (Or.inr ⟨by rfl, rfl⟩) (by assumption) ?_
        (try simp only [Act.put, List.setIfInBounds_toArray, List.set_cons_zero, List.set_cons_succ])
        refine wpAnyH_take (i := 10) (oi := { dst := some 84, op := Op.move (Operand.tmp 83), type := 4, pos := "laws.go:293", after := #[{ on := 9, ground := Ground.data }, { on := 9, ground := Ground.chain }, { on := 6, ground := Ground.guard }], guard := some (6, true) }) (v := undef) rfl (by kernel_rfl) (by kernel_rfl) (by kernel_rfl) (fun _ _ _ h => h) (Or.inr ⟨by rfl, rfl⟩) (by assumption) ?_
        (try simp only [Act.put, List.setIfInBounds_toArray, List.set_cons_zero, List.set_cons_succ])
        refine wpAnyH_take (i := 11) (oi := { dst := some 85, op := Op.load 25 (Operand.tmp 14), type := 25, pos := "laws.go:293", after := #[{ on := 10, ground := Ground.guard }], guard := some (10, false) }) (v := undef) rfl (by kernel_rfl) (by kernel_rfl) (by kernel_rfl) (fun _ _ _ h => h) (Or.inr ⟨by rfl, rfl⟩) (by assumption) ?_
        (try simp only [Act.put, List.setIfInBounds_toArray, List.set_cons_zero, List.set_cons_succ])
        refine wpAnyH_take (i := 12) (oi := { dst := some 86, op := Op.load 25 (Operand.tmp 13), type := 25, pos := "laws.go:293", after := #[{ on := 10, ground := Ground.guard }], guard := some (10, false) }) (v := undef) rfl (by kernel_rfl) (by kernel_rfl) (by kernel_rfl) (fun _ _ _ h => h) (Or.inr ⟨by rfl, rfl⟩) (by assumption) ?_
        (try simp only [Act.put, List.setIfInBounds_toArray, List.set_cons_zero, List.set_cons_succ])
        refine wpAnyH_take (i := 13) (oi := { dst := some 87, op := Op.call { callee := Callee.value (Operand.func 20), args := #[Operand.tmp 85, Operand.tmp 86], argTypes := #[25, 25] }, type := 4, pos := "laws.go:293", after := #[{ on := 11, ground := Ground.data }, { on := 12, ground := Ground.data }, { on := 10, ground := Ground.chain }, { on := 10, ground := Ground.guard }], guard := some (10, false) }) (v := undef) rfl (by kernel_rfl) (by kernel_rfl) (by kernel_rfl) (fun _ _ _ h => h) (Or.inr ⟨by rfl, rfl⟩) (by assumption) ?_
        (try simp only [Act.put, List.setIfInBounds_toArray, List.set_cons_zero, List.set_cons_succ])
        refine wpAnyH_take (i := 14) (oi := { dst := some 88, op := Op.pick (Operand.tmp 84) (Operand.const (Value.bool true)) (Operand.tmp 87), type := 4, pos := "laws.go:293", after := #[{ on := 10, ground := Ground.data }, { on := 13, ground := Ground.data }, { on := 6, ground := Ground.guard }], guard := some (6, true) }) (v := undef) rfl (by kernel_rfl) (by kernel_rfl) (by kernel_rfl) (fun _ _ _ h => h) (Or.inr ⟨by rfl, rfl⟩) (by assumption) ?_
        (try simp only [Act.put, List.setIfInBounds_toArray, List.set_cons_zero, List.set_cons_succ])
        refine wpAnyH_take (i := 15) (oi := { dst := some 89, op := Op.load 25 (Operand.tmp 13), type := 25, pos := "laws.go:293", after := #[{ on := 6, ground := Ground.guard }], guard := some (6, true) }) (v := undef) rfl (by kernel_rfl) (by kernel_rfl) (by kernel_rfl) (fun _ _ _ h => h) (Or.inr ⟨by rfl, rfl⟩) (by assumption) ?_
        (try simp only [Act.put, List.setIfInBounds_toArray, List.set_cons_zero, List.set_cons_succ])
        refine wpAnyH_take (i := 16) (oi := { dst := some 90, op := Op.load 25 (Operand.tmp 14), type := 25, pos := "laws.go:293", after := #[{ on := 6, ground := Ground.guard }], guard := some (6, true) }) (v := undef) rfl (by kernel_rfl) (by kernel_rfl) (by kernel_rfl) (fun _ _ _ h => h) (Or.inr ⟨by rfl, rfl⟩) (by assumption) ?_
        (try simp only [Act.put, List.setIfInBounds_toArray, List.set_cons_zero, List.set_cons_succ])
        refine wpAnyH_take (i := 17) (oi := { dst := some 91, op := Op.binOp BinOp.eql 25 (Operand.tmp 89) (Operand.tmp 90) 25, type := 4, pos := "laws.go:293", after := #[{ on := 15, ground := Ground.data }, { on := 16, ground := Ground.data }, { on := 6, ground := Ground.guard }], guard := some (6, true) }) (v := undef) rfl (by kernel_rfl) (by kernel_rfl) (by kernel_rfl) (fun _ _ _ h => h) (Or.inr ⟨by rfl, rfl⟩) (by assumption) ?_
        (try simp only [Act.put, List.setIfInBounds_toArray, List.set_cons_zero, List.set_cons_succ])
        refine wpAnyH_take (i := 18) (oi := { dst := some 92, op := Op.binOp BinOp.eql 4 (Operand.tmp 88) (Operand.tmp 91) 4, type := 4, pos := "laws.go:293", after := #[{ on := 14, ground := Ground.data }, { on := 17, ground := Ground.data }, { on := 6, ground := Ground.guard }], guard := some (6, true) }) (v := undef) rfl (by kernel_rfl) (by kernel_rfl) (by kernel_rfl) (fun _ _ _ h => h) (Or.inr ⟨by rfl, rfl⟩) (by assumption) ?_
        (try simp only [Act.put, List.setIfInBounds_toArray, List.set_cons_zero, List.set_cons_succ])
        refine wpAnyH_take (i := 19) (oi := { dst := some 93, op := Op.pick (Operand.tmp 80) (Operand.tmp 92) (Operand.const (Value.bool false)), type := 4, pos := "laws.go:293", after := #[{ on := 6, ground := Ground.data }, { on := 18, ground := Ground.data }], guard := none }) (v := .bool false) rfl (by kernel_rfl) (by kernel_rfl) (by kernel_rfl) (fun _ _ _ h => h) (Or.inl ⟨by rfl, ?_⟩) (by assumption) ?_
        · intro w hSw
          (try dsimp only at hSw)
          go_simp
          try with_reducible rfl
        (try simp only [Act.put, List.setIfInBounds_toArray, List.set_cons_zero, List.set_cons_succ])
        refine wpAnyH_done (by kernel_rfl) ?_ _
        refine NoPanic.normal ?_
        go_split_ands
        go_wp2
        go_meet
        case rel => exact ⟨rfl, by assumption, by assumption⟩
      · obtain ⟨ht, ha⟩ := hfq.out
        have ht := ht rfl rfl
        cases L1
        · cases L2
          · obtain rfl : q = true := by simpa using ht
            clear ht ha hfq
            refine wp_region_noPanic ?_
            refine wp_region_held_drew (S := (fun W' => Below W0.heap.size W0 W' ∧ W0.heap.size ≤ W'.heap.size ∧ W'.cell? ⟨w3.heap.size, 0, none⟩ = some (.int .i64 n1) ∧ W'.cell? ⟨w3.heap.size, 1, none⟩ = some (.int .i64 x1) ∧ W'.cell? ⟨w3.heap.size + 1, 0, none⟩ = some (.int .i64 n2) ∧ W'.cell? ⟨w3.heap.size + 1, 1, none⟩ = some (.int .i64 x2))) (by kernel_rfl) ?_ (fun hHeld => ?_)
            · exact hkeep _ (Below.drew (by assumption)) (by assumption)
            refine wpAnyH_take (i := 0) (oi := { dst := some 74, op := Op.load 25 (Operand.tmp 13), type := 25, pos := "laws.go:293", after := #[], guard := none }) (v := .agg #[.int .i64 n1, .int .i64 x1]) rfl (by kernel_rfl) (by kernel_rfl) (by kernel_rfl) (fun _ _ _ h => h) (Or.inl ⟨by rfl, ?_⟩) (by assumption) ?_
            · intro w hSw
              (try dsimp only at hSw)
              go_simp
              try with_reducible rfl
            (try simp only [Act.put, List.setIfInBounds_toArray, List.set_cons_zero, List.set_cons_succ])
            refine wpAnyH_ready (rs := [1]) (by kernel_rfl) (by simp) ?_
            refine AllReadyH.cons (o := { dst := some 75, op := Op.call { callee := Callee.value (Operand.func 14), args := #[Operand.tmp 74], argTypes := #[25] }, type := 4, pos := "laws.go:293", after := #[{ on := 0, ground := Ground.data }], guard := none }) rfl (fun K hK => ?_) AllReadyH.nil
            go_simp
            go_at_call 14
            go_split_ands
            refine (c1 _ ?_ ?_).mono ?_
            assumption
            assumption
            rintro e w' ⟨rfl, hb', hN'⟩
            go_wp2_with fail
            refine hK.out _ _ ?_ (fun hHeld => ?_)
            · exact hkeep _ hb' hN'
            clear hK K
            (try simp only [Act.put, List.setIfInBounds_toArray, List.set_cons_zero, List.set_cons_succ])
            refine wpAnyH_take (i := 2) (oi := { dst := some 76, op := Op.move (Operand.tmp 75), type := 4, pos := "laws.go:293", after := #[{ on := 1, ground := Ground.data }, { on := 1, ground := Ground.chain }], guard := none }) (v := .bool true) rfl (by kernel_rfl) (by kernel_rfl) (by kernel_rfl) (fun _ _ _ h => h) (Or.inl ⟨by rfl, ?_⟩) (by assumption) ?_
            · intro w hSw
              (try dsimp only at hSw)
              go_simp
              try with_reducible rfl
            (try simp only [Act.put, List.setIfInBounds_toArray, List.set_cons_zero, List.set_cons_succ])
            refine wpAnyH_take (i := 3) (oi := { dst := some 77, op := Op.load 25 (Operand.tmp 14), type := 25, pos := "laws.go:293", after := #[{ on := 2, ground := Ground.guard }], guard := some (2, true) }) (v := .agg #[.int .i64 n2, .int .i64 x2]) rfl (by kernel_rfl) (by kernel_rfl) (by kernel_rfl) (fun _ _ _ h => h) (Or.inl ⟨by rfl, ?_⟩) (by assumption) ?_
            · intro w hSw
              (try dsimp only at hSw)
              go_simp
              try with_reducible rfl
            (try simp only [Act.put, List.setIfInBounds_toArray, List.set_cons_zero, List.set_cons_succ])
            refine wpAnyH_ready (rs := [4]) (by kernel_rfl) (by simp) ?_
            refine AllReadyH.cons (o := { dst := some 78, op := Op.call { callee := Callee.value (Operand.func 14), args := #[Operand.tmp 77], argTypes := #[25] }, type := 4, pos := "laws.go:293", after := #[{ on := 3, ground := Ground.data }, { on := 2, ground := Ground.chain }, { on := 2, ground := Ground.guard }], guard := some (2, true) }) rfl (fun K hK => ?_) AllReadyH.nil
            go_simp
            go_at_call 14
            go_split_ands
            refine (c2 _ ?_ ?_).mono ?_
            assumption
            assumption
            rintro e w' ⟨rfl, hb', hN'⟩
            go_wp2_with fail
            refine hK.out _ _ ?_ (fun hHeld => ?_)
            · exact hkeep _ hb' hN'
            clear hK K
            (try simp only [Act.put, List.setIfInBounds_toArray, List.set_cons_zero, List.set_cons_succ])
            refine wpAnyH_take (i := 5) (oi := { dst := some 79, op := Op.pick (Operand.tmp 76) (Operand.tmp 78) (Operand.const (Value.bool false)), type := 4, pos := "laws.go:293", after := #[{ on := 2, ground := Ground.data }, { on := 4, ground := Ground.data }], guard := none }) (v := .bool true) rfl (by kernel_rfl) (by kernel_rfl) (by kernel_rfl) (fun _ _ _ h => h) (Or.inl ⟨by rfl, ?_⟩) (by assumption) ?_
            · intro w hSw
              (try dsimp only at hSw)
              go_simp
              try with_reducible rfl
            (try simp only [Act.put, List.setIfInBounds_toArray, List.set_cons_zero, List.set_cons_succ])
            refine wpAnyH_take (i := 6) (oi := { dst := some 80, op := Op.move (Operand.tmp 79), type := 4, pos := "laws.go:293", after := #[{ on := 5, ground := Ground.data }, { on := 4, ground := Ground.chain }], guard := none }) (v := .bool true) rfl (by kernel_rfl) (by kernel_rfl) (by kernel_rfl) (fun _ _ _ h => h) (Or.inl ⟨by rfl, ?_⟩) (by assumption) ?_
            · intro w hSw
              (try dsimp only at hSw)
              go_simp
              try with_reducible rfl
            (try simp only [Act.put, List.setIfInBounds_toArray, List.set_cons_zero, List.set_cons_succ])
            refine wpAnyH_take (i := 7) (oi := { dst := some 81, op := Op.load 25 (Operand.tmp 13), type := 25, pos := "laws.go:293", after := #[{ on := 6, ground := Ground.guard }], guard := some (6, true) }) (v := .agg #[.int .i64 n1, .int .i64 x1]) rfl (by kernel_rfl) (by kernel_rfl) (by kernel_rfl) (fun _ _ _ h => h) (Or.inl ⟨by rfl, ?_⟩) (by assumption) ?_
            · intro w hSw
              (try dsimp only at hSw)
              go_simp
              try with_reducible rfl
            (try simp only [Act.put, List.setIfInBounds_toArray, List.set_cons_zero, List.set_cons_succ])
            refine wpAnyH_take (i := 8) (oi := { dst := some 82, op := Op.load 25 (Operand.tmp 14), type := 25, pos := "laws.go:293", after := #[{ on := 6, ground := Ground.guard }], guard := some (6, true) }) (v := .agg #[.int .i64 n2, .int .i64 x2]) rfl (by kernel_rfl) (by kernel_rfl) (by kernel_rfl) (fun _ _ _ h => h) (Or.inl ⟨by rfl, ?_⟩) (by assumption) ?_
            · intro w hSw
              (try dsimp only at hSw)
              go_simp
              try with_reducible rfl
            (try simp only [Act.put, List.setIfInBounds_toArray, List.set_cons_zero, List.set_cons_succ])
            refine wpAnyH_take (i := 15) (oi := { dst := some 89, op := Op.load 25 (Operand.tmp 13), type := 25, pos := "laws.go:293", after := #[{ on := 6, ground := Ground.guard }], guard := some (6, true) }) (v := .agg #[.int .i64 n1, .int .i64 x1]) rfl (by kernel_rfl) (by kernel_rfl) (by kernel_rfl) (fun _ _ _ h => h) (Or.inl ⟨by rfl, ?_⟩) (by assumption) ?_
            · intro w hSw
              (try dsimp only at hSw)
              go_simp
              try with_reducible rfl
            (try simp only [Act.put, List.setIfInBounds_toArray, List.set_cons_zero, List.set_cons_succ])
            refine wpAnyH_take (i := 16) (oi := { dst := some 90, op := Op.load 25 (Operand.tmp 14), type := 25, pos := "laws.go:293", after := #[{ on := 6, ground := Ground.guard }], guard := some (6, true) }) (v := .agg #[.int .i64 n2, .int .i64 x2]) rfl (by kernel_rfl) (by kernel_rfl) (by kernel_rfl) (fun _ _ _ h => h) (Or.inl ⟨by rfl, ?_⟩) (by assumption) ?_
            · intro w hSw
              (try dsimp only at hSw)
              go_simp
              try with_reducible rfl
            (try simp only [Act.put, List.setIfInBounds_toArray, List.set_cons_zero, List.set_cons_succ])
            refine wpAnyH_take (i := 17) (oi := { dst := some 91, op := Op.binOp BinOp.eql 25 (Operand.tmp 89) (Operand.tmp 90) 25, type := 4, pos := "laws.go:293", after := #[{ on := 15, ground := Ground.data }, { on := 16, ground := Ground.data }, { on := 6, ground := Ground.guard }], guard := some (6, true) }) (v := .bool true) rfl (by kernel_rfl) (by kernel_rfl) (by kernel_rfl) (fun _ _ _ h => h) (Or.inl ⟨by rfl, ?_⟩) (by assumption) ?_
            · intro w hSw
              (try dsimp only at hSw)
              go_simp
              try with_reducible rfl
            (try simp only [Act.put, List.setIfInBounds_toArray, List.set_cons_zero, List.set_cons_succ])
            refine wpAnyH_ready (rs := [9]) (by kernel_rfl) (by simp) ?_
            refine AllReadyH.cons (o := { dst := some 83, op := Op.call { callee := Callee.value (Operand.func 20), args := #[Operand.tmp 81, Operand.tmp 82], argTypes := #[25, 25] }, type := 4, pos := "laws.go:293", after := #[{ on := 7, ground := Ground.data }, { on := 8, ground := Ground.data }, { on := 6, ground := Ground.chain }, { on := 6, ground := Ground.guard }], guard := some (6, true) }) rfl (fun K hK => ?_) AllReadyH.nil
            go_simp
            go_at_call 20
            go_split_ands
            refine (cL _ ?_ ?_).mono ?_
            assumption
            assumption
            rintro e w' ⟨rfl, hb', hN'⟩
            go_wp2_with fail
            refine hK.out _ _ ?_ (fun hHeld => ?_)
            · exact hkeep _ hb' hN'
            clear hK K
            (try simp only [Act.put, List.setIfInBounds_toArray, List.set_cons_zero, List.set_cons_succ])
            refine wpAnyH_take (i := 10) (oi := { dst := some 84, op := Op.move (Operand.tmp 83), type := 4, pos := "laws.go:293", after := #[{ on := 9, ground := Ground.data }, { on := 9, ground := Ground.chain }, { on := 6, ground := Ground.guard }], guard := some (6, true) }) (v := .bool false) rfl (by kernel_rfl) (by kernel_rfl) (by kernel_rfl) (fun _ _ _ h => h) (Or.inl ⟨by rfl, ?_⟩) (by assumption) ?_
            · intro w hSw
              (try dsimp only at hSw)
              go_simp
              try with_reducible rfl
            (try simp only [Act.put, List.setIfInBounds_toArray, List.set_cons_zero, List.set_cons_succ])
            refine wpAnyH_take (i := 11) (oi := { dst := some 85, op := Op.load 25 (Operand.tmp 14), type := 25, pos := "laws.go:293", after := #[{ on := 10, ground := Ground.guard }], guard := some (10, false) }) (v := .agg #[.int .i64 n2, .int .i64 x2]) rfl (by kernel_rfl) (by kernel_rfl) (by kernel_rfl) (fun _ _ _ h => h) (Or.inl ⟨by rfl, ?_⟩) (by assumption) ?_
            · intro w hSw
              (try dsimp only at hSw)
              go_simp
              try with_reducible rfl
            (try simp only [Act.put, List.setIfInBounds_toArray, List.set_cons_zero, List.set_cons_succ])
            refine wpAnyH_take (i := 12) (oi := { dst := some 86, op := Op.load 25 (Operand.tmp 13), type := 25, pos := "laws.go:293", after := #[{ on := 10, ground := Ground.guard }], guard := some (10, false) }) (v := .agg #[.int .i64 n1, .int .i64 x1]) rfl (by kernel_rfl) (by kernel_rfl) (by kernel_rfl) (fun _ _ _ h => h) (Or.inl ⟨by rfl, ?_⟩) (by assumption) ?_
            · intro w hSw
              (try dsimp only at hSw)
              go_simp
              try with_reducible rfl
            (try simp only [Act.put, List.setIfInBounds_toArray, List.set_cons_zero, List.set_cons_succ])
            refine wpAnyH_ready (rs := [13]) (by kernel_rfl) (by simp) ?_
            refine AllReadyH.cons (o := { dst := some 87, op := Op.call { callee := Callee.value (Operand.func 20), args := #[Operand.tmp 85, Operand.tmp 86], argTypes := #[25, 25] }, type := 4, pos := "laws.go:293", after := #[{ on := 11, ground := Ground.data }, { on := 12, ground := Ground.data }, { on := 10, ground := Ground.chain }, { on := 10, ground := Ground.guard }], guard := some (10, false) }) rfl (fun K hK => ?_) AllReadyH.nil
            go_simp
            go_at_call 20
            go_split_ands
            refine (cM _ ?_ ?_).mono ?_
            assumption
            assumption
            rintro e w' ⟨rfl, hb', hN'⟩
            go_wp2_with fail
            refine hK.out _ _ ?_ (fun hHeld => ?_)
            · exact hkeep _ hb' hN'
            clear hK K
            (try simp only [Act.put, List.setIfInBounds_toArray, List.set_cons_zero, List.set_cons_succ])
            refine wpAnyH_take (i := 14) (oi := { dst := some 88, op := Op.pick (Operand.tmp 84) (Operand.const (Value.bool true)) (Operand.tmp 87), type := 4, pos := "laws.go:293", after := #[{ on := 10, ground := Ground.data }, { on := 13, ground := Ground.data }, { on := 6, ground := Ground.guard }], guard := some (6, true) }) (v := .bool false) rfl (by kernel_rfl) (by kernel_rfl) (by kernel_rfl) (fun _ _ _ h => h) (Or.inl ⟨by rfl, ?_⟩) (by assumption) ?_
            · intro w hSw
              (try dsimp only at hSw)
              go_simp
              try with_reducible rfl
            (try simp only [Act.put, List.setIfInBounds_toArray, List.set_cons_zero, List.set_cons_succ])
            refine wpAnyH_take (i := 18) (oi := { dst := some 92, op := Op.binOp BinOp.eql 4 (Operand.tmp 88) (Operand.tmp 91) 4, type := 4, pos := "laws.go:293", after := #[{ on := 14, ground := Ground.data }, { on := 17, ground := Ground.data }, { on := 6, ground := Ground.guard }], guard := some (6, true) }) (v := .bool false) rfl (by kernel_rfl) (by kernel_rfl) (by kernel_rfl) (fun _ _ _ h => h) (Or.inl ⟨by rfl, ?_⟩) (by assumption) ?_
            · intro w hSw
              (try dsimp only at hSw)
              go_simp
              try with_reducible rfl
            (try simp only [Act.put, List.setIfInBounds_toArray, List.set_cons_zero, List.set_cons_succ])
            refine wpAnyH_take (i := 19) (oi := { dst := some 93, op := Op.pick (Operand.tmp 80) (Operand.tmp 92) (Operand.const (Value.bool false)), type := 4, pos := "laws.go:293", after := #[{ on := 6, ground := Ground.data }, { on := 18, ground := Ground.data }], guard := none }) (v := .bool false) rfl (by kernel_rfl) (by kernel_rfl) (by kernel_rfl) (fun _ _ _ h => h) (Or.inl ⟨by rfl, ?_⟩) (by assumption) ?_
            · intro w hSw
              (try dsimp only at hSw)
              go_simp
              try with_reducible rfl
            (try simp only [Act.put, List.setIfInBounds_toArray, List.set_cons_zero, List.set_cons_succ])
            refine wpAnyH_done (by kernel_rfl) ?_ _
            refine NoPanic.normal ?_
            go_split_ands
            go_wp2
            go_meet
            case rel => exact ⟨rfl, by assumption, by assumption⟩
          · obtain rfl : q = false := by simpa using ht
            clear ht ha hfq
            refine wp_region_noPanic ?_
            refine wp_region_held_drew (S := (fun W' => Below W0.heap.size W0 W' ∧ W0.heap.size ≤ W'.heap.size ∧ W'.cell? ⟨w3.heap.size, 0, none⟩ = some (.int .i64 n1) ∧ W'.cell? ⟨w3.heap.size, 1, none⟩ = some (.int .i64 x1) ∧ W'.cell? ⟨w3.heap.size + 1, 0, none⟩ = some (.int .i64 n2) ∧ W'.cell? ⟨w3.heap.size + 1, 1, none⟩ = some (.int .i64 x2))) (by kernel_rfl) ?_ (fun hHeld => ?_)
            · exact hkeep _ (Below.drew (by assumption)) (by assumption)
            refine wpAnyH_take (i := 0) (oi := { dst := some 74, op := Op.load 25 (Operand.tmp 13), type := 25, pos := "laws.go:293", after := #[], guard := none }) (v := .agg #[.int .i64 n1, .int .i64 x1]) rfl (by kernel_rfl) (by kernel_rfl) (by kernel_rfl) (fun _ _ _ h => h) (Or.inl ⟨by rfl, ?_⟩) (by assumption) ?_
            · intro w hSw
              (try dsimp only at hSw)
              go_simp
              try with_reducible rfl
            (try simp only [Act.put, List.setIfInBounds_toArray, List.set_cons_zero, List.set_cons_succ])
            refine wpAnyH_ready (rs := [1]) (by kernel_rfl) (by simp) ?_
            refine AllReadyH.cons (o := { dst := some 75, op := Op.call { callee := Callee.value (Operand.func 14), args := #[Operand.tmp 74], argTypes := #[25] }, type := 4, pos := "laws.go:293", after := #[{ on := 0, ground := Ground.data }], guard := none }) rfl (fun K hK => ?_) AllReadyH.nil
            go_simp
            go_at_call 14
            go_split_ands
            refine (c1 _ ?_ ?_).mono ?_
            assumption
            assumption
            rintro e w' ⟨rfl, hb', hN'⟩
            go_wp2_with fail
            refine hK.out _ _ ?_ (fun hHeld => ?_)
            · exact hkeep _ hb' hN'
            clear hK K
            (try simp only [Act.put, List.setIfInBounds_toArray, List.set_cons_zero, List.set_cons_succ])
            refine wpAnyH_take (i := 2) (oi := { dst := some 76, op := Op.move (Operand.tmp 75), type := 4, pos := "laws.go:293", after := #[{ on := 1, ground := Ground.data }, { on := 1, ground := Ground.chain }], guard := none }) (v := .bool true) rfl (by kernel_rfl) (by kernel_rfl) (by kernel_rfl) (fun _ _ _ h => h) (Or.inl ⟨by rfl, ?_⟩) (by assumption) ?_
            · intro w hSw
              (try dsimp only at hSw)
              go_simp
              try with_reducible rfl
            (try simp only [Act.put, List.setIfInBounds_toArray, List.set_cons_zero, List.set_cons_succ])
            refine wpAnyH_take (i := 3) (oi := { dst := some 77, op := Op.load 25 (Operand.tmp 14), type := 25, pos := "laws.go:293", after := #[{ on := 2, ground := Ground.guard }], guard := some (2, true) }) (v := .agg #[.int .i64 n2, .int .i64 x2]) rfl (by kernel_rfl) (by kernel_rfl) (by kernel_rfl) (fun _ _ _ h => h) (Or.inl ⟨by rfl, ?_⟩) (by assumption) ?_
            · intro w hSw
              (try dsimp only at hSw)
              go_simp
              try with_reducible rfl
            (try simp only [Act.put, List.setIfInBounds_toArray, List.set_cons_zero, List.set_cons_succ])
            refine wpAnyH_ready (rs := [4]) (by kernel_rfl) (by simp) ?_
            refine AllReadyH.cons (o := { dst := some 78, op := Op.call { callee := Callee.value (Operand.func 14), args := #[Operand.tmp 77], argTypes := #[25] }, type := 4, pos := "laws.go:293", after := #[{ on := 3, ground := Ground.data }, { on := 2, ground := Ground.chain }, { on := 2, ground := Ground.guard }], guard := some (2, true) }) rfl (fun K hK => ?_) AllReadyH.nil
            go_simp
            go_at_call 14
            go_split_ands
            refine (c2 _ ?_ ?_).mono ?_
            assumption
            assumption
            rintro e w' ⟨rfl, hb', hN'⟩
            go_wp2_with fail
            refine hK.out _ _ ?_ (fun hHeld => ?_)
            · exact hkeep _ hb' hN'
            clear hK K
            (try simp only [Act.put, List.setIfInBounds_toArray, List.set_cons_zero, List.set_cons_succ])
            refine wpAnyH_take (i := 5) (oi := { dst := some 79, op := Op.pick (Operand.tmp 76) (Operand.tmp 78) (Operand.const (Value.bool false)), type := 4, pos := "laws.go:293", after := #[{ on := 2, ground := Ground.data }, { on := 4, ground := Ground.data }], guard := none }) (v := .bool true) rfl (by kernel_rfl) (by kernel_rfl) (by kernel_rfl) (fun _ _ _ h => h) (Or.inl ⟨by rfl, ?_⟩) (by assumption) ?_
            · intro w hSw
              (try dsimp only at hSw)
              go_simp
              try with_reducible rfl
            (try simp only [Act.put, List.setIfInBounds_toArray, List.set_cons_zero, List.set_cons_succ])
            refine wpAnyH_take (i := 6) (oi := { dst := some 80, op := Op.move (Operand.tmp 79), type := 4, pos := "laws.go:293", after := #[{ on := 5, ground := Ground.data }, { on := 4, ground := Ground.chain }], guard := none }) (v := .bool true) rfl (by kernel_rfl) (by kernel_rfl) (by kernel_rfl) (fun _ _ _ h => h) (Or.inl ⟨by rfl, ?_⟩) (by assumption) ?_
            · intro w hSw
              (try dsimp only at hSw)
              go_simp
              try with_reducible rfl
            (try simp only [Act.put, List.setIfInBounds_toArray, List.set_cons_zero, List.set_cons_succ])
            refine wpAnyH_take (i := 7) (oi := { dst := some 81, op := Op.load 25 (Operand.tmp 13), type := 25, pos := "laws.go:293", after := #[{ on := 6, ground := Ground.guard }], guard := some (6, true) }) (v := .agg #[.int .i64 n1, .int .i64 x1]) rfl (by kernel_rfl) (by kernel_rfl) (by kernel_rfl) (fun _ _ _ h => h) (Or.inl ⟨by rfl, ?_⟩) (by assumption) ?_
            · intro w hSw
              (try dsimp only at hSw)
              go_simp
              try with_reducible rfl
            (try simp only [Act.put, List.setIfInBounds_toArray, List.set_cons_zero, List.set_cons_succ])
            refine wpAnyH_take (i := 8) (oi := { dst := some 82, op := Op.load 25 (Operand.tmp 14), type := 25, pos := "laws.go:293", after := #[{ on := 6, ground := Ground.guard }], guard := some (6, true) }) (v := .agg #[.int .i64 n2, .int .i64 x2]) rfl (by kernel_rfl) (by kernel_rfl) (by kernel_rfl) (fun _ _ _ h => h) (Or.inl ⟨by rfl, ?_⟩) (by assumption) ?_
            · intro w hSw
              (try dsimp only at hSw)
              go_simp
              try with_reducible rfl
            (try simp only [Act.put, List.setIfInBounds_toArray, List.set_cons_zero, List.set_cons_succ])
            refine wpAnyH_take (i := 15) (oi := { dst := some 89, op := Op.load 25 (Operand.tmp 13), type := 25, pos := "laws.go:293", after := #[{ on := 6, ground := Ground.guard }], guard := some (6, true) }) (v := .agg #[.int .i64 n1, .int .i64 x1]) rfl (by kernel_rfl) (by kernel_rfl) (by kernel_rfl) (fun _ _ _ h => h) (Or.inl ⟨by rfl, ?_⟩) (by assumption) ?_
            · intro w hSw
              (try dsimp only at hSw)
              go_simp
              try with_reducible rfl
            (try simp only [Act.put, List.setIfInBounds_toArray, List.set_cons_zero, List.set_cons_succ])
            refine wpAnyH_take (i := 16) (oi := { dst := some 90, op := Op.load 25 (Operand.tmp 14), type := 25, pos := "laws.go:293", after := #[{ on := 6, ground := Ground.guard }], guard := some (6, true) }) (v := .agg #[.int .i64 n2, .int .i64 x2]) rfl (by kernel_rfl) (by kernel_rfl) (by kernel_rfl) (fun _ _ _ h => h) (Or.inl ⟨by rfl, ?_⟩) (by assumption) ?_
            · intro w hSw
              (try dsimp only at hSw)
              go_simp
              try with_reducible rfl
            (try simp only [Act.put, List.setIfInBounds_toArray, List.set_cons_zero, List.set_cons_succ])
            refine wpAnyH_take (i := 17) (oi := { dst := some 91, op := Op.binOp BinOp.eql 25 (Operand.tmp 89) (Operand.tmp 90) 25, type := 4, pos := "laws.go:293", after := #[{ on := 15, ground := Ground.data }, { on := 16, ground := Ground.data }, { on := 6, ground := Ground.guard }], guard := some (6, true) }) (v := .bool false) rfl (by kernel_rfl) (by kernel_rfl) (by kernel_rfl) (fun _ _ _ h => h) (Or.inl ⟨by rfl, ?_⟩) (by assumption) ?_
            · intro w hSw
              (try dsimp only at hSw)
              go_simp
              try with_reducible rfl
            (try simp only [Act.put, List.setIfInBounds_toArray, List.set_cons_zero, List.set_cons_succ])
            refine wpAnyH_ready (rs := [9]) (by kernel_rfl) (by simp) ?_
            refine AllReadyH.cons (o := { dst := some 83, op := Op.call { callee := Callee.value (Operand.func 20), args := #[Operand.tmp 81, Operand.tmp 82], argTypes := #[25, 25] }, type := 4, pos := "laws.go:293", after := #[{ on := 7, ground := Ground.data }, { on := 8, ground := Ground.data }, { on := 6, ground := Ground.chain }, { on := 6, ground := Ground.guard }], guard := some (6, true) }) rfl (fun K hK => ?_) AllReadyH.nil
            go_simp
            go_at_call 20
            go_split_ands
            refine (cL _ ?_ ?_).mono ?_
            assumption
            assumption
            rintro e w' ⟨rfl, hb', hN'⟩
            go_wp2_with fail
            refine hK.out _ _ ?_ (fun hHeld => ?_)
            · exact hkeep _ hb' hN'
            clear hK K
            (try simp only [Act.put, List.setIfInBounds_toArray, List.set_cons_zero, List.set_cons_succ])
            refine wpAnyH_take (i := 10) (oi := { dst := some 84, op := Op.move (Operand.tmp 83), type := 4, pos := "laws.go:293", after := #[{ on := 9, ground := Ground.data }, { on := 9, ground := Ground.chain }, { on := 6, ground := Ground.guard }], guard := some (6, true) }) (v := .bool false) rfl (by kernel_rfl) (by kernel_rfl) (by kernel_rfl) (fun _ _ _ h => h) (Or.inl ⟨by rfl, ?_⟩) (by assumption) ?_
            · intro w hSw
              (try dsimp only at hSw)
              go_simp
              try with_reducible rfl
            (try simp only [Act.put, List.setIfInBounds_toArray, List.set_cons_zero, List.set_cons_succ])
            refine wpAnyH_take (i := 11) (oi := { dst := some 85, op := Op.load 25 (Operand.tmp 14), type := 25, pos := "laws.go:293", after := #[{ on := 10, ground := Ground.guard }], guard := some (10, false) }) (v := .agg #[.int .i64 n2, .int .i64 x2]) rfl (by kernel_rfl) (by kernel_rfl) (by kernel_rfl) (fun _ _ _ h => h) (Or.inl ⟨by rfl, ?_⟩) (by assumption) ?_
            · intro w hSw
              (try dsimp only at hSw)
              go_simp
              try with_reducible rfl
            (try simp only [Act.put, List.setIfInBounds_toArray, List.set_cons_zero, List.set_cons_succ])
            refine wpAnyH_take (i := 12) (oi := { dst := some 86, op := Op.load 25 (Operand.tmp 13), type := 25, pos := "laws.go:293", after := #[{ on := 10, ground := Ground.guard }], guard := some (10, false) }) (v := .agg #[.int .i64 n1, .int .i64 x1]) rfl (by kernel_rfl) (by kernel_rfl) (by kernel_rfl) (fun _ _ _ h => h) (Or.inl ⟨by rfl, ?_⟩) (by assumption) ?_
            · intro w hSw
              (try dsimp only at hSw)
              go_simp
              try with_reducible rfl
            (try simp only [Act.put, List.setIfInBounds_toArray, List.set_cons_zero, List.set_cons_succ])
            refine wpAnyH_ready (rs := [13]) (by kernel_rfl) (by simp) ?_
            refine AllReadyH.cons (o := { dst := some 87, op := Op.call { callee := Callee.value (Operand.func 20), args := #[Operand.tmp 85, Operand.tmp 86], argTypes := #[25, 25] }, type := 4, pos := "laws.go:293", after := #[{ on := 11, ground := Ground.data }, { on := 12, ground := Ground.data }, { on := 10, ground := Ground.chain }, { on := 10, ground := Ground.guard }], guard := some (10, false) }) rfl (fun K hK => ?_) AllReadyH.nil
            go_simp
            go_at_call 20
            go_split_ands
            refine (cM _ ?_ ?_).mono ?_
            assumption
            assumption
            rintro e w' ⟨rfl, hb', hN'⟩
            go_wp2_with fail
            refine hK.out _ _ ?_ (fun hHeld => ?_)
            · exact hkeep _ hb' hN'
            clear hK K
            (try simp only [Act.put, List.setIfInBounds_toArray, List.set_cons_zero, List.set_cons_succ])
            refine wpAnyH_take (i := 14) (oi := { dst := some 88, op := Op.pick (Operand.tmp 84) (Operand.const (Value.bool true)) (Operand.tmp 87), type := 4, pos := "laws.go:293", after := #[{ on := 10, ground := Ground.data }, { on := 13, ground := Ground.data }, { on := 6, ground := Ground.guard }], guard := some (6, true) }) (v := .bool true) rfl (by kernel_rfl) (by kernel_rfl) (by kernel_rfl) (fun _ _ _ h => h) (Or.inl ⟨by rfl, ?_⟩) (by assumption) ?_
            · intro w hSw
              (try dsimp only at hSw)
              go_simp
              try with_reducible rfl
            (try simp only [Act.put, List.setIfInBounds_toArray, List.set_cons_zero, List.set_cons_succ])
            refine wpAnyH_take (i := 18) (oi := { dst := some 92, op := Op.binOp BinOp.eql 4 (Operand.tmp 88) (Operand.tmp 91) 4, type := 4, pos := "laws.go:293", after := #[{ on := 14, ground := Ground.data }, { on := 17, ground := Ground.data }, { on := 6, ground := Ground.guard }], guard := some (6, true) }) (v := .bool false) rfl (by kernel_rfl) (by kernel_rfl) (by kernel_rfl) (fun _ _ _ h => h) (Or.inl ⟨by rfl, ?_⟩) (by assumption) ?_
            · intro w hSw
              (try dsimp only at hSw)
              go_simp
              try with_reducible rfl
            (try simp only [Act.put, List.setIfInBounds_toArray, List.set_cons_zero, List.set_cons_succ])
            refine wpAnyH_take (i := 19) (oi := { dst := some 93, op := Op.pick (Operand.tmp 80) (Operand.tmp 92) (Operand.const (Value.bool false)), type := 4, pos := "laws.go:293", after := #[{ on := 6, ground := Ground.data }, { on := 18, ground := Ground.data }], guard := none }) (v := .bool false) rfl (by kernel_rfl) (by kernel_rfl) (by kernel_rfl) (fun _ _ _ h => h) (Or.inl ⟨by rfl, ?_⟩) (by assumption) ?_
            · intro w hSw
              (try dsimp only at hSw)
              go_simp
              try with_reducible rfl
            (try simp only [Act.put, List.setIfInBounds_toArray, List.set_cons_zero, List.set_cons_succ])
            refine wpAnyH_done (by kernel_rfl) ?_ _
            refine NoPanic.normal ?_
            go_split_ands
            go_wp2
            go_meet
            case rel => exact ⟨rfl, by assumption, by assumption⟩
        · obtain rfl : L2 = false := by simpa using ha
          obtain rfl : q = false := by simpa using ht
          clear ht ha hfq
          refine wp_region_noPanic ?_
          refine wp_region_held_drew (S := (fun W' => Below W0.heap.size W0 W' ∧ W0.heap.size ≤ W'.heap.size ∧ W'.cell? ⟨w3.heap.size, 0, none⟩ = some (.int .i64 n1) ∧ W'.cell? ⟨w3.heap.size, 1, none⟩ = some (.int .i64 x1) ∧ W'.cell? ⟨w3.heap.size + 1, 0, none⟩ = some (.int .i64 n2) ∧ W'.cell? ⟨w3.heap.size + 1, 1, none⟩ = some (.int .i64 x2))) (by kernel_rfl) ?_ (fun hHeld => ?_)
          · exact hkeep _ (Below.drew (by assumption)) (by assumption)
          refine wpAnyH_take (i := 0) (oi := { dst := some 74, op := Op.load 25 (Operand.tmp 13), type := 25, pos := "laws.go:293", after := #[], guard := none }) (v := .agg #[.int .i64 n1, .int .i64 x1]) rfl (by kernel_rfl) (by kernel_rfl) (by kernel_rfl) (fun _ _ _ h => h) (Or.inl ⟨by rfl, ?_⟩) (by assumption) ?_
          · intro w hSw
            (try dsimp only at hSw)
            go_simp
            try with_reducible rfl
          (try simp only [Act.put, List.setIfInBounds_toArray, List.set_cons_zero, List.set_cons_succ])
          refine wpAnyH_ready (rs := [1]) (by kernel_rfl) (by simp) ?_
          refine AllReadyH.cons (o := { dst := some 75, op := Op.call { callee := Callee.value (Operand.func 14), args := #[Operand.tmp 74], argTypes := #[25] }, type := 4, pos := "laws.go:293", after := #[{ on := 0, ground := Ground.data }], guard := none }) rfl (fun K hK => ?_) AllReadyH.nil
          go_simp
          go_at_call 14
          go_split_ands
          refine (c1 _ ?_ ?_).mono ?_
          assumption
          assumption
          rintro e w' ⟨rfl, hb', hN'⟩
          go_wp2_with fail
          refine hK.out _ _ ?_ (fun hHeld => ?_)
          · exact hkeep _ hb' hN'
          clear hK K
          (try simp only [Act.put, List.setIfInBounds_toArray, List.set_cons_zero, List.set_cons_succ])
          refine wpAnyH_take (i := 2) (oi := { dst := some 76, op := Op.move (Operand.tmp 75), type := 4, pos := "laws.go:293", after := #[{ on := 1, ground := Ground.data }, { on := 1, ground := Ground.chain }], guard := none }) (v := .bool true) rfl (by kernel_rfl) (by kernel_rfl) (by kernel_rfl) (fun _ _ _ h => h) (Or.inl ⟨by rfl, ?_⟩) (by assumption) ?_
          · intro w hSw
            (try dsimp only at hSw)
            go_simp
            try with_reducible rfl
          (try simp only [Act.put, List.setIfInBounds_toArray, List.set_cons_zero, List.set_cons_succ])
          refine wpAnyH_take (i := 3) (oi := { dst := some 77, op := Op.load 25 (Operand.tmp 14), type := 25, pos := "laws.go:293", after := #[{ on := 2, ground := Ground.guard }], guard := some (2, true) }) (v := .agg #[.int .i64 n2, .int .i64 x2]) rfl (by kernel_rfl) (by kernel_rfl) (by kernel_rfl) (fun _ _ _ h => h) (Or.inl ⟨by rfl, ?_⟩) (by assumption) ?_
          · intro w hSw
            (try dsimp only at hSw)
            go_simp
            try with_reducible rfl
          (try simp only [Act.put, List.setIfInBounds_toArray, List.set_cons_zero, List.set_cons_succ])
          refine wpAnyH_ready (rs := [4]) (by kernel_rfl) (by simp) ?_
          refine AllReadyH.cons (o := { dst := some 78, op := Op.call { callee := Callee.value (Operand.func 14), args := #[Operand.tmp 77], argTypes := #[25] }, type := 4, pos := "laws.go:293", after := #[{ on := 3, ground := Ground.data }, { on := 2, ground := Ground.chain }, { on := 2, ground := Ground.guard }], guard := some (2, true) }) rfl (fun K hK => ?_) AllReadyH.nil
          go_simp
          go_at_call 14
          go_split_ands
          refine (c2 _ ?_ ?_).mono ?_
          assumption
          assumption
          rintro e w' ⟨rfl, hb', hN'⟩
          go_wp2_with fail
          refine hK.out _ _ ?_ (fun hHeld => ?_)
          · exact hkeep _ hb' hN'
          clear hK K
          (try simp only [Act.put, List.setIfInBounds_toArray, List.set_cons_zero, List.set_cons_succ])
          refine wpAnyH_take (i := 5) (oi := { dst := some 79, op := Op.pick (Operand.tmp 76) (Operand.tmp 78) (Operand.const (Value.bool false)), type := 4, pos := "laws.go:293", after := #[{ on := 2, ground := Ground.data }, { on := 4, ground := Ground.data }], guard := none }) (v := .bool true) rfl (by kernel_rfl) (by kernel_rfl) (by kernel_rfl) (fun _ _ _ h => h) (Or.inl ⟨by rfl, ?_⟩) (by assumption) ?_
          · intro w hSw
            (try dsimp only at hSw)
            go_simp
            try with_reducible rfl
          (try simp only [Act.put, List.setIfInBounds_toArray, List.set_cons_zero, List.set_cons_succ])
          refine wpAnyH_take (i := 6) (oi := { dst := some 80, op := Op.move (Operand.tmp 79), type := 4, pos := "laws.go:293", after := #[{ on := 5, ground := Ground.data }, { on := 4, ground := Ground.chain }], guard := none }) (v := .bool true) rfl (by kernel_rfl) (by kernel_rfl) (by kernel_rfl) (fun _ _ _ h => h) (Or.inl ⟨by rfl, ?_⟩) (by assumption) ?_
          · intro w hSw
            (try dsimp only at hSw)
            go_simp
            try with_reducible rfl
          (try simp only [Act.put, List.setIfInBounds_toArray, List.set_cons_zero, List.set_cons_succ])
          refine wpAnyH_take (i := 7) (oi := { dst := some 81, op := Op.load 25 (Operand.tmp 13), type := 25, pos := "laws.go:293", after := #[{ on := 6, ground := Ground.guard }], guard := some (6, true) }) (v := .agg #[.int .i64 n1, .int .i64 x1]) rfl (by kernel_rfl) (by kernel_rfl) (by kernel_rfl) (fun _ _ _ h => h) (Or.inl ⟨by rfl, ?_⟩) (by assumption) ?_
          · intro w hSw
            (try dsimp only at hSw)
            go_simp
            try with_reducible rfl
          (try simp only [Act.put, List.setIfInBounds_toArray, List.set_cons_zero, List.set_cons_succ])
          refine wpAnyH_take (i := 8) (oi := { dst := some 82, op := Op.load 25 (Operand.tmp 14), type := 25, pos := "laws.go:293", after := #[{ on := 6, ground := Ground.guard }], guard := some (6, true) }) (v := .agg #[.int .i64 n2, .int .i64 x2]) rfl (by kernel_rfl) (by kernel_rfl) (by kernel_rfl) (fun _ _ _ h => h) (Or.inl ⟨by rfl, ?_⟩) (by assumption) ?_
          · intro w hSw
            (try dsimp only at hSw)
            go_simp
            try with_reducible rfl
          (try simp only [Act.put, List.setIfInBounds_toArray, List.set_cons_zero, List.set_cons_succ])
          refine wpAnyH_take (i := 15) (oi := { dst := some 89, op := Op.load 25 (Operand.tmp 13), type := 25, pos := "laws.go:293", after := #[{ on := 6, ground := Ground.guard }], guard := some (6, true) }) (v := .agg #[.int .i64 n1, .int .i64 x1]) rfl (by kernel_rfl) (by kernel_rfl) (by kernel_rfl) (fun _ _ _ h => h) (Or.inl ⟨by rfl, ?_⟩) (by assumption) ?_
          · intro w hSw
            (try dsimp only at hSw)
            go_simp
            try with_reducible rfl
          (try simp only [Act.put, List.setIfInBounds_toArray, List.set_cons_zero, List.set_cons_succ])
          refine wpAnyH_take (i := 16) (oi := { dst := some 90, op := Op.load 25 (Operand.tmp 14), type := 25, pos := "laws.go:293", after := #[{ on := 6, ground := Ground.guard }], guard := some (6, true) }) (v := .agg #[.int .i64 n2, .int .i64 x2]) rfl (by kernel_rfl) (by kernel_rfl) (by kernel_rfl) (fun _ _ _ h => h) (Or.inl ⟨by rfl, ?_⟩) (by assumption) ?_
          · intro w hSw
            (try dsimp only at hSw)
            go_simp
            try with_reducible rfl
          (try simp only [Act.put, List.setIfInBounds_toArray, List.set_cons_zero, List.set_cons_succ])
          refine wpAnyH_take (i := 17) (oi := { dst := some 91, op := Op.binOp BinOp.eql 25 (Operand.tmp 89) (Operand.tmp 90) 25, type := 4, pos := "laws.go:293", after := #[{ on := 15, ground := Ground.data }, { on := 16, ground := Ground.data }, { on := 6, ground := Ground.guard }], guard := some (6, true) }) (v := .bool false) rfl (by kernel_rfl) (by kernel_rfl) (by kernel_rfl) (fun _ _ _ h => h) (Or.inl ⟨by rfl, ?_⟩) (by assumption) ?_
          · intro w hSw
            (try dsimp only at hSw)
            go_simp
            try with_reducible rfl
          (try simp only [Act.put, List.setIfInBounds_toArray, List.set_cons_zero, List.set_cons_succ])
          refine wpAnyH_ready (rs := [9]) (by kernel_rfl) (by simp) ?_
          refine AllReadyH.cons (o := { dst := some 83, op := Op.call { callee := Callee.value (Operand.func 20), args := #[Operand.tmp 81, Operand.tmp 82], argTypes := #[25, 25] }, type := 4, pos := "laws.go:293", after := #[{ on := 7, ground := Ground.data }, { on := 8, ground := Ground.data }, { on := 6, ground := Ground.chain }, { on := 6, ground := Ground.guard }], guard := some (6, true) }) rfl (fun K hK => ?_) AllReadyH.nil
          go_simp
          go_at_call 20
          go_split_ands
          refine (cL _ ?_ ?_).mono ?_
          assumption
          assumption
          rintro e w' ⟨rfl, hb', hN'⟩
          go_wp2_with fail
          refine hK.out _ _ ?_ (fun hHeld => ?_)
          · exact hkeep _ hb' hN'
          clear hK K
          (try simp only [Act.put, List.setIfInBounds_toArray, List.set_cons_zero, List.set_cons_succ])
          refine wpAnyH_take (i := 10) (oi := { dst := some 84, op := Op.move (Operand.tmp 83), type := 4, pos := "laws.go:293", after := #[{ on := 9, ground := Ground.data }, { on := 9, ground := Ground.chain }, { on := 6, ground := Ground.guard }], guard := some (6, true) }) (v := .bool true) rfl (by kernel_rfl) (by kernel_rfl) (by kernel_rfl) (fun _ _ _ h => h) (Or.inl ⟨by rfl, ?_⟩) (by assumption) ?_
          · intro w hSw
            (try dsimp only at hSw)
            go_simp
            try with_reducible rfl
          (try simp only [Act.put, List.setIfInBounds_toArray, List.set_cons_zero, List.set_cons_succ])
          refine wpAnyH_take (i := 11) (oi := { dst := some 85, op := Op.load 25 (Operand.tmp 14), type := 25, pos := "laws.go:293", after := #[{ on := 10, ground := Ground.guard }], guard := some (10, false) }) (v := undef) rfl (by kernel_rfl) (by kernel_rfl) (by kernel_rfl) (fun _ _ _ h => h) (Or.inr ⟨by rfl, rfl⟩) (by assumption) ?_
          (try simp only [Act.put, List.setIfInBounds_toArray, List.set_cons_zero, List.set_cons_succ])
          refine wpAnyH_take (i := 12) (oi := { dst := some 86, op := Op.load 25 (Operand.tmp 13), type := 25, pos := "laws.go:293", after := #[{ on := 10, ground := Ground.guard }], guard := some (10, false) }) (v := undef) rfl (by kernel_rfl) (by kernel_rfl) (by kernel_rfl) (fun _ _ _ h => h) (Or.inr ⟨by rfl, rfl⟩) (by assumption) ?_
          (try simp only [Act.put, List.setIfInBounds_toArray, List.set_cons_zero, List.set_cons_succ])
          refine wpAnyH_take (i := 13) (oi := { dst := some 87, op := Op.call { callee := Callee.value (Operand.func 20), args := #[Operand.tmp 85, Operand.tmp 86], argTypes := #[25, 25] }, type := 4, pos := "laws.go:293", after := #[{ on := 11, ground := Ground.data }, { on := 12, ground := Ground.data }, { on := 10, ground := Ground.chain }, { on := 10, ground := Ground.guard }], guard := some (10, false) }) (v := undef) rfl (by kernel_rfl) (by kernel_rfl) (by kernel_rfl) (fun _ _ _ h => h) (Or.inr ⟨by rfl, rfl⟩) (by assumption) ?_
          (try simp only [Act.put, List.setIfInBounds_toArray, List.set_cons_zero, List.set_cons_succ])
          refine wpAnyH_take (i := 14) (oi := { dst := some 88, op := Op.pick (Operand.tmp 84) (Operand.const (Value.bool true)) (Operand.tmp 87), type := 4, pos := "laws.go:293", after := #[{ on := 10, ground := Ground.data }, { on := 13, ground := Ground.data }, { on := 6, ground := Ground.guard }], guard := some (6, true) }) (v := .bool true) rfl (by kernel_rfl) (by kernel_rfl) (by kernel_rfl) (fun _ _ _ h => h) (Or.inl ⟨by rfl, ?_⟩) (by assumption) ?_
          · intro w hSw
            (try dsimp only at hSw)
            go_simp
            try with_reducible rfl
          (try simp only [Act.put, List.setIfInBounds_toArray, List.set_cons_zero, List.set_cons_succ])
          refine wpAnyH_take (i := 18) (oi := { dst := some 92, op := Op.binOp BinOp.eql 4 (Operand.tmp 88) (Operand.tmp 91) 4, type := 4, pos := "laws.go:293", after := #[{ on := 14, ground := Ground.data }, { on := 17, ground := Ground.data }, { on := 6, ground := Ground.guard }], guard := some (6, true) }) (v := .bool false) rfl (by kernel_rfl) (by kernel_rfl) (by kernel_rfl) (fun _ _ _ h => h) (Or.inl ⟨by rfl, ?_⟩) (by assumption) ?_
          · intro w hSw
            (try dsimp only at hSw)
            go_simp
            try with_reducible rfl
          (try simp only [Act.put, List.setIfInBounds_toArray, List.set_cons_zero, List.set_cons_succ])
          refine wpAnyH_take (i := 19) (oi := { dst := some 93, op := Op.pick (Operand.tmp 80) (Operand.tmp 92) (Operand.const (Value.bool false)), type := 4, pos := "laws.go:293", after := #[{ on := 6, ground := Ground.data }, { on := 18, ground := Ground.data }], guard := none }) (v := .bool false) rfl (by kernel_rfl) (by kernel_rfl) (by kernel_rfl) (fun _ _ _ h => h) (Or.inl ⟨by rfl, ?_⟩) (by assumption) ?_
          · intro w hSw
            (try dsimp only at hSw)
            go_simp
            try with_reducible rfl
          (try simp only [Act.put, List.setIfInBounds_toArray, List.set_cons_zero, List.set_cons_succ])
          refine wpAnyH_done (by kernel_rfl) ?_ _
          refine NoPanic.normal ?_
          go_split_ands
          go_wp2
          go_meet
          case rel => exact ⟨rfl, by assumption, by assumption⟩
    case rest =>
      obtain ⟨rfl, hB3, hN3⟩ := hcut
      have hanti := hfq.out.2
      clear hfq hq hg hB2 hN2
      rcases HR.out.2 with ⟨rfl, i, k, rfl, rfl, hik, hkl, hrd⟩ | ⟨hc0, rfl, rfl⟩
      · have hlen := HL.out
        have hcl := cut_len hik hkl
        have ec := ext_cut l i k
        obtain ⟨u, hu⟩ : ∃ u, u = cut l i k := ⟨_, rfl⟩
        have ec2 : (ByteArray.mk l.toArray).extract i k = ⟨u.toArray⟩ := by rw [ec, hu]; rfl
        rw [← hu] at hrd hcl
        have cr := fun W1 => readnum_impl u 0 W1 (by omega)
        rw [hrd] at cr
        have hikI : (i : Int) ≤ k := by omega
        have hkI : (k : Int) ≤ l.length := by omega
        have hlI : (l.length : Int) ≤ 1000 := by omega
        clear hu ec hcl hrd HR hik hkl hlen hanti hz0 hz1
        go_wp2_with fail
        refine (cr _).mono ?_
        rintro e w5 ⟨rfl, hb5⟩
        have hB5 := hB3.trans (hb5.mono hN3)
        go_wp2
        go_ret
        exact ⟨rfl, hend _ hB5⟩
      · have hcb : (c != 0) = true := by simpa using hc0
        obtain ⟨_, _, _, _, _, _⟩ := hkeep _ hB3 hN3
        clear HR
        cases L1
        · clear hanti
          go_wp2_with (go_at_call_of 20 (Value.agg #[Value.int IntKind.i64 n1, Value.int IntKind.i64 x1]); refine (cL _ hB3 hN3).mono ?_; clear hB3 hN3; rintro e w' ⟨rfl, hB3, hN3⟩; obtain ⟨_, _, _, _, _, _⟩ := hkeep _ hB3 hN3)
          go_ret
          exact ⟨rfl, hend _ hB3⟩
        · obtain rfl : L2 = false := by simpa using hanti
          clear hanti
          go_wp2_with fail
          refine (cL _ hB3 hN3).mono ?_
          clear hB3 hN3
          rintro e w' ⟨rfl, hB3, hN3⟩
          obtain ⟨_, _, _, _, _, _⟩ := hkeep _ hB3 hN3
          go_wp2_with fail
          refine (cM _ hB3 hN3).mono ?_
          clear hB3 hN3
          rintro e w' ⟨rfl, hB3, hN3⟩
          go_wp2
          go_ret
          exact ⟨rfl, hend _ hB3⟩

set_option maxRecDepth 100000 in
theorem contract (H : Type) (enc : TypeId × Value → H) (W : World) (base : Nat) (args : Array Value) (ds gs : List (DataW H)) (before : List MemPlace)
    (hval : ∀ (j : Nat) t v, Tryd.f4.params[j]? = some t → args[j]? = some v → Value.okWide Tryd.prog W .any base t v)
    (hW : DataW.Whole enc Tryd.prog Tryd.f4.params.toList Rows.fnReadsSpec.vars false W args.toList ds gs before)
    (hcond : ∀ k, (OpenSpec.ofChange Rows.fnReadsSpec).cond = some k → k H (ds ++ gs) = true)
    (hsz : (DataW.weightsEach Tryd.prog (Tryd.f4.params.toList ++ (OpenSpec.ofChange Rows.fnReadsSpec).bare.plain.varTypes Tryd.prog) (ds ++ gs)).all (· ≤ reachBytes) = true)
    (hL : laidMetH Tryd.prog Rows.fnReadsRow.laid W) :
    Calls Tryd.prog 4 args W fun e W' => ∃ v, e = .returned v ∧ Rows.fnReadsSpec.post enc Tryd.prog Tryd.f4 false true false false W args v W' := by
  have hW' := hW
  have hlt := hW'.lt
  obtain ⟨p, q, hA0, hV, rfl, hfz, hnd⟩ := hW
  have hA : DataW.TrodAll enc Tryd.prog W 0 (fun _ => true) true Tryd.f4.params.toList args.toList ds p := hA0
  rw [Tryd.params4] at hA hval hsz
  obtain ⟨v0, vs0, d0, ds0, p0, q0, hargs, rfl, rfl, h0, r0⟩ := trodAll_cons hA
  obtain ⟨rfl, rfl, rfl⟩ := trodAll_nil r0
  obtain rfl : args = #[v0] := by cases args; simp_all
  obtain ⟨rfl, rfl⟩ := trodVars_none hV
  simp only [List.append_nil] at hW' hlt
  have hlt0 : ∀ x ∈ p0, x.block < W.heap.size := fun x hx => hlt x (by simp [hx])
  have hk0 := h0
  clear hA0 hA
  have fin : ∀ W' : World, Below W.heap.size W W' → Rows.fnReadsSpec.post enc Tryd.prog Tryd.f4 false true false false W _ (.bool true) W' := fun W' hb =>
    ⟨_, _, _, [], _, [], hW', trodAll_mk1 (shut_bool Tryd.underlying4 _), (trodAll_cons_mk (Below.trod laidOut (by kernel_rfl) (of_decide_eq_true (by kernel_rfl)) hk0 hb hlt0) trodAll_mk0), rfl, hb.frame _, fun h => by cases h⟩
  refine Calls.mono (R := fun e w' => e = .returned (.bool true) ∧ Below W.heap.size W w') ?_ (fun e W' h => ⟨_, h.1, fin W' h.2⟩)
  clear fin
  obtain ⟨a, len, cap, rfl, hC, hm⟩ := open_code (hval 0 _ v0 rfl rfl) h0 hlt0
  by_cases hl : 1048576 < len
  · exact walk_long a len cap W hl hm
  · exact walk a len cap W hC (by omega)

theorem laid_met (os : Os) : laidMet Tryd.prog Rows.fnReadsRow.laid (((World.laidAll Tryd.prog os Rows.fnReadsRow.laid)).forCall (fun _ _ => 0) ⟨#[], #[.slice none 0 0], []⟩).memory :=
  laidMet_laidAll _ (by kernel_rfl) (by kernel_rfl)
theorem reads (os : Os) {H : Type} (enc : TypeId × Value → H) : ∃ places, DataW.whole enc Tryd.prog (((World.laidAll Tryd.prog os Rows.fnReadsRow.laid)).forCall (fun _ _ => 0) ⟨#[], #[.slice none 0 0], []⟩).memory Tryd.f4.params.toList Rows.fnReadsSpec.vars false (#[.slice none 0 0] : Array Value).toList 8 = some ([.nil], [], places) :=
  ⟨[], by kernel_rfl⟩

set_option maxRecDepth 100000 in
theorem lifted (os : Os) (started : os.Started) (H : Type) (enc : TypeId × Value → H) (F : Stop.Interp) :
    ReturnsInHanded {} Tryd.checked os 4 .any ((OpenSpec.ofChange Rows.fnReadsSpec).preRow enc Tryd.prog Tryd.f4 Rows.fnReadsRow.domain false Rows.fnReadsRow.laid) (((OpenSpec.ofChange Rows.fnReadsSpec).at F).post enc Tryd.prog Tryd.f4 false true false false) := by
  obtain ⟨places, hx⟩ := reads os enc
  refine returnsInHanded_of_row (C := Tryd.checked) (s := OpenSpec.ofChange Rows.fnReadsSpec) own started (by kernel_rfl) Tryd.func4
    (witness_row_atRef (enc := enc) (C := Tryd.checked) false (World.laidAll Tryd.prog os Rows.fnReadsRow.laid) #[.slice none 0 0] (World.laidAll_os _ _ _) (by kernel_rfl) (by kernel_rfl) (by kernel_rfl)
      (OpenSpec.preRow_of_cond 8 hx (by kernel_rfl) (fun k hk => by cases hk) (by kernel_rfl) (laid_met os))) ?_
  intro W base args ds gs before hval hW _ hcond hsz hL _ _
  exact contract H enc W base args ds gs before hval hW hcond hsz hL

theorem said : Rows.FnReadsSaid :=
  OpenClaim.holds_of_cond 4 Tryd.f4 rfl rfl rfl rfl rfl rfl rfl ⟨rfl, rfl, rfl, rfl, rfl⟩ rfl rfl rfl rfl rfl (by kernel_rfl) Tryd.func4 (by kernel_rfl)
    (of_decide_eq_true (by kernel_rfl)) (by unfold Func.isWrapper; first | (rw [if_pos (by decide +kernel)]; kernel_rfl) | (rw [if_neg (by decide +kernel)]; exact ⟨rfl, rfl⟩))
    (fun os started H enc _ F => by rw [OpenClaim.pre_eq_preRow]; exact lifted os started H enc F)

theorem plain (f : FuncId) (fn : Func) (hf : Tryd.pinned.checked.prog.funcNamed Rows.fnReadsRow.func = some f) (hfn : Tryd.pinned.checked.prog.funcs[f]? = some fn) :
    false = Tryd.pinned.checked.prog.looks [] ∧ ∀ (j : Nat) t, fn.params[j]? = some t → Tryd.pinned.checked.prog.wantsStandIn t = false := by
  obtain rfl : f = 4 := Option.some.inj ((show Tryd.prog.funcNamed Rows.fnReadsRow.func = some 4 by kernel_rfl).symm.trans hf) |>.symm
  obtain rfl : fn = Tryd.f4 := (Option.some.inj (Tryd.func4.symm.trans hfn)).symm
  refine ⟨by kernel_rfl, fun j t ht => ?_⟩
  rw [Tryd.params4] at ht
  have hm : t ∈ [22] := by simpa using Array.mem_of_getElem? ht
  have hall : ([22].all fun u => !Tryd.prog.wantsStandIn u) = true := by kernel_rfl
  exact (show Tryd.prog.wantsStandIn t = false by simpa using List.all_eq_true.1 hall t hm)

theorem proved : Rows.FnReadsCardSaid :=
  Claim7.holds_tied_plain_at .later [] _ _ _ _ said (fun _ h => by cases h) (by kernel_rfl) (fun _ h => by cases h) fnReads_row_tie rfl ⟨rfl, rfl⟩ (by kernel_rfl) rfl plain (by kernel_rfl)
#print axioms proved
end Go.Proofs.YtmjlbglnlpfadaaDoor.fnReads
