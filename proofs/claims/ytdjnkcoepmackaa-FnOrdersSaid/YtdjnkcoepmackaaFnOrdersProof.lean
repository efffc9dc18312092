/- For every input the law FnOrders returns true and its arguments read afterwards as they read before; beside what the row states there is no condition. -/
import Derived.Test.YtdjnkcoepmackaaRows
import Derived.WalkKit
import Derived.ProofKit
import Derived.OpenShut
import Derived.SizedLaws
import Derived.Carry
import Derived.Deep.DeepHandedRow


import Derived.Lib.LaidTab
import Derived.Stop.LaidErr
import Derived.Test.YtdjnkcoepmackaaG11
import Derived.Test.YtdjnkcoepmackaaG10
import Derived.Test.YtdjnkcoepmackaaG17
import Derived.Test.YtdjnkcoepmackaaG15
import Derived.Test.YtdjnkcoepmackaaG19
import Derived.Test.YtdjnkcoepmackaaG18
import Derived.Deep.RegionHeld3
import Derived.Deep.Cut

namespace Go.Proofs.Ytdjnkcoepmackaa.fnOrders
open Go.ChangeShapes Go.WideShapes Go.ChangeAt Go.RowKit
open Go.ChangeMaps (open_string shut_string)
set_option linter.unusedVariables false

theorem own : ownKnob Try.prog.godebug = none := by kernel_rfl
theorem laidOut : laidOutB Try.prog = true := by kernel_rfl

theorem walk_long (a : Option Addr) (len cap : Nat) (W : World) (h : 1048576 < len) (hm : len ≤ maxLen) : Calls Try.prog 5 #[.slice a len cap] W fun e w' => e = .returned (.bool true) ∧ Below W.heap.size W w' := by
  go_enter Try.func5, Try.ntmps5
  go_wp2_with (go_at_call 19; refine (big_yes a len cap _ h hm).mono ?_; rintro e w' ⟨rfl, rfl⟩)
  go_ret
  exact ⟨rfl, Below.refl _ _⟩
theorem relTree {f : FuncId} {args : Array Value} {v : Value} {W0 : World} (h : ∀ W, Below W0.heap.size W0 W → W0.heap.size ≤ W.heap.size → Calls Try.prog f args W fun e w' => e = .returned v ∧ Below W.heap.size W w') :
    ∀ W, Below W0.heap.size W0 W → W0.heap.size ≤ W.heap.size → Calls Try.prog f args W fun e w' => e = .returned v ∧ Below W0.heap.size W0 w' ∧ W0.heap.size ≤ w'.heap.size :=
  fun W hb hN => (h W hb hN).mono fun _ _ ⟨he, hb2⟩ => ⟨he, hb.trans (hb2.mono hN), Nat.le_trans hN hb2.size⟩
set_option maxRecDepth 100000 in
set_option maxHeartbeats 8000000 in
theorem walk (a : Option Addr) (len cap : Nat) (W : World) (hC : CodeAt W a len) (hl : len ≤ 1048576) : Calls Try.prog 5 #[.slice a len cap] W fun e w' => e = .returned (.bool true) ∧ Below W.heap.size W w' := by
  go_enter Try.func5, Try.ntmps5
  go_wp2_with fail
  refine (big_no a len cap _ hl).mono ?_
  rintro r w' ⟨rfl, rfl⟩
  go_wp2_with fail
  refine (drawless_any a len cap W hC hl).mono ?_
  rintro r w1 ⟨T, U, rfl, ⟨hT, hU⟩, _, ⟨hTw, hUw⟩, hb1⟩
  obtain ⟨x1, x2⟩ := vcbox w1 T.k T.n T.x ⟨T.s.toArray⟩ T.a T.l.length T.cap U.k U.n U.x ⟨U.s.toArray⟩ U.a U.l.length U.cap 28
  have HA := Lib.hid x1
  have HBX := Lib.hid x2
  have HTO := Lib.hid hT
  have HUO := Lib.hid hU
  have HT := Lib.hid hTw
  have HU := Lib.hid hUw
  have HB1 := Lib.hid hb1
  clear x1 x2 hT hU hTw hUw hb1
  go_wp2_with fail
  generalize hV1 : (w1.alloc (.cells #[.int .i64 T.k, .int .i64 T.n, .int .i64 T.x, .string ⟨T.s.toArray⟩, .slice T.a T.l.length T.cap] 28)).alloc (.cells #[.int .i64 U.k, .int .i64 U.n, .int .i64 U.x, .string ⟨U.s.toArray⟩, .slice U.a U.l.length U.cap] 28) = V1 at *
  have B11 := Lib.hid (show Below w1.heap.size w1 V1 by rw [← hV1]; exact (vbox w1 _).alloc (by simp) _)
  clear hV1
  obtain ⟨ga, hga⟩ : ∃ g, g = w1.heap.size := ⟨_, rfl⟩
  obtain ⟨gb, hgb⟩ : ∃ g, g = w1.heap.size + 1 := ⟨_, rfl⟩
  have HA' := HA.out
  have HBX' := HBX.out
  rw [← hgb] at HBX' ⊢
  rw [← hga] at HA' ⊢
  clear hga hgb HA HBX
  have BV1 := Lib.hid (HB1.out.trans (B11.out.mono HB1.out.size))
  refine (drawval_any a len cap V1 (hC.below BV1.out) hl).mono ?_
  rintro r w2 ⟨X, rfl, hX, _, hXw, hb2⟩
  obtain ⟨gu, hgu⟩ : ∃ g, g = w2.heap.size := ⟨_, rfl⟩
  obtain ⟨W0, hW0⟩ : ∃ W0 : World, W0 = w2.alloc (.cells #[.int .i64 X.k, .int .i64 X.n, .int .i64 X.x, .string ⟨X.s.toArray⟩, .slice X.a X.l.length X.cap] 28) := ⟨_, rfl⟩
  have b20 : Below w2.heap.size w2 W0 := by rw [hW0]; exact vbox w2 _
  have z20 : w2.heap.size ≤ W0.heap.size := b20.size
  have x1 : VC W0 ga T.k T.n T.x ⟨T.s.toArray⟩ T.a T.l.length T.cap := (HA'.blw hb2).blw b20
  have x2 : VC W0 gb U.k U.n U.x ⟨U.s.toArray⟩ U.a U.l.length U.cap := (HBX'.blw hb2).blw b20
  have x3 : VC W0 gu X.k X.n X.x ⟨X.s.toArray⟩ X.a X.l.length X.cap := by
    rw [hW0, hgu]
    refine ⟨?_, ?_, ?_, ?_, ?_⟩ <;> simp [go_sem]
  have iT : T.In W0 W0.heap.size := ((((HTO.out.in).blw B11.out (Nat.le_refl _)).mono B11.out.size).blw hb2 (Nat.le_refl _) |>.mono hb2.size).blw b20 (Nat.le_refl _) |>.mono z20
  have iU : U.In W0 W0.heap.size := ((((HUO.out.in).blw B11.out (Nat.le_refl _)).mono B11.out.size).blw hb2 (Nat.le_refl _) |>.mono hb2.size).blw b20 (Nat.le_refl _) |>.mono z20
  have iX : X.In W0 W0.heap.size := ((hX.in).blw b20 (Nat.le_refl _)).mono z20
  have hB0 : Below W.heap.size W W0 := (BV1.out.trans (hb2.mono BV1.out.size)).trans (b20.mono (Nat.le_trans BV1.out.size hb2.size))
  have hkeep : ∀ W' : World, Below W0.heap.size W0 W' → W0.heap.size ≤ W'.heap.size → Below W0.heap.size W0 W' ∧ W0.heap.size ≤ W'.heap.size ∧ W'.cell? ⟨ga, 0, none⟩ = some (.int .i64 T.k) ∧ W'.cell? ⟨ga, 1, none⟩ = some (.int .i64 T.n) ∧ W'.cell? ⟨ga, 2, none⟩ = some (.int .i64 T.x) ∧ W'.cell? ⟨ga, 3, none⟩ = some (.string ⟨T.s.toArray⟩) ∧ W'.cell? ⟨ga, 4, none⟩ = some (.slice T.a T.l.length T.cap) ∧ W'.cell? ⟨gb, 0, none⟩ = some (.int .i64 U.k) ∧ W'.cell? ⟨gb, 1, none⟩ = some (.int .i64 U.n) ∧ W'.cell? ⟨gb, 2, none⟩ = some (.int .i64 U.x) ∧ W'.cell? ⟨gb, 3, none⟩ = some (.string ⟨U.s.toArray⟩) ∧ W'.cell? ⟨gb, 4, none⟩ = some (.slice U.a U.l.length U.cap) ∧ W'.cell? ⟨gu, 0, none⟩ = some (.int .i64 X.k) ∧ W'.cell? ⟨gu, 1, none⟩ = some (.int .i64 X.n) ∧ W'.cell? ⟨gu, 2, none⟩ = some (.int .i64 X.x) ∧ W'.cell? ⟨gu, 3, none⟩ = some (.string ⟨X.s.toArray⟩) ∧ W'.cell? ⟨gu, 4, none⟩ = some (.slice X.a X.l.length X.cap) := fun W' hb hN =>
    ⟨hb, hN, (x1.blw hb).c0, (x1.blw hb).c1, (x1.blw hb).c2, (x1.blw hb).c3, (x1.blw hb).c4, (x2.blw hb).c0, (x2.blw hb).c1, (x2.blw hb).c2, (x2.blw hb).c3, (x2.blw hb).c4, (x3.blw hb).c0, (x3.blw hb).c1, (x3.blw hb).c2, (x3.blw hb).c3, (x3.blw hb).c4⟩
  have hend : ∀ W', Below W0.heap.size W0 W' → Below W.heap.size W W' := fun W' hb => hB0.trans (hb.mono hB0.size)
  have sT := HT.out
  have sU := HU.out
  have cL := Lib.hid (relTree (W0 := W0) (fun W1 hb hN => lessval_impl T U W1 W0.heap.size sT.1 sU.1 (iT.blw hb (Nat.le_refl _)) (iU.blw hb (Nat.le_refl _)) hN (by omega)))
  have cM := Lib.hid (relTree (W0 := W0) (fun W1 hb hN => lessval_impl U T W1 W0.heap.size sU.1 sT.1 (iU.blw hb (Nat.le_refl _)) (iT.blw hb (Nat.le_refl _)) hN (by omega)))
  have cS := Lib.hid (relTree (W0 := W0) (fun W1 hb hN => lessval_spec T U W1 W0.heap.size sT.1 sU.1 (iT.blw hb (Nat.le_refl _)) (iU.blw hb (Nat.le_refl _)) hN))
  have cU := Lib.hid (relTree (W0 := W0) (fun W1 hb hN => lessval_impl X X W1 W0.heap.size hXw.1 hXw.1 (iX.blw hb (Nat.le_refl _)) (iX.blw hb (Nat.le_refl _)) hN (by omega)))
  have cV := Lib.hid (relTree (W0 := W0) (fun W1 hb hN => valok_impl T W1 W0.heap.size (iT.blw hb (Nat.le_refl _)) hN ⟨sT.1, by omega⟩))
  have cV2 := Lib.hid (relTree (W0 := W0) (fun W1 hb hN => valok_impl U W1 W0.heap.size (iU.blw hb (Nat.le_refl _)) hN ⟨sU.1, by omega⟩))
  have cE := Lib.hid (relTree (W0 := W0) (fun W1 hb hN => same_impl T U W1 W0.heap.size (iT.blw hb (Nat.le_refl _)) (iU.blw hb (Nat.le_refl _)) hN (by omega) (by omega)))
  have hxx : X.pt.less X.pt = false := by
    have := less_asym X.pt X.pt
    cases h : X.pt.less X.pt
    · rfl
    · exact absurd ⟨h, h⟩ this
  have hasym := less_asym T.pt U.pt
  have hone := less_one T.pt U.pt
  have cU' := cU.out
  rw [hxx] at cU'
  have cL := cL.out
  have cM := cM.out
  have cS := cS.out
  have cV := cV.out
  have cV2 := cV2.out
  have cE := cE.out
  have hB := Below.refl W0.heap.size W0
  have hN0 := Nat.le_refl W0.heap.size
  obtain ⟨lt, hlt⟩ : ∃ b, b = T.pt.less U.pt := ⟨_, rfl⟩
  obtain ⟨gt, hgt⟩ : ∃ b, b = U.pt.less T.pt := ⟨_, rfl⟩
  obtain ⟨sm, hsm⟩ : ∃ b, b = T.pt.same U.pt := ⟨_, rfl⟩
  obtain ⟨ok1, hok1⟩ : ∃ b, b = T.pt.ok := ⟨_, rfl⟩
  obtain ⟨ok2, hok2⟩ : ∃ b, b = U.pt.ok := ⟨_, rfl⟩
  rw [← hlt] at cL cS hasym hone
  rw [← hgt] at cM hasym hone
  rw [← hsm] at cE hone
  rw [← hok1] at cV
  rw [← hok2] at cV2
  have hcase : (lt = true ∧ gt = false ∧ sm = false) ∨ (lt = false ∧ gt = true ∧ sm = false) ∨ (lt = false ∧ gt = false ∧ sm = true) := by
    cases lt <;> cases gt <;> cases sm <;> simp_all
  have cUU := cU'
  clear cU cU' hxx hasym hone hlt hgt hsm hok1 hok2 x1 x2 x3 iT iU iX hB0 sT sU HT HU HTO HUO HB1 B11 BV1 HA' HBX' hX hXw hb2 b20 z20 hC
  have cU := cUU
  clear cUU
  go_wp2_with fail
  rw [← hW0, ← hgu]
  clear hW0 hgu
  obtain ⟨_, _, _, _, _, _, _, _, _, _, _, _, _, _, _⟩ := (hkeep _ hB hN0).2.2
  rcases hcase with ⟨rfl, rfl, rfl⟩ | ⟨rfl, rfl, rfl⟩ | ⟨rfl, rfl, rfl⟩
  · refine wp_region_noPanic ?_
    refine wp_region_held_drew (S := (fun W' => Below W0.heap.size W0 W' ∧ W0.heap.size ≤ W'.heap.size ∧ W'.cell? ⟨ga, 0, none⟩ = some (.int .i64 T.k) ∧ W'.cell? ⟨ga, 1, none⟩ = some (.int .i64 T.n) ∧ W'.cell? ⟨ga, 2, none⟩ = some (.int .i64 T.x) ∧ W'.cell? ⟨ga, 3, none⟩ = some (.string ⟨T.s.toArray⟩) ∧ W'.cell? ⟨ga, 4, none⟩ = some (.slice T.a T.l.length T.cap) ∧ W'.cell? ⟨gb, 0, none⟩ = some (.int .i64 U.k) ∧ W'.cell? ⟨gb, 1, none⟩ = some (.int .i64 U.n) ∧ W'.cell? ⟨gb, 2, none⟩ = some (.int .i64 U.x) ∧ W'.cell? ⟨gb, 3, none⟩ = some (.string ⟨U.s.toArray⟩) ∧ W'.cell? ⟨gb, 4, none⟩ = some (.slice U.a U.l.length U.cap) ∧ W'.cell? ⟨gu, 0, none⟩ = some (.int .i64 X.k) ∧ W'.cell? ⟨gu, 1, none⟩ = some (.int .i64 X.n) ∧ W'.cell? ⟨gu, 2, none⟩ = some (.int .i64 X.x) ∧ W'.cell? ⟨gu, 3, none⟩ = some (.string ⟨X.s.toArray⟩) ∧ W'.cell? ⟨gu, 4, none⟩ = some (.slice X.a X.l.length X.cap))) (by kernel_rfl) ?_ (fun hHeld => ?_)
    · exact hkeep _ (Below.drew (by assumption)) (by assumption)
    refine wpAnyH_take (i := 0) (oi := { dst := some 15, op := Op.load 28 (Operand.tmp 3), type := 28, pos := "laws.go:377", after := #[], guard := none }) (v := .agg #[.int .i64 T.k, .int .i64 T.n, .int .i64 T.x, .string ⟨T.s.toArray⟩, .slice T.a T.l.length T.cap]) rfl (by kernel_rfl) (by kernel_rfl) (by kernel_rfl) (fun _ _ _ h => h) (Or.inl ⟨by rfl, ?_⟩) (by assumption) ?_
    · intro w hSw
      (try dsimp only at hSw)
      go_simp
      try with_reducible rfl
    (try simp only [Act.put, List.setIfInBounds_toArray, List.set_cons_zero, List.set_cons_succ])
    refine wpAnyH_take (i := 1) (oi := { dst := some 16, op := Op.load 28 (Operand.tmp 4), type := 28, pos := "laws.go:377", after := #[], guard := none }) (v := .agg #[.int .i64 U.k, .int .i64 U.n, .int .i64 U.x, .string ⟨U.s.toArray⟩, .slice U.a U.l.length U.cap]) rfl (by kernel_rfl) (by kernel_rfl) (by kernel_rfl) (fun _ _ _ h => h) (Or.inl ⟨by rfl, ?_⟩) (by assumption) ?_
    · intro w hSw
      (try dsimp only at hSw)
      go_simp
      try with_reducible rfl
    (try simp only [Act.put, List.setIfInBounds_toArray, List.set_cons_zero, List.set_cons_succ])
    refine wpAnyH_take (i := 3) (oi := { dst := some 18, op := Op.load 28 (Operand.tmp 3), type := 28, pos := "laws.go:377", after := #[], guard := none }) (v := .agg #[.int .i64 T.k, .int .i64 T.n, .int .i64 T.x, .string ⟨T.s.toArray⟩, .slice T.a T.l.length T.cap]) rfl (by kernel_rfl) (by kernel_rfl) (by kernel_rfl) (fun _ _ _ h => h) (Or.inl ⟨by rfl, ?_⟩) (by assumption) ?_
    · intro w hSw
      (try dsimp only at hSw)
      go_simp
      try with_reducible rfl
    (try simp only [Act.put, List.setIfInBounds_toArray, List.set_cons_zero, List.set_cons_succ])
    refine wpAnyH_take (i := 4) (oi := { dst := some 19, op := Op.load 28 (Operand.tmp 4), type := 28, pos := "laws.go:377", after := #[], guard := none }) (v := .agg #[.int .i64 U.k, .int .i64 U.n, .int .i64 U.x, .string ⟨U.s.toArray⟩, .slice U.a U.l.length U.cap]) rfl (by kernel_rfl) (by kernel_rfl) (by kernel_rfl) (fun _ _ _ h => h) (Or.inl ⟨by rfl, ?_⟩) (by assumption) ?_
    · intro w hSw
      (try dsimp only at hSw)
      go_simp
      try with_reducible rfl
    (try simp only [Act.put, List.setIfInBounds_toArray, List.set_cons_zero, List.set_cons_succ])
    refine wpAnyH_ready (rs := [2]) (by kernel_rfl) (by simp) ?_
    refine AllReadyH.cons (o := { dst := some 17, op := Op.call { callee := Callee.value (Operand.func 22), args := #[Operand.tmp 15, Operand.tmp 16], argTypes := #[28, 28] }, type := 4, pos := "laws.go:377", after := #[{ on := 0, ground := Ground.data }, { on := 1, ground := Ground.data }], guard := none }) rfl (fun K hK => ?_) AllReadyH.nil
    go_simp
    go_at_call 22
    go_split_ands
    refine (cL _ ?_ ?_).mono ?_
    assumption
    assumption
    rintro e w' ⟨rfl, hb', hN'⟩
    go_wp2_with fail
    refine hK.out _ _ ?_ (fun hHeld => ?_)
    · exact hkeep _ hb' hN'
    clear hK K
    (try simp only [Act.put, List.setIfInBounds_toArray, List.set_cons_zero, List.set_cons_succ])
    refine wpAnyH_ready (rs := [5]) (by kernel_rfl) (by simp) ?_
    refine AllReadyH.cons (o := { dst := some 20, op := Op.call { callee := Callee.value (Operand.func 23), args := #[Operand.tmp 18, Operand.tmp 19], argTypes := #[28, 28] }, type := 4, pos := "laws.go:377", after := #[{ on := 3, ground := Ground.data }, { on := 4, ground := Ground.data }, { on := 2, ground := Ground.chain }], guard := none }) rfl (fun K hK => ?_) AllReadyH.nil
    go_simp
    go_at_call 23
    go_split_ands
    refine (cS _ ?_ ?_).mono ?_
    assumption
    assumption
    rintro e w' ⟨rfl, hb', hN'⟩
    go_wp2_with fail
    refine hK.out _ _ ?_ (fun hHeld => ?_)
    · exact hkeep _ hb' hN'
    clear hK K
    (try simp only [Act.put, List.setIfInBounds_toArray, List.set_cons_zero, List.set_cons_succ])
    refine wpAnyH_take (i := 6) (oi := { dst := some 21, op := Op.binOp BinOp.neq 4 (Operand.tmp 17) (Operand.tmp 20) 4, type := 4, pos := "laws.go:377", after := #[{ on := 2, ground := Ground.data }, { on := 5, ground := Ground.data }], guard := none }) (v := .bool false) rfl (by kernel_rfl) (by kernel_rfl) (by kernel_rfl) (fun _ _ _ h => h) (Or.inl ⟨by rfl, ?_⟩) (by assumption) ?_
    · intro w hSw
      (try dsimp only at hSw)
      go_simp
      try with_reducible rfl
    (try simp only [Act.put, List.setIfInBounds_toArray, List.set_cons_zero, List.set_cons_succ])
    refine wpAnyH_take (i := 7) (oi := { dst := some 22, op := Op.move (Operand.tmp 21), type := 4, pos := "laws.go:377", after := #[{ on := 6, ground := Ground.data }, { on := 5, ground := Ground.chain }], guard := none }) (v := .bool false) rfl (by kernel_rfl) (by kernel_rfl) (by kernel_rfl) (fun _ _ _ h => h) (Or.inl ⟨by rfl, ?_⟩) (by assumption) ?_
    · intro w hSw
      (try dsimp only at hSw)
      go_simp
      try with_reducible rfl
    (try simp only [Act.put, List.setIfInBounds_toArray, List.set_cons_zero, List.set_cons_succ])
    refine wpAnyH_take (i := 8) (oi := { dst := some 23, op := Op.load 28 (Operand.tmp 3), type := 28, pos := "laws.go:377", after := #[{ on := 7, ground := Ground.guard }], guard := some (7, false) }) (v := .agg #[.int .i64 T.k, .int .i64 T.n, .int .i64 T.x, .string ⟨T.s.toArray⟩, .slice T.a T.l.length T.cap]) rfl (by kernel_rfl) (by kernel_rfl) (by kernel_rfl) (fun _ _ _ h => h) (Or.inl ⟨by rfl, ?_⟩) (by assumption) ?_
    · intro w hSw
      (try dsimp only at hSw)
      go_simp
      try with_reducible rfl
    (try simp only [Act.put, List.setIfInBounds_toArray, List.set_cons_zero, List.set_cons_succ])
    refine wpAnyH_take (i := 9) (oi := { dst := some 24, op := Op.load 28 (Operand.tmp 4), type := 28, pos := "laws.go:377", after := #[{ on := 7, ground := Ground.guard }], guard := some (7, false) }) (v := .agg #[.int .i64 U.k, .int .i64 U.n, .int .i64 U.x, .string ⟨U.s.toArray⟩, .slice U.a U.l.length U.cap]) rfl (by kernel_rfl) (by kernel_rfl) (by kernel_rfl) (fun _ _ _ h => h) (Or.inl ⟨by rfl, ?_⟩) (by assumption) ?_
    · intro w hSw
      (try dsimp only at hSw)
      go_simp
      try with_reducible rfl
    (try simp only [Act.put, List.setIfInBounds_toArray, List.set_cons_zero, List.set_cons_succ])
    refine wpAnyH_ready (rs := [10]) (by kernel_rfl) (by simp) ?_
    refine AllReadyH.cons (o := { dst := some 25, op := Op.call { callee := Callee.value (Operand.func 22), args := #[Operand.tmp 23, Operand.tmp 24], argTypes := #[28, 28] }, type := 4, pos := "laws.go:377", after := #[{ on := 8, ground := Ground.data }, { on := 9, ground := Ground.data }, { on := 7, ground := Ground.chain }, { on := 7, ground := Ground.guard }], guard := some (7, false) }) rfl (fun K hK => ?_) AllReadyH.nil
    go_simp
    go_at_call 22
    go_split_ands
    refine (cL _ ?_ ?_).mono ?_
    assumption
    assumption
    rintro e w' ⟨rfl, hb', hN'⟩
    go_wp2_with fail
    refine hK.out _ _ ?_ (fun hHeld => ?_)
    · exact hkeep _ hb' hN'
    clear hK K
    (try simp only [Act.put, List.setIfInBounds_toArray, List.set_cons_zero, List.set_cons_succ])
    refine wpAnyH_take (i := 11) (oi := { dst := some 26, op := Op.move (Operand.tmp 25), type := 4, pos := "laws.go:377", after := #[{ on := 10, ground := Ground.data }, { on := 10, ground := Ground.chain }, { on := 7, ground := Ground.guard }], guard := some (7, false) }) (v := .bool true) rfl (by kernel_rfl) (by kernel_rfl) (by kernel_rfl) (fun _ _ _ h => h) (Or.inl ⟨by rfl, ?_⟩) (by assumption) ?_
    · intro w hSw
      (try dsimp only at hSw)
      go_simp
      try with_reducible rfl
    (try simp only [Act.put, List.setIfInBounds_toArray, List.set_cons_zero, List.set_cons_succ])
    refine wpAnyH_take (i := 12) (oi := { dst := some 27, op := Op.load 28 (Operand.tmp 4), type := 28, pos := "laws.go:377", after := #[{ on := 11, ground := Ground.guard }], guard := some (11, true) }) (v := .agg #[.int .i64 U.k, .int .i64 U.n, .int .i64 U.x, .string ⟨U.s.toArray⟩, .slice U.a U.l.length U.cap]) rfl (by kernel_rfl) (by kernel_rfl) (by kernel_rfl) (fun _ _ _ h => h) (Or.inl ⟨by rfl, ?_⟩) (by assumption) ?_
    · intro w hSw
      (try dsimp only at hSw)
      go_simp
      try with_reducible rfl
    (try simp only [Act.put, List.setIfInBounds_toArray, List.set_cons_zero, List.set_cons_succ])
    refine wpAnyH_take (i := 13) (oi := { dst := some 28, op := Op.load 28 (Operand.tmp 3), type := 28, pos := "laws.go:377", after := #[{ on := 11, ground := Ground.guard }], guard := some (11, true) }) (v := .agg #[.int .i64 T.k, .int .i64 T.n, .int .i64 T.x, .string ⟨T.s.toArray⟩, .slice T.a T.l.length T.cap]) rfl (by kernel_rfl) (by kernel_rfl) (by kernel_rfl) (fun _ _ _ h => h) (Or.inl ⟨by rfl, ?_⟩) (by assumption) ?_
    · intro w hSw
      (try dsimp only at hSw)
      go_simp
      try with_reducible rfl
    (try simp only [Act.put, List.setIfInBounds_toArray, List.set_cons_zero, List.set_cons_succ])
    refine wpAnyH_ready (rs := [14]) (by kernel_rfl) (by simp) ?_
    refine AllReadyH.cons (o := { dst := some 29, op := Op.call { callee := Callee.value (Operand.func 22), args := #[Operand.tmp 27, Operand.tmp 28], argTypes := #[28, 28] }, type := 4, pos := "laws.go:377", after := #[{ on := 12, ground := Ground.data }, { on := 13, ground := Ground.data }, { on := 11, ground := Ground.chain }, { on := 11, ground := Ground.guard }], guard := some (11, true) }) rfl (fun K hK => ?_) AllReadyH.nil
    go_simp
    go_at_call 22
    go_split_ands
    refine (cM _ ?_ ?_).mono ?_
    assumption
    assumption
    rintro e w' ⟨rfl, hb', hN'⟩
    go_wp2_with fail
    refine hK.out _ _ ?_ (fun hHeld => ?_)
    · exact hkeep _ hb' hN'
    clear hK K
    (try simp only [Act.put, List.setIfInBounds_toArray, List.set_cons_zero, List.set_cons_succ])
    refine wpAnyH_take (i := 15) (oi := { dst := some 30, op := Op.pick (Operand.tmp 26) (Operand.tmp 29) (Operand.const (Value.bool false)), type := 4, pos := "laws.go:377", after := #[{ on := 11, ground := Ground.data }, { on := 14, ground := Ground.data }, { on := 7, ground := Ground.guard }], guard := some (7, false) }) (v := .bool false) rfl (by kernel_rfl) (by kernel_rfl) (by kernel_rfl) (fun _ _ _ h => h) (Or.inl ⟨by rfl, ?_⟩) (by assumption) ?_
    · intro w hSw
      (try dsimp only at hSw)
      go_simp
      try with_reducible rfl
    (try simp only [Act.put, List.setIfInBounds_toArray, List.set_cons_zero, List.set_cons_succ])
    refine wpAnyH_take (i := 16) (oi := { dst := some 31, op := Op.pick (Operand.tmp 22) (Operand.const (Value.bool true)) (Operand.tmp 30), type := 4, pos := "laws.go:377", after := #[{ on := 7, ground := Ground.data }, { on := 15, ground := Ground.data }], guard := none }) (v := .bool false) rfl (by kernel_rfl) (by kernel_rfl) (by kernel_rfl) (fun _ _ _ h => h) (Or.inl ⟨by rfl, ?_⟩) (by assumption) ?_
    · intro w hSw
      (try dsimp only at hSw)
      go_simp
      try with_reducible rfl
    (try simp only [Act.put, List.setIfInBounds_toArray, List.set_cons_zero, List.set_cons_succ])
    refine wpAnyH_take (i := 17) (oi := { dst := some 32, op := Op.move (Operand.tmp 31), type := 4, pos := "laws.go:377", after := #[{ on := 16, ground := Ground.data }, { on := 14, ground := Ground.chain }], guard := none }) (v := .bool false) rfl (by kernel_rfl) (by kernel_rfl) (by kernel_rfl) (fun _ _ _ h => h) (Or.inl ⟨by rfl, ?_⟩) (by assumption) ?_
    · intro w hSw
      (try dsimp only at hSw)
      go_simp
      try with_reducible rfl
    (try simp only [Act.put, List.setIfInBounds_toArray, List.set_cons_zero, List.set_cons_succ])
    refine wpAnyH_take (i := 18) (oi := { dst := some 33, op := Op.load 28 (Operand.tmp 5), type := 28, pos := "laws.go:377", after := #[{ on := 17, ground := Ground.guard }], guard := some (17, false) }) (v := .agg #[.int .i64 X.k, .int .i64 X.n, .int .i64 X.x, .string ⟨X.s.toArray⟩, .slice X.a X.l.length X.cap]) rfl (by kernel_rfl) (by kernel_rfl) (by kernel_rfl) (fun _ _ _ h => h) (Or.inl ⟨by rfl, ?_⟩) (by assumption) ?_
    · intro w hSw
      (try dsimp only at hSw)
      go_simp
      try with_reducible rfl
    (try simp only [Act.put, List.setIfInBounds_toArray, List.set_cons_zero, List.set_cons_succ])
    refine wpAnyH_take (i := 19) (oi := { dst := some 34, op := Op.load 28 (Operand.tmp 5), type := 28, pos := "laws.go:377", after := #[{ on := 17, ground := Ground.guard }], guard := some (17, false) }) (v := .agg #[.int .i64 X.k, .int .i64 X.n, .int .i64 X.x, .string ⟨X.s.toArray⟩, .slice X.a X.l.length X.cap]) rfl (by kernel_rfl) (by kernel_rfl) (by kernel_rfl) (fun _ _ _ h => h) (Or.inl ⟨by rfl, ?_⟩) (by assumption) ?_
    · intro w hSw
      (try dsimp only at hSw)
      go_simp
      try with_reducible rfl
    (try simp only [Act.put, List.setIfInBounds_toArray, List.set_cons_zero, List.set_cons_succ])
    refine wpAnyH_ready (rs := [20]) (by kernel_rfl) (by simp) ?_
    refine AllReadyH.cons (o := { dst := some 35, op := Op.call { callee := Callee.value (Operand.func 22), args := #[Operand.tmp 33, Operand.tmp 34], argTypes := #[28, 28] }, type := 4, pos := "laws.go:377", after := #[{ on := 18, ground := Ground.data }, { on := 19, ground := Ground.data }, { on := 17, ground := Ground.chain }, { on := 17, ground := Ground.guard }], guard := some (17, false) }) rfl (fun K hK => ?_) AllReadyH.nil
    go_simp
    go_at_call 22
    go_split_ands
    refine (cU _ ?_ ?_).mono ?_
    assumption
    assumption
    rintro e w' ⟨rfl, hb', hN'⟩
    go_wp2_with fail
    refine hK.out _ _ ?_ (fun hHeld => ?_)
    · exact hkeep _ hb' hN'
    clear hK K
    (try simp only [Act.put, List.setIfInBounds_toArray, List.set_cons_zero, List.set_cons_succ])
    refine wpAnyH_take (i := 21) (oi := { dst := some 36, op := Op.pick (Operand.tmp 32) (Operand.const (Value.bool true)) (Operand.tmp 35), type := 4, pos := "laws.go:377", after := #[{ on := 17, ground := Ground.data }, { on := 20, ground := Ground.data }], guard := none }) (v := .bool false) rfl (by kernel_rfl) (by kernel_rfl) (by kernel_rfl) (fun _ _ _ h => h) (Or.inl ⟨by rfl, ?_⟩) (by assumption) ?_
    · intro w hSw
      (try dsimp only at hSw)
      go_simp
      try with_reducible rfl
    (try simp only [Act.put, List.setIfInBounds_toArray, List.set_cons_zero, List.set_cons_succ])
    refine wpAnyH_done (by kernel_rfl) ?_ _
    refine NoPanic.normal ?_
    go_split_ands
    go_wp2_with fail
    refine (cV _ (by assumption) (by assumption)).mono ?_
    rintro e W5 ⟨rfl, hB5, hN5⟩
    obtain ⟨_, _, _, _, _, _, _, _, _, _, _, _, _, _, _⟩ := (hkeep _ hB5 hN5).2.2
    cases ok1
    · go_wp2
      go_ret
      exact ⟨rfl, hend _ (by assumption)⟩
    · go_wp2_with fail
      refine (cV2 _ hB5 hN5).mono ?_
      clear hB5 hN5
      rintro e W6 ⟨rfl, hB6, hN6⟩
      obtain ⟨_, _, _, _, _, _, _, _, _, _, _, _, _, _, _⟩ := (hkeep _ hB6 hN6).2.2
      cases ok2
      · go_wp2
        go_ret
        exact ⟨rfl, hend _ (by assumption)⟩
      · go_wp2_with fail
        refine wp_region_noPanic ?_
        refine wp_region_held_drew (S := (fun W' => Below W0.heap.size W0 W' ∧ W0.heap.size ≤ W'.heap.size ∧ W'.cell? ⟨ga, 0, none⟩ = some (.int .i64 T.k) ∧ W'.cell? ⟨ga, 1, none⟩ = some (.int .i64 T.n) ∧ W'.cell? ⟨ga, 2, none⟩ = some (.int .i64 T.x) ∧ W'.cell? ⟨ga, 3, none⟩ = some (.string ⟨T.s.toArray⟩) ∧ W'.cell? ⟨ga, 4, none⟩ = some (.slice T.a T.l.length T.cap) ∧ W'.cell? ⟨gb, 0, none⟩ = some (.int .i64 U.k) ∧ W'.cell? ⟨gb, 1, none⟩ = some (.int .i64 U.n) ∧ W'.cell? ⟨gb, 2, none⟩ = some (.int .i64 U.x) ∧ W'.cell? ⟨gb, 3, none⟩ = some (.string ⟨U.s.toArray⟩) ∧ W'.cell? ⟨gb, 4, none⟩ = some (.slice U.a U.l.length U.cap) ∧ W'.cell? ⟨gu, 0, none⟩ = some (.int .i64 X.k) ∧ W'.cell? ⟨gu, 1, none⟩ = some (.int .i64 X.n) ∧ W'.cell? ⟨gu, 2, none⟩ = some (.int .i64 X.x) ∧ W'.cell? ⟨gu, 3, none⟩ = some (.string ⟨X.s.toArray⟩) ∧ W'.cell? ⟨gu, 4, none⟩ = some (.slice X.a X.l.length X.cap))) (by kernel_rfl) ?_ (fun hHeld => ?_)
        · exact hkeep _ (Below.drew (by assumption)) (by assumption)
        refine wpAnyH_take (i := 0) (oi := { dst := some 45, op := Op.load 28 (Operand.tmp 3), type := 28, pos := "laws.go:383", after := #[], guard := none }) (v := .agg #[.int .i64 T.k, .int .i64 T.n, .int .i64 T.x, .string ⟨T.s.toArray⟩, .slice T.a T.l.length T.cap]) rfl (by kernel_rfl) (by kernel_rfl) (by kernel_rfl) (fun _ _ _ h => h) (Or.inl ⟨by rfl, ?_⟩) (by assumption) ?_
        · intro w hSw
          (try dsimp only at hSw)
          go_simp
          try with_reducible rfl
        (try simp only [Act.put, List.setIfInBounds_toArray, List.set_cons_zero, List.set_cons_succ])
        refine wpAnyH_take (i := 1) (oi := { dst := some 46, op := Op.load 28 (Operand.tmp 4), type := 28, pos := "laws.go:383", after := #[], guard := none }) (v := .agg #[.int .i64 U.k, .int .i64 U.n, .int .i64 U.x, .string ⟨U.s.toArray⟩, .slice U.a U.l.length U.cap]) rfl (by kernel_rfl) (by kernel_rfl) (by kernel_rfl) (fun _ _ _ h => h) (Or.inl ⟨by rfl, ?_⟩) (by assumption) ?_
        · intro w hSw
          (try dsimp only at hSw)
          go_simp
          try with_reducible rfl
        (try simp only [Act.put, List.setIfInBounds_toArray, List.set_cons_zero, List.set_cons_succ])
        refine wpAnyH_take (i := 8) (oi := { dst := some 53, op := Op.load 28 (Operand.tmp 3), type := 28, pos := "laws.go:383", after := #[], guard := none }) (v := .agg #[.int .i64 T.k, .int .i64 T.n, .int .i64 T.x, .string ⟨T.s.toArray⟩, .slice T.a T.l.length T.cap]) rfl (by kernel_rfl) (by kernel_rfl) (by kernel_rfl) (fun _ _ _ h => h) (Or.inl ⟨by rfl, ?_⟩) (by assumption) ?_
        · intro w hSw
          (try dsimp only at hSw)
          go_simp
          try with_reducible rfl
        (try simp only [Act.put, List.setIfInBounds_toArray, List.set_cons_zero, List.set_cons_succ])
        refine wpAnyH_take (i := 9) (oi := { dst := some 54, op := Op.load 28 (Operand.tmp 4), type := 28, pos := "laws.go:383", after := #[], guard := none }) (v := .agg #[.int .i64 U.k, .int .i64 U.n, .int .i64 U.x, .string ⟨U.s.toArray⟩, .slice U.a U.l.length U.cap]) rfl (by kernel_rfl) (by kernel_rfl) (by kernel_rfl) (fun _ _ _ h => h) (Or.inl ⟨by rfl, ?_⟩) (by assumption) ?_
        · intro w hSw
          (try dsimp only at hSw)
          go_simp
          try with_reducible rfl
        (try simp only [Act.put, List.setIfInBounds_toArray, List.set_cons_zero, List.set_cons_succ])
        refine wpAnyH_ready (rs := [2]) (by kernel_rfl) (by simp) ?_
        refine AllReadyH.cons (o := { dst := some 47, op := Op.call { callee := Callee.value (Operand.func 22), args := #[Operand.tmp 45, Operand.tmp 46], argTypes := #[28, 28] }, type := 4, pos := "laws.go:383", after := #[{ on := 0, ground := Ground.data }, { on := 1, ground := Ground.data }], guard := none }) rfl (fun K hK => ?_) AllReadyH.nil
        go_simp
        go_at_call 22
        go_split_ands
        refine (cL _ ?_ ?_).mono ?_
        assumption
        assumption
        rintro e w' ⟨rfl, hb', hN'⟩
        go_wp2_with fail
        refine hK.out _ _ ?_ (fun hHeld => ?_)
        · exact hkeep _ hb' hN'
        clear hK K
        (try simp only [Act.put, List.setIfInBounds_toArray, List.set_cons_zero, List.set_cons_succ])
        refine wpAnyH_take (i := 3) (oi := { dst := some 48, op := Op.move (Operand.tmp 47), type := 4, pos := "laws.go:383", after := #[{ on := 2, ground := Ground.data }, { on := 2, ground := Ground.chain }], guard := none }) (v := .bool true) rfl (by kernel_rfl) (by kernel_rfl) (by kernel_rfl) (fun _ _ _ h => h) (Or.inl ⟨by rfl, ?_⟩) (by assumption) ?_
        · intro w hSw
          (try dsimp only at hSw)
          go_simp
          try with_reducible rfl
        (try simp only [Act.put, List.setIfInBounds_toArray, List.set_cons_zero, List.set_cons_succ])
        refine wpAnyH_take (i := 4) (oi := { dst := some 49, op := Op.load 28 (Operand.tmp 4), type := 28, pos := "laws.go:383", after := #[{ on := 3, ground := Ground.guard }], guard := some (3, false) }) (v := undef) rfl (by kernel_rfl) (by kernel_rfl) (by kernel_rfl) (fun _ _ _ h => h) (Or.inr ⟨by rfl, rfl⟩) (by assumption) ?_
        (try simp only [Act.put, List.setIfInBounds_toArray, List.set_cons_zero, List.set_cons_succ])
        refine wpAnyH_take (i := 5) (oi := { dst := some 50, op := Op.load 28 (Operand.tmp 3), type := 28, pos := "laws.go:383", after := #[{ on := 3, ground := Ground.guard }], guard := some (3, false) }) (v := undef) rfl (by kernel_rfl) (by kernel_rfl) (by kernel_rfl) (fun _ _ _ h => h) (Or.inr ⟨by rfl, rfl⟩) (by assumption) ?_
        (try simp only [Act.put, List.setIfInBounds_toArray, List.set_cons_zero, List.set_cons_succ])
        refine wpAnyH_take (i := 6) (oi := { dst := some 51, op := Op.call { callee := Callee.value (Operand.func 22), args := #[Operand.tmp 49, Operand.tmp 50], argTypes := #[28, 28] }, type := 4, pos := "laws.go:383", after := #[{ on := 4, ground := Ground.data }, { on := 5, ground := Ground.data }, { on := 3, ground := Ground.chain }, { on := 3, ground := Ground.guard }], guard := some (3, false) }) (v := undef) rfl (by kernel_rfl) (by kernel_rfl) (by kernel_rfl) (fun _ _ _ h => h) (Or.inr ⟨by rfl, rfl⟩) (by assumption) ?_
        (try simp only [Act.put, List.setIfInBounds_toArray, List.set_cons_zero, List.set_cons_succ])
        refine wpAnyH_take (i := 7) (oi := { dst := some 52, op := Op.pick (Operand.tmp 48) (Operand.const (Value.bool true)) (Operand.tmp 51), type := 4, pos := "laws.go:383", after := #[{ on := 3, ground := Ground.data }, { on := 6, ground := Ground.data }], guard := none }) (v := .bool true) rfl (by kernel_rfl) (by kernel_rfl) (by kernel_rfl) (fun _ _ _ h => h) (Or.inl ⟨by rfl, ?_⟩) (by assumption) ?_
        · intro w hSw
          (try dsimp only at hSw)
          go_simp
          try with_reducible rfl
        (try simp only [Act.put, List.setIfInBounds_toArray, List.set_cons_zero, List.set_cons_succ])
        refine wpAnyH_ready (rs := [10]) (by kernel_rfl) (by simp) ?_
        refine AllReadyH.cons (o := { dst := some 55, op := Op.call { callee := Callee.value (Operand.func 25), args := #[Operand.tmp 53, Operand.tmp 54], argTypes := #[28, 28] }, type := 4, pos := "laws.go:383", after := #[{ on := 8, ground := Ground.data }, { on := 9, ground := Ground.data }, { on := 6, ground := Ground.chain }], guard := none }) rfl (fun K hK => ?_) AllReadyH.nil
        go_simp
        go_at_call 25
        go_split_ands
        refine (cE _ ?_ ?_).mono ?_
        assumption
        assumption
        rintro e w' ⟨rfl, hb', hN'⟩
        go_wp2_with fail
        refine hK.out _ _ ?_ (fun hHeld => ?_)
        · exact hkeep _ hb' hN'
        clear hK K
        (try simp only [Act.put, List.setIfInBounds_toArray, List.set_cons_zero, List.set_cons_succ])
        refine wpAnyH_take (i := 11) (oi := { dst := some 56, op := Op.binOp BinOp.neq 4 (Operand.tmp 52) (Operand.tmp 55) 4, type := 4, pos := "laws.go:383", after := #[{ on := 7, ground := Ground.data }, { on := 10, ground := Ground.data }], guard := none }) (v := .bool true) rfl (by kernel_rfl) (by kernel_rfl) (by kernel_rfl) (fun _ _ _ h => h) (Or.inl ⟨by rfl, ?_⟩) (by assumption) ?_
        · intro w hSw
          (try dsimp only at hSw)
          go_simp
          try with_reducible rfl
        (try simp only [Act.put, List.setIfInBounds_toArray, List.set_cons_zero, List.set_cons_succ])
        refine wpAnyH_take (i := 12) (oi := { dst := some 2, op := Op.assign (Operand.tmp 56), type := 4, pos := "laws.go:383", after := #[{ on := 11, ground := Ground.data }, { on := 10, ground := Ground.chain }, { on := 0, ground := Ground.phase }, { on := 1, ground := Ground.phase }, { on := 2, ground := Ground.phase }, { on := 3, ground := Ground.phase }, { on := 4, ground := Ground.phase }, { on := 5, ground := Ground.phase }, { on := 6, ground := Ground.phase }, { on := 7, ground := Ground.phase }, { on := 8, ground := Ground.phase }, { on := 9, ground := Ground.phase }, { on := 10, ground := Ground.phase }, { on := 11, ground := Ground.phase }], guard := none }) (v := .bool true) rfl (by kernel_rfl) (by kernel_rfl) (by kernel_rfl) (fun _ _ _ h => h) (Or.inl ⟨by rfl, ?_⟩) (by assumption) ?_
        · intro w hSw
          (try dsimp only at hSw)
          go_simp
          try with_reducible rfl
        (try simp only [Act.put, List.setIfInBounds_toArray, List.set_cons_zero, List.set_cons_succ])
        refine wpAnyH_done (by kernel_rfl) ?_ _
        refine NoPanic.normal ?_
        go_split_ands
        go_wp2
        go_ret
        exact ⟨rfl, hend _ (by assumption)⟩
  · refine wp_region_noPanic ?_
    refine wp_region_held_drew (S := (fun W' => Below W0.heap.size W0 W' ∧ W0.heap.size ≤ W'.heap.size ∧ W'.cell? ⟨ga, 0, none⟩ = some (.int .i64 T.k) ∧ W'.cell? ⟨ga, 1, none⟩ = some (.int .i64 T.n) ∧ W'.cell? ⟨ga, 2, none⟩ = some (.int .i64 T.x) ∧ W'.cell? ⟨ga, 3, none⟩ = some (.string ⟨T.s.toArray⟩) ∧ W'.cell? ⟨ga, 4, none⟩ = some (.slice T.a T.l.length T.cap) ∧ W'.cell? ⟨gb, 0, none⟩ = some (.int .i64 U.k) ∧ W'.cell? ⟨gb, 1, none⟩ = some (.int .i64 U.n) ∧ W'.cell? ⟨gb, 2, none⟩ = some (.int .i64 U.x) ∧ W'.cell? ⟨gb, 3, none⟩ = some (.string ⟨U.s.toArray⟩) ∧ W'.cell? ⟨gb, 4, none⟩ = some (.slice U.a U.l.length U.cap) ∧ W'.cell? ⟨gu, 0, none⟩ = some (.int .i64 X.k) ∧ W'.cell? ⟨gu, 1, none⟩ = some (.int .i64 X.n) ∧ W'.cell? ⟨gu, 2, none⟩ = some (.int .i64 X.x) ∧ W'.cell? ⟨gu, 3, none⟩ = some (.string ⟨X.s.toArray⟩) ∧ W'.cell? ⟨gu, 4, none⟩ = some (.slice X.a X.l.length X.cap))) (by kernel_rfl) ?_ (fun hHeld => ?_)
    · exact hkeep _ (Below.drew (by assumption)) (by assumption)
    refine wpAnyH_take (i := 0) (oi := { dst := some 15, op := Op.load 28 (Operand.tmp 3), type := 28, pos := "laws.go:377", after := #[], guard := none }) (v := .agg #[.int .i64 T.k, .int .i64 T.n, .int .i64 T.x, .string ⟨T.s.toArray⟩, .slice T.a T.l.length T.cap]) rfl (by kernel_rfl) (by kernel_rfl) (by kernel_rfl) (fun _ _ _ h => h) (Or.inl ⟨by rfl, ?_⟩) (by assumption) ?_
    · intro w hSw
      (try dsimp only at hSw)
      go_simp
      try with_reducible rfl
    (try simp only [Act.put, List.setIfInBounds_toArray, List.set_cons_zero, List.set_cons_succ])
    refine wpAnyH_take (i := 1) (oi := { dst := some 16, op := Op.load 28 (Operand.tmp 4), type := 28, pos := "laws.go:377", after := #[], guard := none }) (v := .agg #[.int .i64 U.k, .int .i64 U.n, .int .i64 U.x, .string ⟨U.s.toArray⟩, .slice U.a U.l.length U.cap]) rfl (by kernel_rfl) (by kernel_rfl) (by kernel_rfl) (fun _ _ _ h => h) (Or.inl ⟨by rfl, ?_⟩) (by assumption) ?_
    · intro w hSw
      (try dsimp only at hSw)
      go_simp
      try with_reducible rfl
    (try simp only [Act.put, List.setIfInBounds_toArray, List.set_cons_zero, List.set_cons_succ])
    refine wpAnyH_take (i := 3) (oi := { dst := some 18, op := Op.load 28 (Operand.tmp 3), type := 28, pos := "laws.go:377", after := #[], guard := none }) (v := .agg #[.int .i64 T.k, .int .i64 T.n, .int .i64 T.x, .string ⟨T.s.toArray⟩, .slice T.a T.l.length T.cap]) rfl (by kernel_rfl) (by kernel_rfl) (by kernel_rfl) (fun _ _ _ h => h) (Or.inl ⟨by rfl, ?_⟩) (by assumption) ?_
    · intro w hSw
      (try dsimp only at hSw)
      go_simp
      try with_reducible rfl
    (try simp only [Act.put, List.setIfInBounds_toArray, List.set_cons_zero, List.set_cons_succ])
    refine wpAnyH_take (i := 4) (oi := { dst := some 19, op := Op.load 28 (Operand.tmp 4), type := 28, pos := "laws.go:377", after := #[], guard := none }) (v := .agg #[.int .i64 U.k, .int .i64 U.n, .int .i64 U.x, .string ⟨U.s.toArray⟩, .slice U.a U.l.length U.cap]) rfl (by kernel_rfl) (by kernel_rfl) (by kernel_rfl) (fun _ _ _ h => h) (Or.inl ⟨by rfl, ?_⟩) (by assumption) ?_
    · intro w hSw
      (try dsimp only at hSw)
      go_simp
      try with_reducible rfl
    (try simp only [Act.put, List.setIfInBounds_toArray, List.set_cons_zero, List.set_cons_succ])
    refine wpAnyH_ready (rs := [2]) (by kernel_rfl) (by simp) ?_
    refine AllReadyH.cons (o := { dst := some 17, op := Op.call { callee := Callee.value (Operand.func 22), args := #[Operand.tmp 15, Operand.tmp 16], argTypes := #[28, 28] }, type := 4, pos := "laws.go:377", after := #[{ on := 0, ground := Ground.data }, { on := 1, ground := Ground.data }], guard := none }) rfl (fun K hK => ?_) AllReadyH.nil
    go_simp
    go_at_call 22
    go_split_ands
    refine (cL _ ?_ ?_).mono ?_
    assumption
    assumption
    rintro e w' ⟨rfl, hb', hN'⟩
    go_wp2_with fail
    refine hK.out _ _ ?_ (fun hHeld => ?_)
    · exact hkeep _ hb' hN'
    clear hK K
    (try simp only [Act.put, List.setIfInBounds_toArray, List.set_cons_zero, List.set_cons_succ])
    refine wpAnyH_ready (rs := [5]) (by kernel_rfl) (by simp) ?_
    refine AllReadyH.cons (o := { dst := some 20, op := Op.call { callee := Callee.value (Operand.func 23), args := #[Operand.tmp 18, Operand.tmp 19], argTypes := #[28, 28] }, type := 4, pos := "laws.go:377", after := #[{ on := 3, ground := Ground.data }, { on := 4, ground := Ground.data }, { on := 2, ground := Ground.chain }], guard := none }) rfl (fun K hK => ?_) AllReadyH.nil
    go_simp
    go_at_call 23
    go_split_ands
    refine (cS _ ?_ ?_).mono ?_
    assumption
    assumption
    rintro e w' ⟨rfl, hb', hN'⟩
    go_wp2_with fail
    refine hK.out _ _ ?_ (fun hHeld => ?_)
    · exact hkeep _ hb' hN'
    clear hK K
    (try simp only [Act.put, List.setIfInBounds_toArray, List.set_cons_zero, List.set_cons_succ])
    refine wpAnyH_take (i := 6) (oi := { dst := some 21, op := Op.binOp BinOp.neq 4 (Operand.tmp 17) (Operand.tmp 20) 4, type := 4, pos := "laws.go:377", after := #[{ on := 2, ground := Ground.data }, { on := 5, ground := Ground.data }], guard := none }) (v := .bool false) rfl (by kernel_rfl) (by kernel_rfl) (by kernel_rfl) (fun _ _ _ h => h) (Or.inl ⟨by rfl, ?_⟩) (by assumption) ?_
    · intro w hSw
      (try dsimp only at hSw)
      go_simp
      try with_reducible rfl
    (try simp only [Act.put, List.setIfInBounds_toArray, List.set_cons_zero, List.set_cons_succ])
    refine wpAnyH_take (i := 7) (oi := { dst := some 22, op := Op.move (Operand.tmp 21), type := 4, pos := "laws.go:377", after := #[{ on := 6, ground := Ground.data }, { on := 5, ground := Ground.chain }], guard := none }) (v := .bool false) rfl (by kernel_rfl) (by kernel_rfl) (by kernel_rfl) (fun _ _ _ h => h) (Or.inl ⟨by rfl, ?_⟩) (by assumption) ?_
    · intro w hSw
      (try dsimp only at hSw)
      go_simp
      try with_reducible rfl
    (try simp only [Act.put, List.setIfInBounds_toArray, List.set_cons_zero, List.set_cons_succ])
    refine wpAnyH_take (i := 8) (oi := { dst := some 23, op := Op.load 28 (Operand.tmp 3), type := 28, pos := "laws.go:377", after := #[{ on := 7, ground := Ground.guard }], guard := some (7, false) }) (v := .agg #[.int .i64 T.k, .int .i64 T.n, .int .i64 T.x, .string ⟨T.s.toArray⟩, .slice T.a T.l.length T.cap]) rfl (by kernel_rfl) (by kernel_rfl) (by kernel_rfl) (fun _ _ _ h => h) (Or.inl ⟨by rfl, ?_⟩) (by assumption) ?_
    · intro w hSw
      (try dsimp only at hSw)
      go_simp
      try with_reducible rfl
    (try simp only [Act.put, List.setIfInBounds_toArray, List.set_cons_zero, List.set_cons_succ])
    refine wpAnyH_take (i := 9) (oi := { dst := some 24, op := Op.load 28 (Operand.tmp 4), type := 28, pos := "laws.go:377", after := #[{ on := 7, ground := Ground.guard }], guard := some (7, false) }) (v := .agg #[.int .i64 U.k, .int .i64 U.n, .int .i64 U.x, .string ⟨U.s.toArray⟩, .slice U.a U.l.length U.cap]) rfl (by kernel_rfl) (by kernel_rfl) (by kernel_rfl) (fun _ _ _ h => h) (Or.inl ⟨by rfl, ?_⟩) (by assumption) ?_
    · intro w hSw
      (try dsimp only at hSw)
      go_simp
      try with_reducible rfl
    (try simp only [Act.put, List.setIfInBounds_toArray, List.set_cons_zero, List.set_cons_succ])
    refine wpAnyH_ready (rs := [10]) (by kernel_rfl) (by simp) ?_
    refine AllReadyH.cons (o := { dst := some 25, op := Op.call { callee := Callee.value (Operand.func 22), args := #[Operand.tmp 23, Operand.tmp 24], argTypes := #[28, 28] }, type := 4, pos := "laws.go:377", after := #[{ on := 8, ground := Ground.data }, { on := 9, ground := Ground.data }, { on := 7, ground := Ground.chain }, { on := 7, ground := Ground.guard }], guard := some (7, false) }) rfl (fun K hK => ?_) AllReadyH.nil
    go_simp
    go_at_call 22
    go_split_ands
    refine (cL _ ?_ ?_).mono ?_
    assumption
    assumption
    rintro e w' ⟨rfl, hb', hN'⟩
    go_wp2_with fail
    refine hK.out _ _ ?_ (fun hHeld => ?_)
    · exact hkeep _ hb' hN'
    clear hK K
    (try simp only [Act.put, List.setIfInBounds_toArray, List.set_cons_zero, List.set_cons_succ])
    refine wpAnyH_take (i := 11) (oi := { dst := some 26, op := Op.move (Operand.tmp 25), type := 4, pos := "laws.go:377", after := #[{ on := 10, ground := Ground.data }, { on := 10, ground := Ground.chain }, { on := 7, ground := Ground.guard }], guard := some (7, false) }) (v := .bool false) rfl (by kernel_rfl) (by kernel_rfl) (by kernel_rfl) (fun _ _ _ h => h) (Or.inl ⟨by rfl, ?_⟩) (by assumption) ?_
    · intro w hSw
      (try dsimp only at hSw)
      go_simp
      try with_reducible rfl
    (try simp only [Act.put, List.setIfInBounds_toArray, List.set_cons_zero, List.set_cons_succ])
    refine wpAnyH_take (i := 12) (oi := { dst := some 27, op := Op.load 28 (Operand.tmp 4), type := 28, pos := "laws.go:377", after := #[{ on := 11, ground := Ground.guard }], guard := some (11, true) }) (v := undef) rfl (by kernel_rfl) (by kernel_rfl) (by kernel_rfl) (fun _ _ _ h => h) (Or.inr ⟨by rfl, rfl⟩) (by assumption) ?_
    (try simp only [Act.put, List.setIfInBounds_toArray, List.set_cons_zero, List.set_cons_succ])
    refine wpAnyH_take (i := 13) (oi := { dst := some 28, op := Op.load 28 (Operand.tmp 3), type := 28, pos := "laws.go:377", after := #[{ on := 11, ground := Ground.guard }], guard := some (11, true) }) (v := undef) rfl (by kernel_rfl) (by kernel_rfl) (by kernel_rfl) (fun _ _ _ h => h) (Or.inr ⟨by rfl, rfl⟩) (by assumption) ?_
    (try simp only [Act.put, List.setIfInBounds_toArray, List.set_cons_zero, List.set_cons_succ])
    refine wpAnyH_take (i := 14) (oi := { dst := some 29, op := Op.call { callee := Callee.value (Operand.func 22), args := #[Operand.tmp 27, Operand.tmp 28], argTypes := #[28, 28] }, type := 4, pos := "laws.go:377", after := #[{ on := 12, ground := Ground.data }, { on := 13, ground := Ground.data }, { on := 11, ground := Ground.chain }, { on := 11, ground := Ground.guard }], guard := some (11, true) }) (v := undef) rfl (by kernel_rfl) (by kernel_rfl) (by kernel_rfl) (fun _ _ _ h => h) (Or.inr ⟨by rfl, rfl⟩) (by assumption) ?_
    (try simp only [Act.put, List.setIfInBounds_toArray, List.set_cons_zero, List.set_cons_succ])
    refine wpAnyH_take (i := 15) (oi := { dst := some 30, op := Op.pick (Operand.tmp 26) (Operand.tmp 29) (Operand.const (Value.bool false)), type := 4, pos := "laws.go:377", after := #[{ on := 11, ground := Ground.data }, { on := 14, ground := Ground.data }, { on := 7, ground := Ground.guard }], guard := some (7, false) }) (v := .bool false) rfl (by kernel_rfl) (by kernel_rfl) (by kernel_rfl) (fun _ _ _ h => h) (Or.inl ⟨by rfl, ?_⟩) (by assumption) ?_
    · intro w hSw
      (try dsimp only at hSw)
      go_simp
      try with_reducible rfl
    (try simp only [Act.put, List.setIfInBounds_toArray, List.set_cons_zero, List.set_cons_succ])
    refine wpAnyH_take (i := 16) (oi := { dst := some 31, op := Op.pick (Operand.tmp 22) (Operand.const (Value.bool true)) (Operand.tmp 30), type := 4, pos := "laws.go:377", after := #[{ on := 7, ground := Ground.data }, { on := 15, ground := Ground.data }], guard := none }) (v := .bool false) rfl (by kernel_rfl) (by kernel_rfl) (by kernel_rfl) (fun _ _ _ h => h) (Or.inl ⟨by rfl, ?_⟩) (by assumption) ?_
    · intro w hSw
      (try dsimp only at hSw)
      go_simp
      try with_reducible rfl
    (try simp only [Act.put, List.setIfInBounds_toArray, List.set_cons_zero, List.set_cons_succ])
    refine wpAnyH_take (i := 17) (oi := { dst := some 32, op := Op.move (Operand.tmp 31), type := 4, pos := "laws.go:377", after := #[{ on := 16, ground := Ground.data }, { on := 14, ground := Ground.chain }], guard := none }) (v := .bool false) rfl (by kernel_rfl) (by kernel_rfl) (by kernel_rfl) (fun _ _ _ h => h) (Or.inl ⟨by rfl, ?_⟩) (by assumption) ?_
    · intro w hSw
      (try dsimp only at hSw)
      go_simp
      try with_reducible rfl
    (try simp only [Act.put, List.setIfInBounds_toArray, List.set_cons_zero, List.set_cons_succ])
    refine wpAnyH_take (i := 18) (oi := { dst := some 33, op := Op.load 28 (Operand.tmp 5), type := 28, pos := "laws.go:377", after := #[{ on := 17, ground := Ground.guard }], guard := some (17, false) }) (v := .agg #[.int .i64 X.k, .int .i64 X.n, .int .i64 X.x, .string ⟨X.s.toArray⟩, .slice X.a X.l.length X.cap]) rfl (by kernel_rfl) (by kernel_rfl) (by kernel_rfl) (fun _ _ _ h => h) (Or.inl ⟨by rfl, ?_⟩) (by assumption) ?_
    · intro w hSw
      (try dsimp only at hSw)
      go_simp
      try with_reducible rfl
    (try simp only [Act.put, List.setIfInBounds_toArray, List.set_cons_zero, List.set_cons_succ])
    refine wpAnyH_take (i := 19) (oi := { dst := some 34, op := Op.load 28 (Operand.tmp 5), type := 28, pos := "laws.go:377", after := #[{ on := 17, ground := Ground.guard }], guard := some (17, false) }) (v := .agg #[.int .i64 X.k, .int .i64 X.n, .int .i64 X.x, .string ⟨X.s.toArray⟩, .slice X.a X.l.length X.cap]) rfl (by kernel_rfl) (by kernel_rfl) (by kernel_rfl) (fun _ _ _ h => h) (Or.inl ⟨by rfl, ?_⟩) (by assumption) ?_
    · intro w hSw
      (try dsimp only at hSw)
      go_simp
      try with_reducible rfl
    (try simp only [Act.put, List.setIfInBounds_toArray, List.set_cons_zero, List.set_cons_succ])
    refine wpAnyH_ready (rs := [20]) (by kernel_rfl) (by simp) ?_
    refine AllReadyH.cons (o := { dst := some 35, op := Op.call { callee := Callee.value (Operand.func 22), args := #[Operand.tmp 33, Operand.tmp 34], argTypes := #[28, 28] }, type := 4, pos := "laws.go:377", after := #[{ on := 18, ground := Ground.data }, { on := 19, ground := Ground.data }, { on := 17, ground := Ground.chain }, { on := 17, ground := Ground.guard }], guard := some (17, false) }) rfl (fun K hK => ?_) AllReadyH.nil
    go_simp
    go_at_call 22
    go_split_ands
    refine (cU _ ?_ ?_).mono ?_
    assumption
    assumption
    rintro e w' ⟨rfl, hb', hN'⟩
    go_wp2_with fail
    refine hK.out _ _ ?_ (fun hHeld => ?_)
    · exact hkeep _ hb' hN'
    clear hK K
    (try simp only [Act.put, List.setIfInBounds_toArray, List.set_cons_zero, List.set_cons_succ])
    refine wpAnyH_take (i := 21) (oi := { dst := some 36, op := Op.pick (Operand.tmp 32) (Operand.const (Value.bool true)) (Operand.tmp 35), type := 4, pos := "laws.go:377", after := #[{ on := 17, ground := Ground.data }, { on := 20, ground := Ground.data }], guard := none }) (v := .bool false) rfl (by kernel_rfl) (by kernel_rfl) (by kernel_rfl) (fun _ _ _ h => h) (Or.inl ⟨by rfl, ?_⟩) (by assumption) ?_
    · intro w hSw
      (try dsimp only at hSw)
      go_simp
      try with_reducible rfl
    (try simp only [Act.put, List.setIfInBounds_toArray, List.set_cons_zero, List.set_cons_succ])
    refine wpAnyH_done (by kernel_rfl) ?_ _
    refine NoPanic.normal ?_
    go_split_ands
    go_wp2_with fail
    refine (cV _ (by assumption) (by assumption)).mono ?_
    rintro e W5 ⟨rfl, hB5, hN5⟩
    obtain ⟨_, _, _, _, _, _, _, _, _, _, _, _, _, _, _⟩ := (hkeep _ hB5 hN5).2.2
    cases ok1
    · go_wp2
      go_ret
      exact ⟨rfl, hend _ (by assumption)⟩
    · go_wp2_with fail
      refine (cV2 _ hB5 hN5).mono ?_
      clear hB5 hN5
      rintro e W6 ⟨rfl, hB6, hN6⟩
      obtain ⟨_, _, _, _, _, _, _, _, _, _, _, _, _, _, _⟩ := (hkeep _ hB6 hN6).2.2
      cases ok2
      · go_wp2
        go_ret
        exact ⟨rfl, hend _ (by assumption)⟩
      · go_wp2_with fail
        refine wp_region_noPanic ?_
        refine wp_region_held_drew (S := (fun W' => Below W0.heap.size W0 W' ∧ W0.heap.size ≤ W'.heap.size ∧ W'.cell? ⟨ga, 0, none⟩ = some (.int .i64 T.k) ∧ W'.cell? ⟨ga, 1, none⟩ = some (.int .i64 T.n) ∧ W'.cell? ⟨ga, 2, none⟩ = some (.int .i64 T.x) ∧ W'.cell? ⟨ga, 3, none⟩ = some (.string ⟨T.s.toArray⟩) ∧ W'.cell? ⟨ga, 4, none⟩ = some (.slice T.a T.l.length T.cap) ∧ W'.cell? ⟨gb, 0, none⟩ = some (.int .i64 U.k) ∧ W'.cell? ⟨gb, 1, none⟩ = some (.int .i64 U.n) ∧ W'.cell? ⟨gb, 2, none⟩ = some (.int .i64 U.x) ∧ W'.cell? ⟨gb, 3, none⟩ = some (.string ⟨U.s.toArray⟩) ∧ W'.cell? ⟨gb, 4, none⟩ = some (.slice U.a U.l.length U.cap) ∧ W'.cell? ⟨gu, 0, none⟩ = some (.int .i64 X.k) ∧ W'.cell? ⟨gu, 1, none⟩ = some (.int .i64 X.n) ∧ W'.cell? ⟨gu, 2, none⟩ = some (.int .i64 X.x) ∧ W'.cell? ⟨gu, 3, none⟩ = some (.string ⟨X.s.toArray⟩) ∧ W'.cell? ⟨gu, 4, none⟩ = some (.slice X.a X.l.length X.cap))) (by kernel_rfl) ?_ (fun hHeld => ?_)
        · exact hkeep _ (Below.drew (by assumption)) (by assumption)
        refine wpAnyH_take (i := 0) (oi := { dst := some 45, op := Op.load 28 (Operand.tmp 3), type := 28, pos := "laws.go:383", after := #[], guard := none }) (v := .agg #[.int .i64 T.k, .int .i64 T.n, .int .i64 T.x, .string ⟨T.s.toArray⟩, .slice T.a T.l.length T.cap]) rfl (by kernel_rfl) (by kernel_rfl) (by kernel_rfl) (fun _ _ _ h => h) (Or.inl ⟨by rfl, ?_⟩) (by assumption) ?_
        · intro w hSw
          (try dsimp only at hSw)
          go_simp
          try with_reducible rfl
        (try simp only [Act.put, List.setIfInBounds_toArray, List.set_cons_zero, List.set_cons_succ])
        refine wpAnyH_take (i := 1) (oi := { dst := some 46, op := Op.load 28 (Operand.tmp 4), type := 28, pos := "laws.go:383", after := #[], guard := none }) (v := .agg #[.int .i64 U.k, .int .i64 U.n, .int .i64 U.x, .string ⟨U.s.toArray⟩, .slice U.a U.l.length U.cap]) rfl (by kernel_rfl) (by kernel_rfl) (by kernel_rfl) (fun _ _ _ h => h) (Or.inl ⟨by rfl, ?_⟩) (by assumption) ?_
        · intro w hSw
          (try dsimp only at hSw)
          go_simp
          try with_reducible rfl
        (try simp only [Act.put, List.setIfInBounds_toArray, List.set_cons_zero, List.set_cons_succ])
        refine wpAnyH_take (i := 8) (oi := { dst := some 53, op := Op.load 28 (Operand.tmp 3), type := 28, pos := "laws.go:383", after := #[], guard := none }) (v := .agg #[.int .i64 T.k, .int .i64 T.n, .int .i64 T.x, .string ⟨T.s.toArray⟩, .slice T.a T.l.length T.cap]) rfl (by kernel_rfl) (by kernel_rfl) (by kernel_rfl) (fun _ _ _ h => h) (Or.inl ⟨by rfl, ?_⟩) (by assumption) ?_
        · intro w hSw
          (try dsimp only at hSw)
          go_simp
          try with_reducible rfl
        (try simp only [Act.put, List.setIfInBounds_toArray, List.set_cons_zero, List.set_cons_succ])
        refine wpAnyH_take (i := 9) (oi := { dst := some 54, op := Op.load 28 (Operand.tmp 4), type := 28, pos := "laws.go:383", after := #[], guard := none }) (v := .agg #[.int .i64 U.k, .int .i64 U.n, .int .i64 U.x, .string ⟨U.s.toArray⟩, .slice U.a U.l.length U.cap]) rfl (by kernel_rfl) (by kernel_rfl) (by kernel_rfl) (fun _ _ _ h => h) (Or.inl ⟨by rfl, ?_⟩) (by assumption) ?_
        · intro w hSw
          (try dsimp only at hSw)
          go_simp
          try with_reducible rfl
        (try simp only [Act.put, List.setIfInBounds_toArray, List.set_cons_zero, List.set_cons_succ])
        refine wpAnyH_ready (rs := [2]) (by kernel_rfl) (by simp) ?_
        refine AllReadyH.cons (o := { dst := some 47, op := Op.call { callee := Callee.value (Operand.func 22), args := #[Operand.tmp 45, Operand.tmp 46], argTypes := #[28, 28] }, type := 4, pos := "laws.go:383", after := #[{ on := 0, ground := Ground.data }, { on := 1, ground := Ground.data }], guard := none }) rfl (fun K hK => ?_) AllReadyH.nil
        go_simp
        go_at_call 22
        go_split_ands
        refine (cL _ ?_ ?_).mono ?_
        assumption
        assumption
        rintro e w' ⟨rfl, hb', hN'⟩
        go_wp2_with fail
        refine hK.out _ _ ?_ (fun hHeld => ?_)
        · exact hkeep _ hb' hN'
        clear hK K
        (try simp only [Act.put, List.setIfInBounds_toArray, List.set_cons_zero, List.set_cons_succ])
        refine wpAnyH_take (i := 3) (oi := { dst := some 48, op := Op.move (Operand.tmp 47), type := 4, pos := "laws.go:383", after := #[{ on := 2, ground := Ground.data }, { on := 2, ground := Ground.chain }], guard := none }) (v := .bool false) rfl (by kernel_rfl) (by kernel_rfl) (by kernel_rfl) (fun _ _ _ h => h) (Or.inl ⟨by rfl, ?_⟩) (by assumption) ?_
        · intro w hSw
          (try dsimp only at hSw)
          go_simp
          try with_reducible rfl
        (try simp only [Act.put, List.setIfInBounds_toArray, List.set_cons_zero, List.set_cons_succ])
        refine wpAnyH_take (i := 4) (oi := { dst := some 49, op := Op.load 28 (Operand.tmp 4), type := 28, pos := "laws.go:383", after := #[{ on := 3, ground := Ground.guard }], guard := some (3, false) }) (v := .agg #[.int .i64 U.k, .int .i64 U.n, .int .i64 U.x, .string ⟨U.s.toArray⟩, .slice U.a U.l.length U.cap]) rfl (by kernel_rfl) (by kernel_rfl) (by kernel_rfl) (fun _ _ _ h => h) (Or.inl ⟨by rfl, ?_⟩) (by assumption) ?_
        · intro w hSw
          (try dsimp only at hSw)
          go_simp
          try with_reducible rfl
        (try simp only [Act.put, List.setIfInBounds_toArray, List.set_cons_zero, List.set_cons_succ])
        refine wpAnyH_take (i := 5) (oi := { dst := some 50, op := Op.load 28 (Operand.tmp 3), type := 28, pos := "laws.go:383", after := #[{ on := 3, ground := Ground.guard }], guard := some (3, false) }) (v := .agg #[.int .i64 T.k, .int .i64 T.n, .int .i64 T.x, .string ⟨T.s.toArray⟩, .slice T.a T.l.length T.cap]) rfl (by kernel_rfl) (by kernel_rfl) (by kernel_rfl) (fun _ _ _ h => h) (Or.inl ⟨by rfl, ?_⟩) (by assumption) ?_
        · intro w hSw
          (try dsimp only at hSw)
          go_simp
          try with_reducible rfl
        (try simp only [Act.put, List.setIfInBounds_toArray, List.set_cons_zero, List.set_cons_succ])
        refine wpAnyH_ready (rs := [6]) (by kernel_rfl) (by simp) ?_
        refine AllReadyH.cons (o := { dst := some 51, op := Op.call { callee := Callee.value (Operand.func 22), args := #[Operand.tmp 49, Operand.tmp 50], argTypes := #[28, 28] }, type := 4, pos := "laws.go:383", after := #[{ on := 4, ground := Ground.data }, { on := 5, ground := Ground.data }, { on := 3, ground := Ground.chain }, { on := 3, ground := Ground.guard }], guard := some (3, false) }) rfl (fun K hK => ?_) AllReadyH.nil
        go_simp
        go_at_call 22
        go_split_ands
        refine (cM _ ?_ ?_).mono ?_
        assumption
        assumption
        rintro e w' ⟨rfl, hb', hN'⟩
        go_wp2_with fail
        refine hK.out _ _ ?_ (fun hHeld => ?_)
        · exact hkeep _ hb' hN'
        clear hK K
        (try simp only [Act.put, List.setIfInBounds_toArray, List.set_cons_zero, List.set_cons_succ])
        refine wpAnyH_take (i := 7) (oi := { dst := some 52, op := Op.pick (Operand.tmp 48) (Operand.const (Value.bool true)) (Operand.tmp 51), type := 4, pos := "laws.go:383", after := #[{ on := 3, ground := Ground.data }, { on := 6, ground := Ground.data }], guard := none }) (v := .bool true) rfl (by kernel_rfl) (by kernel_rfl) (by kernel_rfl) (fun _ _ _ h => h) (Or.inl ⟨by rfl, ?_⟩) (by assumption) ?_
        · intro w hSw
          (try dsimp only at hSw)
          go_simp
          try with_reducible rfl
        (try simp only [Act.put, List.setIfInBounds_toArray, List.set_cons_zero, List.set_cons_succ])
        refine wpAnyH_ready (rs := [10]) (by kernel_rfl) (by simp) ?_
        refine AllReadyH.cons (o := { dst := some 55, op := Op.call { callee := Callee.value (Operand.func 25), args := #[Operand.tmp 53, Operand.tmp 54], argTypes := #[28, 28] }, type := 4, pos := "laws.go:383", after := #[{ on := 8, ground := Ground.data }, { on := 9, ground := Ground.data }, { on := 6, ground := Ground.chain }], guard := none }) rfl (fun K hK => ?_) AllReadyH.nil
        go_simp
        go_at_call 25
        go_split_ands
        refine (cE _ ?_ ?_).mono ?_
        assumption
        assumption
        rintro e w' ⟨rfl, hb', hN'⟩
        go_wp2_with fail
        refine hK.out _ _ ?_ (fun hHeld => ?_)
        · exact hkeep _ hb' hN'
        clear hK K
        (try simp only [Act.put, List.setIfInBounds_toArray, List.set_cons_zero, List.set_cons_succ])
        refine wpAnyH_take (i := 11) (oi := { dst := some 56, op := Op.binOp BinOp.neq 4 (Operand.tmp 52) (Operand.tmp 55) 4, type := 4, pos := "laws.go:383", after := #[{ on := 7, ground := Ground.data }, { on := 10, ground := Ground.data }], guard := none }) (v := .bool true) rfl (by kernel_rfl) (by kernel_rfl) (by kernel_rfl) (fun _ _ _ h => h) (Or.inl ⟨by rfl, ?_⟩) (by assumption) ?_
        · intro w hSw
          (try dsimp only at hSw)
          go_simp
          try with_reducible rfl
        (try simp only [Act.put, List.setIfInBounds_toArray, List.set_cons_zero, List.set_cons_succ])
        refine wpAnyH_take (i := 12) (oi := { dst := some 2, op := Op.assign (Operand.tmp 56), type := 4, pos := "laws.go:383", after := #[{ on := 11, ground := Ground.data }, { on := 10, ground := Ground.chain }, { on := 0, ground := Ground.phase }, { on := 1, ground := Ground.phase }, { on := 2, ground := Ground.phase }, { on := 3, ground := Ground.phase }, { on := 4, ground := Ground.phase }, { on := 5, ground := Ground.phase }, { on := 6, ground := Ground.phase }, { on := 7, ground := Ground.phase }, { on := 8, ground := Ground.phase }, { on := 9, ground := Ground.phase }, { on := 10, ground := Ground.phase }, { on := 11, ground := Ground.phase }], guard := none }) (v := .bool true) rfl (by kernel_rfl) (by kernel_rfl) (by kernel_rfl) (fun _ _ _ h => h) (Or.inl ⟨by rfl, ?_⟩) (by assumption) ?_
        · intro w hSw
          (try dsimp only at hSw)
          go_simp
          try with_reducible rfl
        (try simp only [Act.put, List.setIfInBounds_toArray, List.set_cons_zero, List.set_cons_succ])
        refine wpAnyH_done (by kernel_rfl) ?_ _
        refine NoPanic.normal ?_
        go_split_ands
        go_wp2
        go_ret
        exact ⟨rfl, hend _ (by assumption)⟩
  · refine wp_region_noPanic ?_
    refine wp_region_held_drew (S := (fun W' => Below W0.heap.size W0 W' ∧ W0.heap.size ≤ W'.heap.size ∧ W'.cell? ⟨ga, 0, none⟩ = some (.int .i64 T.k) ∧ W'.cell? ⟨ga, 1, none⟩ = some (.int .i64 T.n) ∧ W'.cell? ⟨ga, 2, none⟩ = some (.int .i64 T.x) ∧ W'.cell? ⟨ga, 3, none⟩ = some (.string ⟨T.s.toArray⟩) ∧ W'.cell? ⟨ga, 4, none⟩ = some (.slice T.a T.l.length T.cap) ∧ W'.cell? ⟨gb, 0, none⟩ = some (.int .i64 U.k) ∧ W'.cell? ⟨gb, 1, none⟩ = some (.int .i64 U.n) ∧ W'.cell? ⟨gb, 2, none⟩ = some (.int .i64 U.x) ∧ W'.cell? ⟨gb, 3, none⟩ = some (.string ⟨U.s.toArray⟩) ∧ W'.cell? ⟨gb, 4, none⟩ = some (.slice U.a U.l.length U.cap) ∧ W'.cell? ⟨gu, 0, none⟩ = some (.int .i64 X.k) ∧ W'.cell? ⟨gu, 1, none⟩ = some (.int .i64 X.n) ∧ W'.cell? ⟨gu, 2, none⟩ = some (.int .i64 X.x) ∧ W'.cell? ⟨gu, 3, none⟩ = some (.string ⟨X.s.toArray⟩) ∧ W'.cell? ⟨gu, 4, none⟩ = some (.slice X.a X.l.length X.cap))) (by kernel_rfl) ?_ (fun hHeld => ?_)
    · exact hkeep _ (Below.drew (by assumption)) (by assumption)
    refine wpAnyH_take (i := 0) (oi := { dst := some 15, op := Op.load 28 (Operand.tmp 3), type := 28, pos := "laws.go:377", after := #[], guard := none }) (v := .agg #[.int .i64 T.k, .int .i64 T.n, .int .i64 T.x, .string ⟨T.s.toArray⟩, .slice T.a T.l.length T.cap]) rfl (by kernel_rfl) (by kernel_rfl) (by kernel_rfl) (fun _ _ _ h => h) (Or.inl ⟨by rfl, ?_⟩) (by assumption) ?_
    · intro w hSw
      (try dsimp only at hSw)
      go_simp
      try with_reducible rfl
    (try simp only [Act.put, List.setIfInBounds_toArray, List.set_cons_zero, List.set_cons_succ])
    refine wpAnyH_take (i := 1) (oi := { dst := some 16, op := Op.load 28 (Operand.tmp 4), type := 28, pos := "laws.go:377", after := #[], guard := none }) (v := .agg #[.int .i64 U.k, .int .i64 U.n, .int .i64 U.x, .string ⟨U.s.toArray⟩, .slice U.a U.l.length U.cap]) rfl (by kernel_rfl) (by kernel_rfl) (by kernel_rfl) (fun _ _ _ h => h) (Or.inl ⟨by rfl, ?_⟩) (by assumption) ?_
    · intro w hSw
      (try dsimp only at hSw)
      go_simp
      try with_reducible rfl
    (try simp only [Act.put, List.setIfInBounds_toArray, List.set_cons_zero, List.set_cons_succ])
    refine wpAnyH_take (i := 3) (oi := { dst := some 18, op := Op.load 28 (Operand.tmp 3), type := 28, pos := "laws.go:377", after := #[], guard := none }) (v := .agg #[.int .i64 T.k, .int .i64 T.n, .int .i64 T.x, .string ⟨T.s.toArray⟩, .slice T.a T.l.length T.cap]) rfl (by kernel_rfl) (by kernel_rfl) (by kernel_rfl) (fun _ _ _ h => h) (Or.inl ⟨by rfl, ?_⟩) (by assumption) ?_
    · intro w hSw
      (try dsimp only at hSw)
      go_simp
      try with_reducible rfl
    (try simp only [Act.put, List.setIfInBounds_toArray, List.set_cons_zero, List.set_cons_succ])
    refine wpAnyH_take (i := 4) (oi := { dst := some 19, op := Op.load 28 (Operand.tmp 4), type := 28, pos := "laws.go:377", after := #[], guard := none }) (v := .agg #[.int .i64 U.k, .int .i64 U.n, .int .i64 U.x, .string ⟨U.s.toArray⟩, .slice U.a U.l.length U.cap]) rfl (by kernel_rfl) (by kernel_rfl) (by kernel_rfl) (fun _ _ _ h => h) (Or.inl ⟨by rfl, ?_⟩) (by assumption) ?_
    · intro w hSw
      (try dsimp only at hSw)
      go_simp
      try with_reducible rfl
    (try simp only [Act.put, List.setIfInBounds_toArray, List.set_cons_zero, List.set_cons_succ])
    refine wpAnyH_ready (rs := [2]) (by kernel_rfl) (by simp) ?_
    refine AllReadyH.cons (o := { dst := some 17, op := Op.call { callee := Callee.value (Operand.func 22), args := #[Operand.tmp 15, Operand.tmp 16], argTypes := #[28, 28] }, type := 4, pos := "laws.go:377", after := #[{ on := 0, ground := Ground.data }, { on := 1, ground := Ground.data }], guard := none }) rfl (fun K hK => ?_) AllReadyH.nil
    go_simp
    go_at_call 22
    go_split_ands
    refine (cL _ ?_ ?_).mono ?_
    assumption
    assumption
    rintro e w' ⟨rfl, hb', hN'⟩
    go_wp2_with fail
    refine hK.out _ _ ?_ (fun hHeld => ?_)
    · exact hkeep _ hb' hN'
    clear hK K
    (try simp only [Act.put, List.setIfInBounds_toArray, List.set_cons_zero, List.set_cons_succ])
    refine wpAnyH_ready (rs := [5]) (by kernel_rfl) (by simp) ?_
    refine AllReadyH.cons (o := { dst := some 20, op := Op.call { callee := Callee.value (Operand.func 23), args := #[Operand.tmp 18, Operand.tmp 19], argTypes := #[28, 28] }, type := 4, pos := "laws.go:377", after := #[{ on := 3, ground := Ground.data }, { on := 4, ground := Ground.data }, { on := 2, ground := Ground.chain }], guard := none }) rfl (fun K hK => ?_) AllReadyH.nil
    go_simp
    go_at_call 23
    go_split_ands
    refine (cS _ ?_ ?_).mono ?_
    assumption
    assumption
    rintro e w' ⟨rfl, hb', hN'⟩
    go_wp2_with fail
    refine hK.out _ _ ?_ (fun hHeld => ?_)
    · exact hkeep _ hb' hN'
    clear hK K
    (try simp only [Act.put, List.setIfInBounds_toArray, List.set_cons_zero, List.set_cons_succ])
    refine wpAnyH_take (i := 6) (oi := { dst := some 21, op := Op.binOp BinOp.neq 4 (Operand.tmp 17) (Operand.tmp 20) 4, type := 4, pos := "laws.go:377", after := #[{ on := 2, ground := Ground.data }, { on := 5, ground := Ground.data }], guard := none }) (v := .bool false) rfl (by kernel_rfl) (by kernel_rfl) (by kernel_rfl) (fun _ _ _ h => h) (Or.inl ⟨by rfl, ?_⟩) (by assumption) ?_
    · intro w hSw
      (try dsimp only at hSw)
      go_simp
      try with_reducible rfl
    (try simp only [Act.put, List.setIfInBounds_toArray, List.set_cons_zero, List.set_cons_succ])
    refine wpAnyH_take (i := 7) (oi := { dst := some 22, op := Op.move (Operand.tmp 21), type := 4, pos := "laws.go:377", after := #[{ on := 6, ground := Ground.data }, { on := 5, ground := Ground.chain }], guard := none }) (v := .bool false) rfl (by kernel_rfl) (by kernel_rfl) (by kernel_rfl) (fun _ _ _ h => h) (Or.inl ⟨by rfl, ?_⟩) (by assumption) ?_
    · intro w hSw
      (try dsimp only at hSw)
      go_simp
      try with_reducible rfl
    (try simp only [Act.put, List.setIfInBounds_toArray, List.set_cons_zero, List.set_cons_succ])
    refine wpAnyH_take (i := 8) (oi := { dst := some 23, op := Op.load 28 (Operand.tmp 3), type := 28, pos := "laws.go:377", after := #[{ on := 7, ground := Ground.guard }], guard := some (7, false) }) (v := .agg #[.int .i64 T.k, .int .i64 T.n, .int .i64 T.x, .string ⟨T.s.toArray⟩, .slice T.a T.l.length T.cap]) rfl (by kernel_rfl) (by kernel_rfl) (by kernel_rfl) (fun _ _ _ h => h) (Or.inl ⟨by rfl, ?_⟩) (by assumption) ?_
    · intro w hSw
      (try dsimp only at hSw)
      go_simp
      try with_reducible rfl
    (try simp only [Act.put, List.setIfInBounds_toArray, List.set_cons_zero, List.set_cons_succ])
    refine wpAnyH_take (i := 9) (oi := { dst := some 24, op := Op.load 28 (Operand.tmp 4), type := 28, pos := "laws.go:377", after := #[{ on := 7, ground := Ground.guard }], guard := some (7, false) }) (v := .agg #[.int .i64 U.k, .int .i64 U.n, .int .i64 U.x, .string ⟨U.s.toArray⟩, .slice U.a U.l.length U.cap]) rfl (by kernel_rfl) (by kernel_rfl) (by kernel_rfl) (fun _ _ _ h => h) (Or.inl ⟨by rfl, ?_⟩) (by assumption) ?_
    · intro w hSw
      (try dsimp only at hSw)
      go_simp
      try with_reducible rfl
    (try simp only [Act.put, List.setIfInBounds_toArray, List.set_cons_zero, List.set_cons_succ])
    refine wpAnyH_ready (rs := [10]) (by kernel_rfl) (by simp) ?_
    refine AllReadyH.cons (o := { dst := some 25, op := Op.call { callee := Callee.value (Operand.func 22), args := #[Operand.tmp 23, Operand.tmp 24], argTypes := #[28, 28] }, type := 4, pos := "laws.go:377", after := #[{ on := 8, ground := Ground.data }, { on := 9, ground := Ground.data }, { on := 7, ground := Ground.chain }, { on := 7, ground := Ground.guard }], guard := some (7, false) }) rfl (fun K hK => ?_) AllReadyH.nil
    go_simp
    go_at_call 22
    go_split_ands
    refine (cL _ ?_ ?_).mono ?_
    assumption
    assumption
    rintro e w' ⟨rfl, hb', hN'⟩
    go_wp2_with fail
    refine hK.out _ _ ?_ (fun hHeld => ?_)
    · exact hkeep _ hb' hN'
    clear hK K
    (try simp only [Act.put, List.setIfInBounds_toArray, List.set_cons_zero, List.set_cons_succ])
    refine wpAnyH_take (i := 11) (oi := { dst := some 26, op := Op.move (Operand.tmp 25), type := 4, pos := "laws.go:377", after := #[{ on := 10, ground := Ground.data }, { on := 10, ground := Ground.chain }, { on := 7, ground := Ground.guard }], guard := some (7, false) }) (v := .bool false) rfl (by kernel_rfl) (by kernel_rfl) (by kernel_rfl) (fun _ _ _ h => h) (Or.inl ⟨by rfl, ?_⟩) (by assumption) ?_
    · intro w hSw
      (try dsimp only at hSw)
      go_simp
      try with_reducible rfl
    (try simp only [Act.put, List.setIfInBounds_toArray, List.set_cons_zero, List.set_cons_succ])
    refine wpAnyH_take (i := 12) (oi := { dst := some 27, op := Op.load 28 (Operand.tmp 4), type := 28, pos := "laws.go:377", after := #[{ on := 11, ground := Ground.guard }], guard := some (11, true) }) (v := undef) rfl (by kernel_rfl) (by kernel_rfl) (by kernel_rfl) (fun _ _ _ h => h) (Or.inr ⟨by rfl, rfl⟩) (by assumption) ?_
    (try simp only [Act.put, List.setIfInBounds_toArray, List.set_cons_zero, List.set_cons_succ])
    refine wpAnyH_take (i := 13) (oi := { dst := some 28, op := Op.load 28 (Operand.tmp 3), type := 28, pos := "laws.go:377", after := #[{ on := 11, ground := Ground.guard }], guard := some (11, true) }) (v := undef) rfl (by kernel_rfl) (by kernel_rfl) (by kernel_rfl) (fun _ _ _ h => h) (Or.inr ⟨by rfl, rfl⟩) (by assumption) ?_
    (try simp only [Act.put, List.setIfInBounds_toArray, List.set_cons_zero, List.set_cons_succ])
    refine wpAnyH_take (i := 14) (oi := { dst := some 29, op := Op.call { callee := Callee.value (Operand.func 22), args := #[Operand.tmp 27, Operand.tmp 28], argTypes := #[28, 28] }, type := 4, pos := "laws.go:377", after := #[{ on := 12, ground := Ground.data }, { on := 13, ground := Ground.data }, { on := 11, ground := Ground.chain }, { on := 11, ground := Ground.guard }], guard := some (11, true) }) (v := undef) rfl (by kernel_rfl) (by kernel_rfl) (by kernel_rfl) (fun _ _ _ h => h) (Or.inr ⟨by rfl, rfl⟩) (by assumption) ?_
    (try simp only [Act.put, List.setIfInBounds_toArray, List.set_cons_zero, List.set_cons_succ])
    refine wpAnyH_take (i := 15) (oi := { dst := some 30, op := Op.pick (Operand.tmp 26) (Operand.tmp 29) (Operand.const (Value.bool false)), type := 4, pos := "laws.go:377", after := #[{ on := 11, ground := Ground.data }, { on := 14, ground := Ground.data }, { on := 7, ground := Ground.guard }], guard := some (7, false) }) (v := .bool false) rfl (by kernel_rfl) (by kernel_rfl) (by kernel_rfl) (fun _ _ _ h => h) (Or.inl ⟨by rfl, ?_⟩) (by assumption) ?_
    · intro w hSw
      (try dsimp only at hSw)
      go_simp
      try with_reducible rfl
    (try simp only [Act.put, List.setIfInBounds_toArray, List.set_cons_zero, List.set_cons_succ])
    refine wpAnyH_take (i := 16) (oi := { dst := some 31, op := Op.pick (Operand.tmp 22) (Operand.const (Value.bool true)) (Operand.tmp 30), type := 4, pos := "laws.go:377", after := #[{ on := 7, ground := Ground.data }, { on := 15, ground := Ground.data }], guard := none }) (v := .bool false) rfl (by kernel_rfl) (by kernel_rfl) (by kernel_rfl) (fun _ _ _ h => h) (Or.inl ⟨by rfl, ?_⟩) (by assumption) ?_
    · intro w hSw
      (try dsimp only at hSw)
      go_simp
      try with_reducible rfl
    (try simp only [Act.put, List.setIfInBounds_toArray, List.set_cons_zero, List.set_cons_succ])
    refine wpAnyH_take (i := 17) (oi := { dst := some 32, op := Op.move (Operand.tmp 31), type := 4, pos := "laws.go:377", after := #[{ on := 16, ground := Ground.data }, { on := 14, ground := Ground.chain }], guard := none }) (v := .bool false) rfl (by kernel_rfl) (by kernel_rfl) (by kernel_rfl) (fun _ _ _ h => h) (Or.inl ⟨by rfl, ?_⟩) (by assumption) ?_
    · intro w hSw
      (try dsimp only at hSw)
      go_simp
      try with_reducible rfl
    (try simp only [Act.put, List.setIfInBounds_toArray, List.set_cons_zero, List.set_cons_succ])
    refine wpAnyH_take (i := 18) (oi := { dst := some 33, op := Op.load 28 (Operand.tmp 5), type := 28, pos := "laws.go:377", after := #[{ on := 17, ground := Ground.guard }], guard := some (17, false) }) (v := .agg #[.int .i64 X.k, .int .i64 X.n, .int .i64 X.x, .string ⟨X.s.toArray⟩, .slice X.a X.l.length X.cap]) rfl (by kernel_rfl) (by kernel_rfl) (by kernel_rfl) (fun _ _ _ h => h) (Or.inl ⟨by rfl, ?_⟩) (by assumption) ?_
    · intro w hSw
      (try dsimp only at hSw)
      go_simp
      try with_reducible rfl
    (try simp only [Act.put, List.setIfInBounds_toArray, List.set_cons_zero, List.set_cons_succ])
    refine wpAnyH_take (i := 19) (oi := { dst := some 34, op := Op.load 28 (Operand.tmp 5), type := 28, pos := "laws.go:377", after := #[{ on := 17, ground := Ground.guard }], guard := some (17, false) }) (v := .agg #[.int .i64 X.k, .int .i64 X.n, .int .i64 X.x, .string ⟨X.s.toArray⟩, .slice X.a X.l.length X.cap]) rfl (by kernel_rfl) (by kernel_rfl) (by kernel_rfl) (fun _ _ _ h => h) (Or.inl ⟨by rfl, ?_⟩) (by assumption) ?_
    · intro w hSw
      (try dsimp only at hSw)
      go_simp
      try with_reducible rfl
    (try simp only [Act.put, List.setIfInBounds_toArray, List.set_cons_zero, List.set_cons_succ])
    refine wpAnyH_ready (rs := [20]) (by kernel_rfl) (by simp) ?_
    refine AllReadyH.cons (o := { dst := some 35, op := Op.call { callee := Callee.value (Operand.func 22), args := #[Operand.tmp 33, Operand.tmp 34], argTypes := #[28, 28] }, type := 4, pos := "laws.go:377", after := #[{ on := 18, ground := Ground.data }, { on := 19, ground := Ground.data }, { on := 17, ground := Ground.chain }, { on := 17, ground := Ground.guard }], guard := some (17, false) }) rfl (fun K hK => ?_) AllReadyH.nil
    go_simp
    go_at_call 22
    go_split_ands
    refine (cU _ ?_ ?_).mono ?_
    assumption
    assumption
    rintro e w' ⟨rfl, hb', hN'⟩
    go_wp2_with fail
    refine hK.out _ _ ?_ (fun hHeld => ?_)
    · exact hkeep _ hb' hN'
    clear hK K
    (try simp only [Act.put, List.setIfInBounds_toArray, List.set_cons_zero, List.set_cons_succ])
    refine wpAnyH_take (i := 21) (oi := { dst := some 36, op := Op.pick (Operand.tmp 32) (Operand.const (Value.bool true)) (Operand.tmp 35), type := 4, pos := "laws.go:377", after := #[{ on := 17, ground := Ground.data }, { on := 20, ground := Ground.data }], guard := none }) (v := .bool false) rfl (by kernel_rfl) (by kernel_rfl) (by kernel_rfl) (fun _ _ _ h => h) (Or.inl ⟨by rfl, ?_⟩) (by assumption) ?_
    · intro w hSw
      (try dsimp only at hSw)
      go_simp
      try with_reducible rfl
    (try simp only [Act.put, List.setIfInBounds_toArray, List.set_cons_zero, List.set_cons_succ])
    refine wpAnyH_done (by kernel_rfl) ?_ _
    refine NoPanic.normal ?_
    go_split_ands
    go_wp2_with fail
    refine (cV _ (by assumption) (by assumption)).mono ?_
    rintro e W5 ⟨rfl, hB5, hN5⟩
    obtain ⟨_, _, _, _, _, _, _, _, _, _, _, _, _, _, _⟩ := (hkeep _ hB5 hN5).2.2
    cases ok1
    · go_wp2
      go_ret
      exact ⟨rfl, hend _ (by assumption)⟩
    · go_wp2_with fail
      refine (cV2 _ hB5 hN5).mono ?_
      clear hB5 hN5
      rintro e W6 ⟨rfl, hB6, hN6⟩
      obtain ⟨_, _, _, _, _, _, _, _, _, _, _, _, _, _, _⟩ := (hkeep _ hB6 hN6).2.2
      cases ok2
      · go_wp2
        go_ret
        exact ⟨rfl, hend _ (by assumption)⟩
      · go_wp2_with fail
        refine wp_region_noPanic ?_
        refine wp_region_held_drew (S := (fun W' => Below W0.heap.size W0 W' ∧ W0.heap.size ≤ W'.heap.size ∧ W'.cell? ⟨ga, 0, none⟩ = some (.int .i64 T.k) ∧ W'.cell? ⟨ga, 1, none⟩ = some (.int .i64 T.n) ∧ W'.cell? ⟨ga, 2, none⟩ = some (.int .i64 T.x) ∧ W'.cell? ⟨ga, 3, none⟩ = some (.string ⟨T.s.toArray⟩) ∧ W'.cell? ⟨ga, 4, none⟩ = some (.slice T.a T.l.length T.cap) ∧ W'.cell? ⟨gb, 0, none⟩ = some (.int .i64 U.k) ∧ W'.cell? ⟨gb, 1, none⟩ = some (.int .i64 U.n) ∧ W'.cell? ⟨gb, 2, none⟩ = some (.int .i64 U.x) ∧ W'.cell? ⟨gb, 3, none⟩ = some (.string ⟨U.s.toArray⟩) ∧ W'.cell? ⟨gb, 4, none⟩ = some (.slice U.a U.l.length U.cap) ∧ W'.cell? ⟨gu, 0, none⟩ = some (.int .i64 X.k) ∧ W'.cell? ⟨gu, 1, none⟩ = some (.int .i64 X.n) ∧ W'.cell? ⟨gu, 2, none⟩ = some (.int .i64 X.x) ∧ W'.cell? ⟨gu, 3, none⟩ = some (.string ⟨X.s.toArray⟩) ∧ W'.cell? ⟨gu, 4, none⟩ = some (.slice X.a X.l.length X.cap))) (by kernel_rfl) ?_ (fun hHeld => ?_)
        · exact hkeep _ (Below.drew (by assumption)) (by assumption)
        refine wpAnyH_take (i := 0) (oi := { dst := some 45, op := Op.load 28 (Operand.tmp 3), type := 28, pos := "laws.go:383", after := #[], guard := none }) (v := .agg #[.int .i64 T.k, .int .i64 T.n, .int .i64 T.x, .string ⟨T.s.toArray⟩, .slice T.a T.l.length T.cap]) rfl (by kernel_rfl) (by kernel_rfl) (by kernel_rfl) (fun _ _ _ h => h) (Or.inl ⟨by rfl, ?_⟩) (by assumption) ?_
        · intro w hSw
          (try dsimp only at hSw)
          go_simp
          try with_reducible rfl
        (try simp only [Act.put, List.setIfInBounds_toArray, List.set_cons_zero, List.set_cons_succ])
        refine wpAnyH_take (i := 1) (oi := { dst := some 46, op := Op.load 28 (Operand.tmp 4), type := 28, pos := "laws.go:383", after := #[], guard := none }) (v := .agg #[.int .i64 U.k, .int .i64 U.n, .int .i64 U.x, .string ⟨U.s.toArray⟩, .slice U.a U.l.length U.cap]) rfl (by kernel_rfl) (by kernel_rfl) (by kernel_rfl) (fun _ _ _ h => h) (Or.inl ⟨by rfl, ?_⟩) (by assumption) ?_
        · intro w hSw
          (try dsimp only at hSw)
          go_simp
          try with_reducible rfl
        (try simp only [Act.put, List.setIfInBounds_toArray, List.set_cons_zero, List.set_cons_succ])
        refine wpAnyH_take (i := 8) (oi := { dst := some 53, op := Op.load 28 (Operand.tmp 3), type := 28, pos := "laws.go:383", after := #[], guard := none }) (v := .agg #[.int .i64 T.k, .int .i64 T.n, .int .i64 T.x, .string ⟨T.s.toArray⟩, .slice T.a T.l.length T.cap]) rfl (by kernel_rfl) (by kernel_rfl) (by kernel_rfl) (fun _ _ _ h => h) (Or.inl ⟨by rfl, ?_⟩) (by assumption) ?_
        · intro w hSw
          (try dsimp only at hSw)
          go_simp
          try with_reducible rfl
        (try simp only [Act.put, List.setIfInBounds_toArray, List.set_cons_zero, List.set_cons_succ])
        refine wpAnyH_take (i := 9) (oi := { dst := some 54, op := Op.load 28 (Operand.tmp 4), type := 28, pos := "laws.go:383", after := #[], guard := none }) (v := .agg #[.int .i64 U.k, .int .i64 U.n, .int .i64 U.x, .string ⟨U.s.toArray⟩, .slice U.a U.l.length U.cap]) rfl (by kernel_rfl) (by kernel_rfl) (by kernel_rfl) (fun _ _ _ h => h) (Or.inl ⟨by rfl, ?_⟩) (by assumption) ?_
        · intro w hSw
          (try dsimp only at hSw)
          go_simp
          try with_reducible rfl
        (try simp only [Act.put, List.setIfInBounds_toArray, List.set_cons_zero, List.set_cons_succ])
        refine wpAnyH_ready (rs := [2]) (by kernel_rfl) (by simp) ?_
        refine AllReadyH.cons (o := { dst := some 47, op := Op.call { callee := Callee.value (Operand.func 22), args := #[Operand.tmp 45, Operand.tmp 46], argTypes := #[28, 28] }, type := 4, pos := "laws.go:383", after := #[{ on := 0, ground := Ground.data }, { on := 1, ground := Ground.data }], guard := none }) rfl (fun K hK => ?_) AllReadyH.nil
        go_simp
        go_at_call 22
        go_split_ands
        refine (cL _ ?_ ?_).mono ?_
        assumption
        assumption
        rintro e w' ⟨rfl, hb', hN'⟩
        go_wp2_with fail
        refine hK.out _ _ ?_ (fun hHeld => ?_)
        · exact hkeep _ hb' hN'
        clear hK K
        (try simp only [Act.put, List.setIfInBounds_toArray, List.set_cons_zero, List.set_cons_succ])
        refine wpAnyH_take (i := 3) (oi := { dst := some 48, op := Op.move (Operand.tmp 47), type := 4, pos := "laws.go:383", after := #[{ on := 2, ground := Ground.data }, { on := 2, ground := Ground.chain }], guard := none }) (v := .bool false) rfl (by kernel_rfl) (by kernel_rfl) (by kernel_rfl) (fun _ _ _ h => h) (Or.inl ⟨by rfl, ?_⟩) (by assumption) ?_
        · intro w hSw
          (try dsimp only at hSw)
          go_simp
          try with_reducible rfl
        (try simp only [Act.put, List.setIfInBounds_toArray, List.set_cons_zero, List.set_cons_succ])
        refine wpAnyH_take (i := 4) (oi := { dst := some 49, op := Op.load 28 (Operand.tmp 4), type := 28, pos := "laws.go:383", after := #[{ on := 3, ground := Ground.guard }], guard := some (3, false) }) (v := .agg #[.int .i64 U.k, .int .i64 U.n, .int .i64 U.x, .string ⟨U.s.toArray⟩, .slice U.a U.l.length U.cap]) rfl (by kernel_rfl) (by kernel_rfl) (by kernel_rfl) (fun _ _ _ h => h) (Or.inl ⟨by rfl, ?_⟩) (by assumption) ?_
        · intro w hSw
          (try dsimp only at hSw)
          go_simp
          try with_reducible rfl
        (try simp only [Act.put, List.setIfInBounds_toArray, List.set_cons_zero, List.set_cons_succ])
        refine wpAnyH_take (i := 5) (oi := { dst := some 50, op := Op.load 28 (Operand.tmp 3), type := 28, pos := "laws.go:383", after := #[{ on := 3, ground := Ground.guard }], guard := some (3, false) }) (v := .agg #[.int .i64 T.k, .int .i64 T.n, .int .i64 T.x, .string ⟨T.s.toArray⟩, .slice T.a T.l.length T.cap]) rfl (by kernel_rfl) (by kernel_rfl) (by kernel_rfl) (fun _ _ _ h => h) (Or.inl ⟨by rfl, ?_⟩) (by assumption) ?_
        · intro w hSw
          (try dsimp only at hSw)
          go_simp
          try with_reducible rfl
        (try simp only [Act.put, List.setIfInBounds_toArray, List.set_cons_zero, List.set_cons_succ])
        refine wpAnyH_ready (rs := [6]) (by kernel_rfl) (by simp) ?_
        refine AllReadyH.cons (o := { dst := some 51, op := Op.call { callee := Callee.value (Operand.func 22), args := #[Operand.tmp 49, Operand.tmp 50], argTypes := #[28, 28] }, type := 4, pos := "laws.go:383", after := #[{ on := 4, ground := Ground.data }, { on := 5, ground := Ground.data }, { on := 3, ground := Ground.chain }, { on := 3, ground := Ground.guard }], guard := some (3, false) }) rfl (fun K hK => ?_) AllReadyH.nil
        go_simp
        go_at_call 22
        go_split_ands
        refine (cM _ ?_ ?_).mono ?_
        assumption
        assumption
        rintro e w' ⟨rfl, hb', hN'⟩
        go_wp2_with fail
        refine hK.out _ _ ?_ (fun hHeld => ?_)
        · exact hkeep _ hb' hN'
        clear hK K
        (try simp only [Act.put, List.setIfInBounds_toArray, List.set_cons_zero, List.set_cons_succ])
        refine wpAnyH_take (i := 7) (oi := { dst := some 52, op := Op.pick (Operand.tmp 48) (Operand.const (Value.bool true)) (Operand.tmp 51), type := 4, pos := "laws.go:383", after := #[{ on := 3, ground := Ground.data }, { on := 6, ground := Ground.data }], guard := none }) (v := .bool false) rfl (by kernel_rfl) (by kernel_rfl) (by kernel_rfl) (fun _ _ _ h => h) (Or.inl ⟨by rfl, ?_⟩) (by assumption) ?_
        · intro w hSw
          (try dsimp only at hSw)
          go_simp
          try with_reducible rfl
        (try simp only [Act.put, List.setIfInBounds_toArray, List.set_cons_zero, List.set_cons_succ])
        refine wpAnyH_ready (rs := [10]) (by kernel_rfl) (by simp) ?_
        refine AllReadyH.cons (o := { dst := some 55, op := Op.call { callee := Callee.value (Operand.func 25), args := #[Operand.tmp 53, Operand.tmp 54], argTypes := #[28, 28] }, type := 4, pos := "laws.go:383", after := #[{ on := 8, ground := Ground.data }, { on := 9, ground := Ground.data }, { on := 6, ground := Ground.chain }], guard := none }) rfl (fun K hK => ?_) AllReadyH.nil
        go_simp
        go_at_call 25
        go_split_ands
        refine (cE _ ?_ ?_).mono ?_
        assumption
        assumption
        rintro e w' ⟨rfl, hb', hN'⟩
        go_wp2_with fail
        refine hK.out _ _ ?_ (fun hHeld => ?_)
        · exact hkeep _ hb' hN'
        clear hK K
        (try simp only [Act.put, List.setIfInBounds_toArray, List.set_cons_zero, List.set_cons_succ])
        refine wpAnyH_take (i := 11) (oi := { dst := some 56, op := Op.binOp BinOp.neq 4 (Operand.tmp 52) (Operand.tmp 55) 4, type := 4, pos := "laws.go:383", after := #[{ on := 7, ground := Ground.data }, { on := 10, ground := Ground.data }], guard := none }) (v := .bool true) rfl (by kernel_rfl) (by kernel_rfl) (by kernel_rfl) (fun _ _ _ h => h) (Or.inl ⟨by rfl, ?_⟩) (by assumption) ?_
        · intro w hSw
          (try dsimp only at hSw)
          go_simp
          try with_reducible rfl
        (try simp only [Act.put, List.setIfInBounds_toArray, List.set_cons_zero, List.set_cons_succ])
        refine wpAnyH_take (i := 12) (oi := { dst := some 2, op := Op.assign (Operand.tmp 56), type := 4, pos := "laws.go:383", after := #[{ on := 11, ground := Ground.data }, { on := 10, ground := Ground.chain }, { on := 0, ground := Ground.phase }, { on := 1, ground := Ground.phase }, { on := 2, ground := Ground.phase }, { on := 3, ground := Ground.phase }, { on := 4, ground := Ground.phase }, { on := 5, ground := Ground.phase }, { on := 6, ground := Ground.phase }, { on := 7, ground := Ground.phase }, { on := 8, ground := Ground.phase }, { on := 9, ground := Ground.phase }, { on := 10, ground := Ground.phase }, { on := 11, ground := Ground.phase }], guard := none }) (v := .bool true) rfl (by kernel_rfl) (by kernel_rfl) (by kernel_rfl) (fun _ _ _ h => h) (Or.inl ⟨by rfl, ?_⟩) (by assumption) ?_
        · intro w hSw
          (try dsimp only at hSw)
          go_simp
          try with_reducible rfl
        (try simp only [Act.put, List.setIfInBounds_toArray, List.set_cons_zero, List.set_cons_succ])
        refine wpAnyH_done (by kernel_rfl) ?_ _
        refine NoPanic.normal ?_
        go_split_ands
        go_wp2
        go_ret
        exact ⟨rfl, hend _ (by assumption)⟩

set_option maxRecDepth 100000 in
theorem contract (H : Type) (enc : TypeId × Value → H) (W : World) (base : Nat) (args : Array Value) (ds gs : List (DataW H)) (before : List MemPlace)
    (hval : ∀ (j : Nat) t v, Try.f5.params[j]? = some t → args[j]? = some v → Value.okWide Try.prog W .any base t v)
    (hW : DataW.Whole enc Try.prog Try.f5.params.toList Rows.fnOrdersSpec.vars false W args.toList ds gs before)
    (hcond : ∀ k, (OpenSpec.ofChange Rows.fnOrdersSpec).cond = some k → k H (ds ++ gs) = true)
    (hsz : (DataW.weightsEach Try.prog (Try.f5.params.toList ++ (OpenSpec.ofChange Rows.fnOrdersSpec).bare.plain.varTypes Try.prog) (ds ++ gs)).all (· ≤ reachBytes) = true)
    (hL : laidMetH Try.prog Rows.fnOrdersRow.laid W) :
    Calls Try.prog 5 args W fun e W' => ∃ v, e = .returned v ∧ Rows.fnOrdersSpec.post enc Try.prog Try.f5 false true false false W args v W' := by
  have hW' := hW
  have hlt := hW'.lt
  obtain ⟨p, q, hA0, hV, rfl, hfz, hnd⟩ := hW
  have hA : DataW.TrodAll enc Try.prog W 0 (fun _ => true) true Try.f5.params.toList args.toList ds p := hA0
  rw [Try.params5] at hA hval hsz
  obtain ⟨v0, vs0, d0, ds0, p0, q0, hargs, rfl, rfl, h0, r0⟩ := trodAll_cons hA
  obtain ⟨rfl, rfl, rfl⟩ := trodAll_nil r0
  obtain rfl : args = #[v0] := by cases args; simp_all
  obtain ⟨rfl, rfl⟩ := trodVars_none hV
  simp only [List.append_nil] at hW' hlt
  have hlt0 : ∀ x ∈ p0, x.block < W.heap.size := fun x hx => hlt x (by simp [hx])
  have hk0 := h0
  clear hA0 hA
  have fin : ∀ W' : World, Below W.heap.size W W' → Rows.fnOrdersSpec.post enc Try.prog Try.f5 false true false false W _ (.bool true) W' := fun W' hb =>
    ⟨_, _, _, [], _, [], hW', trodAll_mk1 (shut_bool Try.underlying4 _), (trodAll_cons_mk (Below.trod laidOut (by kernel_rfl) (of_decide_eq_true (by kernel_rfl)) hk0 hb hlt0) trodAll_mk0), rfl, hb.frame _, fun h => by cases h⟩
  refine Calls.mono (R := fun e w' => e = .returned (.bool true) ∧ Below W.heap.size W w') ?_ (fun e W' h => ⟨_, h.1, fin W' h.2⟩)
  clear fin
  obtain ⟨a, len, cap, rfl, hC, hm⟩ := open_code (hval 0 _ v0 rfl rfl) h0 hlt0
  by_cases hl : 1048576 < len
  · exact walk_long a len cap W hl hm
  · exact walk a len cap W hC (by omega)

theorem laid_met (os : Os) : laidMet Try.prog Rows.fnOrdersRow.laid (((World.holding Try.prog os ⟨#[], #[], []⟩)).forCall (fun _ _ => 0) ⟨#[], #[.slice none 0 0], []⟩).memory :=
  ⟨[], rfl, List.nodup_nil, fun _ _ h => by cases h⟩
theorem reads (os : Os) {H : Type} (enc : TypeId × Value → H) : ∃ places, DataW.whole enc Try.prog (((World.holding Try.prog os ⟨#[], #[], []⟩)).forCall (fun _ _ => 0) ⟨#[], #[.slice none 0 0], []⟩).memory Try.f5.params.toList Rows.fnOrdersSpec.vars false (#[.slice none 0 0] : Array Value).toList 8 = some ([.nil], [], places) :=
  ⟨[], by kernel_rfl⟩

set_option maxRecDepth 100000 in
theorem lifted (os : Os) (started : os.Started) (H : Type) (enc : TypeId × Value → H) (F : Stop.Interp) :
    ReturnsInHanded {} Try.checked os 5 .any ((OpenSpec.ofChange Rows.fnOrdersSpec).preRow enc Try.prog Try.f5 Rows.fnOrdersRow.domain false Rows.fnOrdersRow.laid) (((OpenSpec.ofChange Rows.fnOrdersSpec).at F).post enc Try.prog Try.f5 false true false false) := by
  obtain ⟨places, hx⟩ := reads os enc
  refine returnsInHanded_of_row (C := Try.checked) (s := OpenSpec.ofChange Rows.fnOrdersSpec) own started (by kernel_rfl) Try.func5
    (witness_row_at (enc := enc) (C := Try.checked) false (World.holding Try.prog os ⟨#[], #[], []⟩) #[.slice none 0 0] rfl (by kernel_rfl) (by kernel_rfl) (by kernel_rfl)
      (OpenSpec.preRow_of_cond 8 hx (by kernel_rfl) (fun k hk => by cases hk) (by kernel_rfl) (laid_met os))) ?_
  intro W base args ds gs before hval hW _ hcond hsz hL _ _
  exact contract H enc W base args ds gs before hval hW hcond hsz hL

theorem said : Rows.FnOrdersSaid :=
  OpenClaim.holds_of_cond 5 Try.f5 rfl rfl rfl rfl rfl rfl rfl ⟨rfl, rfl, rfl, rfl, rfl⟩ rfl rfl rfl rfl rfl (by kernel_rfl) Try.func5 (by kernel_rfl)
    (of_decide_eq_true (by kernel_rfl)) (by unfold Func.isWrapper; first | (rw [if_pos (by decide +kernel)]; kernel_rfl) | (rw [if_neg (by decide +kernel)]; exact ⟨rfl, rfl⟩))
    (fun os started H enc _ F => by rw [OpenClaim.pre_eq_preRow]; exact lifted os started H enc F)

theorem proved : Rows.FnOrdersSaid := said
#print axioms proved
end Go.Proofs.Ytdjnkcoepmackaa.fnOrders
