/- For every input the law FnNears returns true and its arguments read afterwards as they read before; beside what the row states there is no condition. -/
import Derived.Test.YtjfjbocaplpdfaaRows
import Derived.WalkKit
import Derived.ProofKit
import Derived.OpenShut
import Derived.SizedLaws
import Derived.Carry
import Derived.Deep.DeepHandedRow


import Derived.Lib.LaidTab
import Derived.Stop.LaidErr
import Derived.Test.YtjfjbocaplpdfaaDrawFlt
import Derived.Test.YtjfjbocaplpdfaaExact
import Derived.Test.YtjfjbocaplpdfaaLessFlt
import Derived.Test.YtjfjbocaplpdfaaDecEq
import Derived.Deep.RegionHeld3
import Derived.Deep.Cut

namespace Go.Proofs.Ytjfjbocaplpdfaa.fnNears
open Go.ChangeShapes Go.WideShapes Go.ChangeAt Go.RowKit
open Go.ChangeMaps (open_string shut_string)
set_option linter.unusedVariables false

theorem own : ownKnob Try.prog.godebug = none := by kernel_rfl
theorem laidOut : laidOutB Try.prog = true := by kernel_rfl

def Post (W : World) (r : Ending) (w' : World) : Prop := r = .returned (.bool true) ∧ Below W.heap.size W w'
theorem walk_long (a : Option Addr) (len cap : Nat) (W : World) (h : 1048576 < len) (hm : len ≤ maxLen) : Calls Try.prog 3 #[.slice a len cap] W (Post W) := by
  go_enter Try.func3, Try.ntmps3
  go_wp2_with (go_at_call 10; refine (big_yes a len cap _ h hm).mono ?_; rintro e w' ⟨rfl, rfl⟩)
  go_ret
  exact ⟨rfl, Below.refl _ _⟩
theorem box_in {w : World} {r : Nat} {n x : Int} (h : Box w r n x) : r < w.heap.size := cell_lt h.1
theorem box_next {w W : World} {r : Nat} {n x : Int} (h : Box w r n x) (hb : Below w.heap.size w W) : Box W r n x := h.below hb (box_in h)
theorem exact_known_impl {n x K J : Int} {ok : Bool} (h : IsNear n x K J ok) (h0 : -9223372036854775808 ≤ n) (h1 : n ≤ 9223372036854775807) (W : World) :
    Calls Try.prog 15 #[.agg #[.int .i64 n, .int .i64 x]] W fun r w' => r = .returned (.bool (ok && (decFN K J == n && decFX K J == x))) ∧ Below W.heap.size W w' := by
  refine (exact_impl n x W h0 h1).mono ?_
  rintro r w' ⟨b, rfl, ⟨M, E, o, hM, rfl⟩, hb⟩
  obtain ⟨rfl, rfl, rfl⟩ := isNear_uniq h hM
  exact ⟨rfl, hb⟩
theorem exact_known_spec {n x K J : Int} {ok : Bool} (h : IsNear n x K J ok) (h0 : -9223372036854775808 ≤ n) (h1 : n ≤ 9223372036854775807) (W : World) :
    Calls Try.prog 16 #[.agg #[.int .i64 n, .int .i64 x]] W fun r w' => r = .returned (.bool (ok && (decFN K J == n && decFX K J == x))) ∧ Below W.heap.size W w' := by
  refine (exact_spec n x W h0 h1).mono ?_
  rintro r w' ⟨b, rfl, ⟨M, E, o, hM, rfl⟩, hb⟩
  obtain ⟨rfl, rfl, rfl⟩ := isNear_uniq h hM
  exact ⟨rfl, hb⟩
set_option maxRecDepth 100000 in
set_option maxHeartbeats 8000000 in
theorem walk (a : Option Addr) (len cap : Nat) (W : World) (hC : CodeAt W a len) (hl : len ≤ 1048576) :
    Calls Try.prog 3 #[.slice a len cap] W (Post W) := by
  go_enter Try.func3, Try.ntmps3
  go_wp2_with fail
  refine (big_no a len cap _ hl).mono ?_
  rintro r w' ⟨rfl, rfl⟩
  go_wp2_with fail
  refine (drawnear_any a len cap W hC hl).mono ?_
  rintro r w1 ⟨n, x, ⟨hn0, hn1⟩, rfl, hb1⟩
  have D1 := Lib.hid (box_new w1 n x 25)
  have hB1 := hb1.alloc (B := W.heap.size) hb1.size (.cells #[.int .i64 n, .int .i64 x] 25)
  clear hb1
  go_wp2_with fail
  generalize hV1 : w1.alloc (.cells #[.int .i64 n, .int .i64 x] 25) = V1 at *
  clear hV1
  obtain ⟨rd, hrd⟩ : ∃ r, r = w1.heap.size := ⟨_, rfl⟩
  rw [← hrd] at D1 ⊢
  clear hrd
  refine (near_impl n x V1 hn0 hn1).mono ?_
  rintro r w2 ⟨M, E, ok, rfl, hM, hb2⟩
  have hMh := Lib.hid hM
  clear hM
  have F2 := Lib.hid (box_new w2 M E 28)
  have D2 := Lib.hid (box_next (box_next D1.out hb2) (fbox w2 (.cells #[.int .i64 M, .int .i64 E] 28)))
  have hB2 := (hB1.trans (hb2.mono hB1.size)).alloc (B := W.heap.size) (Nat.le_trans hB1.size hb2.size) (.cells #[.int .i64 M, .int .i64 E] 28)
  clear hb2 D1 hB1
  have d0 := D2.out.1
  have d1 := D2.out.2.1
  go_wp2_with fail
  generalize hV2 : w2.alloc (.cells #[.int .i64 M, .int .i64 E] 28) = V2 at *
  clear hV2 d0 d1
  obtain ⟨rf, hrf⟩ : ∃ r, r = w2.heap.size := ⟨_, rfl⟩
  rw [← hrf] at F2 ⊢
  clear hrf
  refine (near_spec n x V2 hn0 hn1).mono ?_
  rintro r w3 ⟨M2, E2, ok2, rfl, hM2, hb3⟩
  obtain ⟨rfl, rfl, rfl⟩ := isNear_uniq hM2 hMh.out
  clear hM2
  have G3 := Lib.hid (box_new w3 M E 28)
  have D3 := Lib.hid (box_next (box_next D2.out hb3) (fbox w3 (.cells #[.int .i64 M, .int .i64 E] 28)))
  have F3 := Lib.hid (box_next (box_next F2.out hb3) (fbox w3 (.cells #[.int .i64 M, .int .i64 E] 28)))
  have hB3 := (hB2.trans (hb3.mono hB2.size)).alloc (B := W.heap.size) (Nat.le_trans hB2.size hb3.size) (.cells #[.int .i64 M, .int .i64 E] 28)
  clear hb3 D2 F2 hB2
  go_wp2_with fail
  generalize hV3 : w3.alloc (.cells #[.int .i64 M, .int .i64 E] 28) = V3 at *
  clear hV3
  obtain ⟨rg, hrg⟩ : ∃ r, r = w3.heap.size := ⟨_, rfl⟩
  rw [← hrg] at G3 ⊢
  clear hrg
  refine (drawexact_any a len cap V3 (hC.below hB3) hl).mono ?_
  rintro r w4 ⟨n2, x2, ⟨hm0, hm1⟩, rfl, hb4⟩
  have E4 := Lib.hid (box_new w4 n2 x2 25)
  have D4 := Lib.hid (box_next (box_next D3.out hb4) (fbox w4 (.cells #[.int .i64 n2, .int .i64 x2] 25)))
  have F4 := Lib.hid (box_next (box_next F3.out hb4) (fbox w4 (.cells #[.int .i64 n2, .int .i64 x2] 25)))
  have G4 := Lib.hid (box_next (box_next G3.out hb4) (fbox w4 (.cells #[.int .i64 n2, .int .i64 x2] 25)))
  have hB4 := (hB3.trans (hb4.mono hB3.size)).alloc (B := W.heap.size) (Nat.le_trans hB3.size hb4.size) (.cells #[.int .i64 n2, .int .i64 x2] 25)
  clear hb4 D3 F3 G3 hB3 hC
  go_wp2_with fail
  generalize hV4 : w4.alloc (.cells #[.int .i64 n2, .int .i64 x2] 25) = V4 at *
  clear hV4
  obtain ⟨re, hre⟩ : ∃ r, r = w4.heap.size := ⟨_, rfl⟩
  rw [← hre] at E4 ⊢
  clear hre
  refine (near_impl n2 x2 V4 hm0 hm1).mono ?_
  rintro r w5 ⟨K, J, may, rfl, hK, hb5⟩
  have hKh := Lib.hid hK
  clear hK
  obtain ⟨W0, hW0⟩ : ∃ W0 : World, W0 = w5.alloc (.cells #[.int .i64 K, .int .i64 J] 28) := ⟨_, rfl⟩
  obtain ⟨rh, hrh⟩ : ∃ r, r = w5.heap.size := ⟨_, rfl⟩
  have H0 : Box W0 rh K J := by rw [hW0, hrh]; exact box_new w5 K J 28
  have D0 : Box W0 rd n x := by rw [hW0]; exact box_next (box_next D4.out hb5) (fbox _ _)
  have F0 : Box W0 rf M E := by rw [hW0]; exact box_next (box_next F4.out hb5) (fbox _ _)
  have G0 : Box W0 rg M E := by rw [hW0]; exact box_next (box_next G4.out hb5) (fbox _ _)
  have E0 : Box W0 re n2 x2 := by rw [hW0]; exact box_next (box_next E4.out hb5) (fbox _ _)
  have hB0 : Below W.heap.size W W0 := by rw [hW0]; exact (hB4.trans (hb5.mono hB4.size)).alloc (B := W.heap.size) (Nat.le_trans hB4.size hb5.size) _
  clear hb5 D4 F4 G4 E4 hB4
  have hkeep : ∀ W' : World, Below W0.heap.size W0 W' → W0.heap.size ≤ W'.heap.size → Below W0.heap.size W0 W' ∧ W0.heap.size ≤ W'.heap.size ∧ W'.cell? ⟨rd, 0, none⟩ = some (.int .i64 n) ∧ W'.cell? ⟨rd, 1, none⟩ = some (.int .i64 x) ∧ W'.cell? ⟨rf, 0, none⟩ = some (.int .i64 M) ∧ W'.cell? ⟨rf, 1, none⟩ = some (.int .i64 E) ∧ W'.cell? ⟨rg, 0, none⟩ = some (.int .i64 M) ∧ W'.cell? ⟨rg, 1, none⟩ = some (.int .i64 E) ∧ W'.cell? ⟨re, 0, none⟩ = some (.int .i64 n2) ∧ W'.cell? ⟨re, 1, none⟩ = some (.int .i64 x2) ∧ W'.cell? ⟨rh, 0, none⟩ = some (.int .i64 K) ∧ W'.cell? ⟨rh, 1, none⟩ = some (.int .i64 J) := fun W' hb hN =>
    ⟨hb, hN, (box_next D0 hb).1, (box_next D0 hb).2.1, (box_next F0 hb).1, (box_next F0 hb).2.1, (box_next G0 hb).1, (box_next G0 hb).2.1, (box_next E0 hb).1, (box_next E0 hb).2.1, (box_next H0 hb).1, (box_next H0 hb).2.1⟩
  have hend : ∀ W', Below W0.heap.size W0 W' → Below W.heap.size W W' := fun W' hb => hB0.trans (hb.mono hB0.size)
  clear D0 F0 G0 E0 H0 hB0
  have hB := Below.refl W0.heap.size W0
  have hN0 := Nat.le_refl W0.heap.size
  have cEi := relCall (N := W0.heap.size) (W0 := W0) (exact_known_impl hKh.out hm0 hm1)
  have cEs := relCall (N := W0.heap.size) (W0 := W0) (exact_known_spec hKh.out hm0 hm1)
  have cDi := relCall (N := W0.heap.size) (W0 := W0) (exact_known_impl hMh.out hn0 hn1)
  obtain ⟨u0, u1, u2, _, _⟩ := fltOk_range (isNear_okAll hMh.out)
  obtain ⟨t0, t1, t2, _, _⟩ := fltOk_range (isNear_okAll hKh.out)
  have cFo := relCall (N := W0.heap.size) (W0 := W0) (fun W => fltok_impl M E W (by omega) (by omega) (by omega) (by omega))
  rw [isNear_okAll hMh.out] at cFo
  have cFd := relCall (N := W0.heap.size) (W0 := W0) (fun W => fltdec_impl M E W (by omega) (by omega) (by omega) (by omega))
  have cLd := relCall (N := W0.heap.size) (W0 := W0) (fun W => less_impl n x n2 x2 W hn0 hn1 hm0 hm1)
  have cLf := relCall (N := W0.heap.size) (W0 := W0) (fun W => lessflt_impl K J M E W (by omega) (by omega) (by omega) (by omega) (by omega) (by omega) (by omega) (by omega))
  have hmono := Lib.hid (show ok = true → may = true → lessB n x n2 x2 = true → lessF K J M E = false from fun h k l => by subst h k; exact near_mono hMh.out hKh.out l)
  have hsign := Lib.hid (show ok = true → (0 < n → 0 ≤ M) ∧ (n < 0 → M ≤ 0) from fun h => by subst h; exact near_sign hMh.out)
  have hbad := Lib.hid (show ok = false → M = 0 ∧ E = 0 from fun h => by subst h; exact isNear_bad hMh.out)
  have hg := fun x y xs ys w => run_eqGuard_agg (P := Try.prog) w .neq 28 x y xs ys (by kernel_rfl)
  have hgd := fun x y xs ys w => run_eqGuard_agg (P := Try.prog) w .eql 25 x y xs ys (by kernel_rfl)
  have hq := fun w => flt_neq M E M E w
  rw [show (!(M == M && E == E)) = false by simp] at hq
  have hqd := fun w => dec_eql (decFN M E) (decFX M E) n x w
  obtain ⟨c, hc⟩ : ∃ c, (decFN M E == n && decFX M E == x) = c := ⟨_, rfl⟩
  rw [hc] at hqd cDi
  obtain ⟨be, hbe⟩ : ∃ b, (may && (decFN K J == n2 && decFX K J == x2)) = b := ⟨_, rfl⟩
  rw [hbe] at cEi cEs
  have hbb : (be != be) = false := bne_self_eq_false be
  have hoo : (ok != ok) = false := bne_self_eq_false ok
  have hcc : (c == c) = true := beq_self_eq_true c
  unfold FDecPost at cFd
  clear hc hbe hMh hKh u0 u1 u2 t0 t1 t2 hn0 hn1 hm0 hm1
  generalize decFN M E = dn at *
  generalize decFX M E = dx at *
  generalize lessB n x n2 x2 = ls at *
  generalize lessF K J M E = lf at *
  go_wp2_with fail
  rw [← hW0, ← hrh]
  clear hW0 hrh
  obtain ⟨_, _, _, _, _, _, _, _, _, _⟩ := (hkeep _ hB hN0).2.2
  go_cut [56] from 12 (fun v wx => v = .bool false ∧ Below W0.heap.size W0 wx ∧ W0.heap.size ≤ wx.heap.size)
  case first =>
    cases ok
    · obtain ⟨rfl, rfl⟩ := hbad.out rfl
      clear hmono hsign hbad cDi cFo cFd cLd cLf
      go_region_held3 (fun W' => Below W0.heap.size W0 W' ∧ W0.heap.size ≤ W'.heap.size ∧ W'.cell? ⟨rd, 0, none⟩ = some (.int .i64 n) ∧ W'.cell? ⟨rd, 1, none⟩ = some (.int .i64 x) ∧ W'.cell? ⟨rf, 0, none⟩ = some (.int .i64 0) ∧ W'.cell? ⟨rf, 1, none⟩ = some (.int .i64 0) ∧ W'.cell? ⟨rg, 0, none⟩ = some (.int .i64 0) ∧ W'.cell? ⟨rg, 1, none⟩ = some (.int .i64 0) ∧ W'.cell? ⟨re, 0, none⟩ = some (.int .i64 n2) ∧ W'.cell? ⟨re, 1, none⟩ = some (.int .i64 x2) ∧ W'.cell? ⟨rh, 0, none⟩ = some (.int .i64 K) ∧ W'.cell? ⟨rh, 1, none⟩ = some (.int .i64 J)) (first | (refine hkeep _ ?_ ?_ <;> assumption) | (refine hkeep _ (Below.drew ?_) ?_ <;> assumption)) ((first | (go_at_call 15; go_split_ands; refine (cEi _ ?_ ?_).mono ?_; assumption; assumption; rintro r w' ⟨rfl, hb', hN'⟩) | (go_at_call 16; go_split_ands; refine (cEs _ ?_ ?_).mono ?_; assumption; assumption; rintro r w' ⟨rfl, hb', hN'⟩)))
      all_goals
        go_split_ands
        go_wp2
        go_meet
        case rel => exact ⟨rfl, by assumption, by assumption⟩
    · clear hmono hsign hbad cDi cFo cFd cLd cLf
      refine wp_region_noPanic ?_
      refine wp_region_held_drew (S := (fun W' => Below W0.heap.size W0 W' ∧ W0.heap.size ≤ W'.heap.size ∧ W'.cell? ⟨rd, 0, none⟩ = some (.int .i64 n) ∧ W'.cell? ⟨rd, 1, none⟩ = some (.int .i64 x) ∧ W'.cell? ⟨rf, 0, none⟩ = some (.int .i64 M) ∧ W'.cell? ⟨rf, 1, none⟩ = some (.int .i64 E) ∧ W'.cell? ⟨rg, 0, none⟩ = some (.int .i64 M) ∧ W'.cell? ⟨rg, 1, none⟩ = some (.int .i64 E) ∧ W'.cell? ⟨re, 0, none⟩ = some (.int .i64 n2) ∧ W'.cell? ⟨re, 1, none⟩ = some (.int .i64 x2) ∧ W'.cell? ⟨rh, 0, none⟩ = some (.int .i64 K) ∧ W'.cell? ⟨rh, 1, none⟩ = some (.int .i64 J))) (by kernel_rfl) ?_ (fun hHeld => ?_)
      · exact hkeep _ (Below.drew (by assumption)) (by assumption)
      refine wpAnyH_take (i := 0) (oi := { dst := some 33, op := Op.load 28 (Operand.tmp 4), type := 28, pos := "laws.go:337", after := #[], guard := none }) (v := .agg #[.int .i64 M, .int .i64 E]) rfl (by kernel_rfl) (by kernel_rfl) (by kernel_rfl) (fun _ _ _ h => h) (Or.inl ⟨by rfl, ?_⟩) (by assumption) ?_
      · intro w hSw
        (try dsimp only at hSw)
        go_simp
        try with_reducible rfl
      (try simp only [Act.put, List.setIfInBounds_toArray, List.set_cons_zero, List.set_cons_succ])
      refine wpAnyH_take (i := 1) (oi := { dst := some 34, op := Op.load 28 (Operand.tmp 6), type := 28, pos := "laws.go:337", after := #[], guard := none }) (v := .agg #[.int .i64 M, .int .i64 E]) rfl (by kernel_rfl) (by kernel_rfl) (by kernel_rfl) (fun _ _ _ h => h) (Or.inl ⟨by rfl, ?_⟩) (by assumption) ?_
      · intro w hSw
        (try dsimp only at hSw)
        go_simp
        try with_reducible rfl
      (try simp only [Act.put, List.setIfInBounds_toArray, List.set_cons_zero, List.set_cons_succ])
      refine wpAnyH_take (i := 2) (oi := { dst := some 35, op := Op.binOp BinOp.neq 28 (Operand.tmp 33) (Operand.tmp 34) 28, type := 4, pos := "laws.go:337", after := #[{ on := 0, ground := Ground.data }, { on := 1, ground := Ground.data }], guard := none }) (v := .bool false) rfl (by kernel_rfl) (by kernel_rfl) (by kernel_rfl) (fun _ _ _ h => h) (Or.inl ⟨by rfl, ?_⟩) (by assumption) ?_
      · intro w hSw
        (try dsimp only at hSw)
        go_simp
        try with_reducible rfl
      (try simp only [Act.put, List.setIfInBounds_toArray, List.set_cons_zero, List.set_cons_succ])
      refine wpAnyH_take (i := 3) (oi := { dst := some 36, op := Op.move (Operand.tmp 35), type := 4, pos := "laws.go:337", after := #[{ on := 2, ground := Ground.data }], guard := none }) (v := .bool false) rfl (by kernel_rfl) (by kernel_rfl) (by kernel_rfl) (fun _ _ _ h => h) (Or.inl ⟨by rfl, ?_⟩) (by assumption) ?_
      · intro w hSw
        (try dsimp only at hSw)
        go_simp
        try with_reducible rfl
      (try simp only [Act.put, List.setIfInBounds_toArray, List.set_cons_zero, List.set_cons_succ])
      refine wpAnyH_take (i := 4) (oi := { dst := some 37, op := Op.move (Operand.tmp 5), type := 4, pos := "laws.go:337", after := #[{ on := 3, ground := Ground.guard }], guard := some (3, false) }) (v := .bool true) rfl (by kernel_rfl) (by kernel_rfl) (by kernel_rfl) (fun _ _ _ h => h) (Or.inl ⟨by rfl, ?_⟩) (by assumption) ?_
      · intro w hSw
        (try dsimp only at hSw)
        go_simp
        try with_reducible rfl
      (try simp only [Act.put, List.setIfInBounds_toArray, List.set_cons_zero, List.set_cons_succ])
      refine wpAnyH_take (i := 5) (oi := { dst := some 38, op := Op.move (Operand.tmp 7), type := 4, pos := "laws.go:337", after := #[{ on := 3, ground := Ground.guard }], guard := some (3, false) }) (v := .bool true) rfl (by kernel_rfl) (by kernel_rfl) (by kernel_rfl) (fun _ _ _ h => h) (Or.inl ⟨by rfl, ?_⟩) (by assumption) ?_
      · intro w hSw
        (try dsimp only at hSw)
        go_simp
        try with_reducible rfl
      (try simp only [Act.put, List.setIfInBounds_toArray, List.set_cons_zero, List.set_cons_succ])
      refine wpAnyH_take (i := 6) (oi := { dst := some 39, op := Op.binOp BinOp.neq 4 (Operand.tmp 37) (Operand.tmp 38) 4, type := 4, pos := "laws.go:337", after := #[{ on := 4, ground := Ground.data }, { on := 5, ground := Ground.data }, { on := 3, ground := Ground.guard }], guard := some (3, false) }) (v := .bool false) rfl (by kernel_rfl) (by kernel_rfl) (by kernel_rfl) (fun _ _ _ h => h) (Or.inl ⟨by rfl, ?_⟩) (by assumption) ?_
      · intro w hSw
        (try dsimp only at hSw)
        go_simp
        try with_reducible rfl
      (try simp only [Act.put, List.setIfInBounds_toArray, List.set_cons_zero, List.set_cons_succ])
      refine wpAnyH_take (i := 7) (oi := { dst := some 40, op := Op.pick (Operand.tmp 36) (Operand.const (Value.bool true)) (Operand.tmp 39), type := 4, pos := "laws.go:337", after := #[{ on := 3, ground := Ground.data }, { on := 6, ground := Ground.data }], guard := none }) (v := .bool false) rfl (by kernel_rfl) (by kernel_rfl) (by kernel_rfl) (fun _ _ _ h => h) (Or.inl ⟨by rfl, ?_⟩) (by assumption) ?_
      · intro w hSw
        (try dsimp only at hSw)
        go_simp
        try with_reducible rfl
      (try simp only [Act.put, List.setIfInBounds_toArray, List.set_cons_zero, List.set_cons_succ])
      refine wpAnyH_take (i := 8) (oi := { dst := some 41, op := Op.move (Operand.tmp 40), type := 4, pos := "laws.go:337", after := #[{ on := 7, ground := Ground.data }, { on := 3, ground := Ground.chain }], guard := none }) (v := .bool false) rfl (by kernel_rfl) (by kernel_rfl) (by kernel_rfl) (fun _ _ _ h => h) (Or.inl ⟨by rfl, ?_⟩) (by assumption) ?_
      · intro w hSw
        (try dsimp only at hSw)
        go_simp
        try with_reducible rfl
      (try simp only [Act.put, List.setIfInBounds_toArray, List.set_cons_zero, List.set_cons_succ])
      refine wpAnyH_take (i := 9) (oi := { dst := some 42, op := Op.load 25 (Operand.tmp 8), type := 25, pos := "laws.go:337", after := #[{ on := 8, ground := Ground.guard }], guard := some (8, false) }) (v := .agg #[.int .i64 n2, .int .i64 x2]) rfl (by kernel_rfl) (by kernel_rfl) (by kernel_rfl) (fun _ _ _ h => h) (Or.inl ⟨by rfl, ?_⟩) (by assumption) ?_
      · intro w hSw
        (try dsimp only at hSw)
        go_simp
        try with_reducible rfl
      (try simp only [Act.put, List.setIfInBounds_toArray, List.set_cons_zero, List.set_cons_succ])
      refine wpAnyH_take (i := 11) (oi := { dst := some 44, op := Op.load 25 (Operand.tmp 8), type := 25, pos := "laws.go:337", after := #[{ on := 8, ground := Ground.guard }], guard := some (8, false) }) (v := .agg #[.int .i64 n2, .int .i64 x2]) rfl (by kernel_rfl) (by kernel_rfl) (by kernel_rfl) (fun _ _ _ h => h) (Or.inl ⟨by rfl, ?_⟩) (by assumption) ?_
      · intro w hSw
        (try dsimp only at hSw)
        go_simp
        try with_reducible rfl
      (try simp only [Act.put, List.setIfInBounds_toArray, List.set_cons_zero, List.set_cons_succ])
      refine wpAnyH_ready (rs := [10]) (by kernel_rfl) (by simp) ?_
      refine AllReadyH.cons (o := { dst := some 43, op := Op.call { callee := Callee.value (Operand.func 15), args := #[Operand.tmp 42], argTypes := #[25] }, type := 4, pos := "laws.go:337", after := #[{ on := 9, ground := Ground.data }, { on := 8, ground := Ground.chain }, { on := 8, ground := Ground.guard }], guard := some (8, false) }) rfl (fun K hK => ?_) AllReadyH.nil
      go_simp
      go_at_call 15
      go_split_ands
      refine (cEi _ ?_ ?_).mono ?_
      assumption
      assumption
      rintro e w' ⟨rfl, hb', hN'⟩
      go_wp2_with fail
      refine hK.out _ _ ?_ (fun hHeld => ?_)
      · exact hkeep _ hb' hN'
      clear hK K
      (try simp only [Act.put, List.setIfInBounds_toArray, List.set_cons_zero, List.set_cons_succ])
      refine wpAnyH_ready (rs := [12]) (by kernel_rfl) (by simp) ?_
      refine AllReadyH.cons (o := { dst := some 45, op := Op.call { callee := Callee.value (Operand.func 16), args := #[Operand.tmp 44], argTypes := #[25] }, type := 4, pos := "laws.go:337", after := #[{ on := 11, ground := Ground.data }, { on := 10, ground := Ground.chain }, { on := 8, ground := Ground.guard }], guard := some (8, false) }) rfl (fun K hK => ?_) AllReadyH.nil
      go_simp
      go_at_call 16
      go_split_ands
      refine (cEs _ ?_ ?_).mono ?_
      assumption
      assumption
      rintro e w' ⟨rfl, hb', hN'⟩
      go_wp2_with fail
      refine hK.out _ _ ?_ (fun hHeld => ?_)
      · exact hkeep _ hb' hN'
      clear hK K
      (try simp only [Act.put, List.setIfInBounds_toArray, List.set_cons_zero, List.set_cons_succ])
      refine wpAnyH_take (i := 13) (oi := { dst := some 46, op := Op.binOp BinOp.neq 4 (Operand.tmp 43) (Operand.tmp 45) 4, type := 4, pos := "laws.go:337", after := #[{ on := 10, ground := Ground.data }, { on := 12, ground := Ground.data }, { on := 8, ground := Ground.guard }], guard := some (8, false) }) (v := .bool false) rfl (by kernel_rfl) (by kernel_rfl) (by kernel_rfl) (fun _ _ _ h => h) (Or.inl ⟨by rfl, ?_⟩) (by assumption) ?_
      · intro w hSw
        (try dsimp only at hSw)
        go_simp
        try with_reducible rfl
      (try simp only [Act.put, List.setIfInBounds_toArray, List.set_cons_zero, List.set_cons_succ])
      refine wpAnyH_take (i := 14) (oi := { dst := some 47, op := Op.pick (Operand.tmp 41) (Operand.const (Value.bool true)) (Operand.tmp 46), type := 4, pos := "laws.go:337", after := #[{ on := 8, ground := Ground.data }, { on := 13, ground := Ground.data }], guard := none }) (v := .bool false) rfl (by kernel_rfl) (by kernel_rfl) (by kernel_rfl) (fun _ _ _ h => h) (Or.inl ⟨by rfl, ?_⟩) (by assumption) ?_
      · intro w hSw
        (try dsimp only at hSw)
        go_simp
        try with_reducible rfl
      (try simp only [Act.put, List.setIfInBounds_toArray, List.set_cons_zero, List.set_cons_succ])
      refine wpAnyH_take (i := 15) (oi := { dst := some 48, op := Op.move (Operand.tmp 47), type := 4, pos := "laws.go:337", after := #[{ on := 14, ground := Ground.data }, { on := 12, ground := Ground.chain }], guard := none }) (v := .bool false) rfl (by kernel_rfl) (by kernel_rfl) (by kernel_rfl) (fun _ _ _ h => h) (Or.inl ⟨by rfl, ?_⟩) (by assumption) ?_
      · intro w hSw
        (try dsimp only at hSw)
        go_simp
        try with_reducible rfl
      (try simp only [Act.put, List.setIfInBounds_toArray, List.set_cons_zero, List.set_cons_succ])
      refine wpAnyH_take (i := 16) (oi := { dst := some 49, op := Op.move (Operand.tmp 5), type := 4, pos := "laws.go:337", after := #[{ on := 15, ground := Ground.guard }], guard := some (15, false) }) (v := .bool true) rfl (by kernel_rfl) (by kernel_rfl) (by kernel_rfl) (fun _ _ _ h => h) (Or.inl ⟨by rfl, ?_⟩) (by assumption) ?_
      · intro w hSw
        (try dsimp only at hSw)
        go_simp
        try with_reducible rfl
      (try simp only [Act.put, List.setIfInBounds_toArray, List.set_cons_zero, List.set_cons_succ])
      refine wpAnyH_take (i := 17) (oi := { dst := some 50, op := Op.unOp UnOp.not 4 (Operand.tmp 49), type := 4, pos := "laws.go:337", after := #[{ on := 16, ground := Ground.data }, { on := 15, ground := Ground.guard }], guard := some (15, false) }) (v := .bool false) rfl (by kernel_rfl) (by kernel_rfl) (by kernel_rfl) (fun _ _ _ h => h) (Or.inl ⟨by rfl, ?_⟩) (by assumption) ?_
      · intro w hSw
        (try dsimp only at hSw)
        go_simp
        try with_reducible rfl
      (try simp only [Act.put, List.setIfInBounds_toArray, List.set_cons_zero, List.set_cons_succ])
      refine wpAnyH_take (i := 18) (oi := { dst := some 51, op := Op.move (Operand.tmp 50), type := 4, pos := "laws.go:337", after := #[{ on := 17, ground := Ground.data }, { on := 15, ground := Ground.chain }, { on := 15, ground := Ground.guard }], guard := some (15, false) }) (v := .bool false) rfl (by kernel_rfl) (by kernel_rfl) (by kernel_rfl) (fun _ _ _ h => h) (Or.inl ⟨by rfl, ?_⟩) (by assumption) ?_
      · intro w hSw
        (try dsimp only at hSw)
        go_simp
        try with_reducible rfl
      (try simp only [Act.put, List.setIfInBounds_toArray, List.set_cons_zero, List.set_cons_succ])
      refine wpAnyH_take (i := 19) (oi := { dst := some 52, op := Op.load 28 (Operand.tmp 4), type := 28, pos := "laws.go:337", after := #[{ on := 18, ground := Ground.guard }], guard := some (18, true) }) (v := undef) rfl (by kernel_rfl) (by kernel_rfl) (by kernel_rfl) (fun _ _ _ h => h) (Or.inr ⟨by rfl, rfl⟩) (by assumption) ?_
      (try simp only [Act.put, List.setIfInBounds_toArray, List.set_cons_zero, List.set_cons_succ])
      refine wpAnyH_take (i := 20) (oi := { dst := some 53, op := Op.build 28 #[], type := 28, pos := "laws.go:337", after := #[{ on := 18, ground := Ground.guard }], guard := some (18, true) }) (v := undef) rfl (by kernel_rfl) (by kernel_rfl) (by kernel_rfl) (fun _ _ _ h => h) (Or.inr ⟨by rfl, rfl⟩) (by assumption) ?_
      (try simp only [Act.put, List.setIfInBounds_toArray, List.set_cons_zero, List.set_cons_succ])
      refine wpAnyH_take (i := 21) (oi := { dst := some 54, op := Op.binOp BinOp.neq 28 (Operand.tmp 52) (Operand.tmp 53) 28, type := 4, pos := "laws.go:337", after := #[{ on := 19, ground := Ground.data }, { on := 20, ground := Ground.data }, { on := 18, ground := Ground.guard }], guard := some (18, true) }) (v := undef) rfl (by kernel_rfl) (by kernel_rfl) (by kernel_rfl) (fun _ _ _ h => h) (Or.inr ⟨by rfl, rfl⟩) (by assumption) ?_
      (try simp only [Act.put, List.setIfInBounds_toArray, List.set_cons_zero, List.set_cons_succ])
      refine wpAnyH_take (i := 22) (oi := { dst := some 55, op := Op.pick (Operand.tmp 51) (Operand.tmp 54) (Operand.const (Value.bool false)), type := 4, pos := "laws.go:337", after := #[{ on := 18, ground := Ground.data }, { on := 21, ground := Ground.data }, { on := 15, ground := Ground.guard }], guard := some (15, false) }) (v := .bool false) rfl (by kernel_rfl) (by kernel_rfl) (by kernel_rfl) (fun _ _ _ h => h) (Or.inl ⟨by rfl, ?_⟩) (by assumption) ?_
      · intro w hSw
        (try dsimp only at hSw)
        go_simp
        try with_reducible rfl
      (try simp only [Act.put, List.setIfInBounds_toArray, List.set_cons_zero, List.set_cons_succ])
      refine wpAnyH_take (i := 23) (oi := { dst := some 56, op := Op.pick (Operand.tmp 48) (Operand.const (Value.bool true)) (Operand.tmp 55), type := 4, pos := "laws.go:337", after := #[{ on := 15, ground := Ground.data }, { on := 22, ground := Ground.data }], guard := none }) (v := .bool false) rfl (by kernel_rfl) (by kernel_rfl) (by kernel_rfl) (fun _ _ _ h => h) (Or.inl ⟨by rfl, ?_⟩) (by assumption) ?_
      · intro w hSw
        (try dsimp only at hSw)
        go_simp
        try with_reducible rfl
      (try simp only [Act.put, List.setIfInBounds_toArray, List.set_cons_zero, List.set_cons_succ])
      refine wpAnyH_done (by kernel_rfl) ?_ _
      refine NoPanic.normal ?_
      go_split_ands
      go_wp2
      go_meet
      case rel => exact ⟨rfl, by assumption, by assumption⟩
  case rest =>
    obtain ⟨rfl, hB2, hN2⟩ := hcut
    clear hB hN0 cEi cEs hq hg hbb hoo
    obtain ⟨_, _, _, _, _, _, _, _, _, _⟩ := (hkeep _ hB2 hN2).2.2
    go_upto_region 10 with fail
    go_cut [82] from 12 (fun v wx => v = .bool false ∧ Below W0.heap.size W0 wx ∧ W0.heap.size ≤ wx.heap.size)
    case first =>
      cases ok
      · clear hmono hsign hbad cDi cFo cFd cLd cLf
        go_wp2_with fail
        go_meet
        case rel => exact ⟨rfl, hB2, hN2⟩
      · obtain ⟨s1, s2⟩ := hsign.out rfl
        clear hmono hsign hbad cDi cFd cLd cLf
        rcases Int.lt_trichotomy n 0 with hc | hc | hc
        · have s3 : decide (0 < M) = false := by have := s2 hc; simp; omega
          clear s1 s2
          go_wp2_with (go_at_call 17; refine (cFo _ hB2 hN2).mono ?_; rintro r w' ⟨rfl, hB3, hN3⟩; obtain ⟨_, _, _, _, _, _, _, _, _, _, _, _⟩ := hkeep _ hB3 hN3)
          go_meet
          case rel => exact ⟨rfl, hB3, hN3⟩
        · subst hc
          clear s1 s2
          go_wp2_with (go_at_call 17; refine (cFo _ hB2 hN2).mono ?_; rintro r w' ⟨rfl, hB3, hN3⟩; obtain ⟨_, _, _, _, _, _, _, _, _, _, _, _⟩ := hkeep _ hB3 hN3)
          go_meet
          case rel => exact ⟨rfl, hB3, hN3⟩
        · have s3 : decide (M < 0) = false := by have := s1 hc; simp; omega
          clear s1 s2
          go_wp2_with (go_at_call 17; refine (cFo _ hB2 hN2).mono ?_; rintro r w' ⟨rfl, hB3, hN3⟩; obtain ⟨_, _, _, _, _, _, _, _, _, _, _, _⟩ := hkeep _ hB3 hN3)
          go_meet
          case rel => exact ⟨rfl, hB3, hN3⟩
    case rest =>
      obtain ⟨rfl, hB3, hN3⟩ := hcut
      clear hB2 hN2 cFo hsign hbad
      cases ok
      · go_wp2
        go_ret
        exact ⟨rfl, hend _ hB3⟩
      · cases may
        · go_wp2
          go_ret
          exact ⟨rfl, hend _ hB3⟩
        · obtain ⟨_, _, _, _, _, _, _, _, _, _⟩ := (hkeep _ hB3 hN3).2.2
          go_wp2_with fail
          refine (cLd _ hB3 hN3).mono ?_
          clear hB3 hN3 cLd
          rintro r w7 ⟨rfl, hB4, hN4⟩
          obtain ⟨_, _, _, _, _, _, _, _, _, _⟩ := (hkeep _ hB4 hN4).2.2
          cases ls
          · clear hmono cLf
            go_wp2_with fail
            refine wp_region_noPanic ?_
            refine wp_region_held_drew (S := (fun W' => Below W0.heap.size W0 W' ∧ W0.heap.size ≤ W'.heap.size ∧ W'.cell? ⟨rd, 0, none⟩ = some (.int .i64 n) ∧ W'.cell? ⟨rd, 1, none⟩ = some (.int .i64 x) ∧ W'.cell? ⟨rf, 0, none⟩ = some (.int .i64 M) ∧ W'.cell? ⟨rf, 1, none⟩ = some (.int .i64 E) ∧ W'.cell? ⟨rg, 0, none⟩ = some (.int .i64 M) ∧ W'.cell? ⟨rg, 1, none⟩ = some (.int .i64 E) ∧ W'.cell? ⟨re, 0, none⟩ = some (.int .i64 n2) ∧ W'.cell? ⟨re, 1, none⟩ = some (.int .i64 x2) ∧ W'.cell? ⟨rh, 0, none⟩ = some (.int .i64 K) ∧ W'.cell? ⟨rh, 1, none⟩ = some (.int .i64 J))) (by kernel_rfl) ?_ (fun hHeld => ?_)
            · exact hkeep _ (Below.drew (by assumption)) (by assumption)
            refine wpAnyH_take (i := 0) (oi := { dst := some 92, op := Op.move (Operand.tmp 11), type := 4, pos := "laws.go:347", after := #[], guard := none }) (v := .bool false) rfl (by kernel_rfl) (by kernel_rfl) (by kernel_rfl) (fun _ _ _ h => h) (Or.inl ⟨by rfl, ?_⟩) (by assumption) ?_
            · intro w hSw
              (try dsimp only at hSw)
              go_simp
              try with_reducible rfl
            (try simp only [Act.put, List.setIfInBounds_toArray, List.set_cons_zero, List.set_cons_succ])
            refine wpAnyH_take (i := 1) (oi := { dst := some 93, op := Op.unOp UnOp.not 4 (Operand.tmp 92), type := 4, pos := "laws.go:347", after := #[{ on := 0, ground := Ground.data }], guard := none }) (v := .bool true) rfl (by kernel_rfl) (by kernel_rfl) (by kernel_rfl) (fun _ _ _ h => h) (Or.inl ⟨by rfl, ?_⟩) (by assumption) ?_
            · intro w hSw
              (try dsimp only at hSw)
              go_simp
              try with_reducible rfl
            (try simp only [Act.put, List.setIfInBounds_toArray, List.set_cons_zero, List.set_cons_succ])
            refine wpAnyH_take (i := 2) (oi := { dst := some 94, op := Op.move (Operand.tmp 93), type := 4, pos := "laws.go:347", after := #[{ on := 1, ground := Ground.data }], guard := none }) (v := .bool true) rfl (by kernel_rfl) (by kernel_rfl) (by kernel_rfl) (fun _ _ _ h => h) (Or.inl ⟨by rfl, ?_⟩) (by assumption) ?_
            · intro w hSw
              (try dsimp only at hSw)
              go_simp
              try with_reducible rfl
            (try simp only [Act.put, List.setIfInBounds_toArray, List.set_cons_zero, List.set_cons_succ])
            refine wpAnyH_take (i := 3) (oi := { dst := some 95, op := Op.load 28 (Operand.tmp 9), type := 28, pos := "laws.go:347", after := #[{ on := 2, ground := Ground.guard }], guard := some (2, false) }) (v := undef) rfl (by kernel_rfl) (by kernel_rfl) (by kernel_rfl) (fun _ _ _ h => h) (Or.inr ⟨by rfl, rfl⟩) (by assumption) ?_
            (try simp only [Act.put, List.setIfInBounds_toArray, List.set_cons_zero, List.set_cons_succ])
            refine wpAnyH_take (i := 4) (oi := { dst := some 96, op := Op.load 28 (Operand.tmp 4), type := 28, pos := "laws.go:347", after := #[{ on := 2, ground := Ground.guard }], guard := some (2, false) }) (v := undef) rfl (by kernel_rfl) (by kernel_rfl) (by kernel_rfl) (fun _ _ _ h => h) (Or.inr ⟨by rfl, rfl⟩) (by assumption) ?_
            (try simp only [Act.put, List.setIfInBounds_toArray, List.set_cons_zero, List.set_cons_succ])
            refine wpAnyH_take (i := 5) (oi := { dst := some 97, op := Op.call { callee := Callee.value (Operand.func 19), args := #[Operand.tmp 95, Operand.tmp 96], argTypes := #[28, 28] }, type := 4, pos := "laws.go:347", after := #[{ on := 3, ground := Ground.data }, { on := 4, ground := Ground.data }, { on := 2, ground := Ground.chain }, { on := 2, ground := Ground.guard }], guard := some (2, false) }) (v := undef) rfl (by kernel_rfl) (by kernel_rfl) (by kernel_rfl) (fun _ _ _ h => h) (Or.inr ⟨by rfl, rfl⟩) (by assumption) ?_
            (try simp only [Act.put, List.setIfInBounds_toArray, List.set_cons_zero, List.set_cons_succ])
            refine wpAnyH_take (i := 6) (oi := { dst := some 98, op := Op.unOp UnOp.not 4 (Operand.tmp 97), type := 4, pos := "laws.go:347", after := #[{ on := 5, ground := Ground.data }, { on := 2, ground := Ground.guard }], guard := some (2, false) }) (v := undef) rfl (by kernel_rfl) (by kernel_rfl) (by kernel_rfl) (fun _ _ _ h => h) (Or.inr ⟨by rfl, rfl⟩) (by assumption) ?_
            (try simp only [Act.put, List.setIfInBounds_toArray, List.set_cons_zero, List.set_cons_succ])
            refine wpAnyH_take (i := 7) (oi := { dst := some 99, op := Op.pick (Operand.tmp 94) (Operand.const (Value.bool true)) (Operand.tmp 98), type := 4, pos := "laws.go:347", after := #[{ on := 2, ground := Ground.data }, { on := 6, ground := Ground.data }], guard := none }) (v := .bool true) rfl (by kernel_rfl) (by kernel_rfl) (by kernel_rfl) (fun _ _ _ h => h) (Or.inl ⟨by rfl, ?_⟩) (by assumption) ?_
            · intro w hSw
              (try dsimp only at hSw)
              go_simp
              try with_reducible rfl
            (try simp only [Act.put, List.setIfInBounds_toArray, List.set_cons_zero, List.set_cons_succ])
            refine wpAnyH_take (i := 8) (oi := { dst := some 100, op := Op.move (Operand.tmp 99), type := 4, pos := "laws.go:347", after := #[{ on := 7, ground := Ground.data }, { on := 5, ground := Ground.chain }], guard := none }) (v := .bool true) rfl (by kernel_rfl) (by kernel_rfl) (by kernel_rfl) (fun _ _ _ h => h) (Or.inl ⟨by rfl, ?_⟩) (by assumption) ?_
            · intro w hSw
              (try dsimp only at hSw)
              go_simp
              try with_reducible rfl
            (try simp only [Act.put, List.setIfInBounds_toArray, List.set_cons_zero, List.set_cons_succ])
            refine wpAnyH_take (i := 9) (oi := { dst := some 101, op := Op.load 25 (Operand.tmp 3), type := 25, pos := "laws.go:347", after := #[{ on := 8, ground := Ground.guard }], guard := some (8, true) }) (v := .agg #[.int .i64 n, .int .i64 x]) rfl (by kernel_rfl) (by kernel_rfl) (by kernel_rfl) (fun _ _ _ h => h) (Or.inl ⟨by rfl, ?_⟩) (by assumption) ?_
            · intro w hSw
              (try dsimp only at hSw)
              go_simp
              try with_reducible rfl
            (try simp only [Act.put, List.setIfInBounds_toArray, List.set_cons_zero, List.set_cons_succ])
            refine wpAnyH_take (i := 11) (oi := { dst := some 103, op := Op.load 28 (Operand.tmp 4), type := 28, pos := "laws.go:347", after := #[{ on := 8, ground := Ground.guard }], guard := some (8, true) }) (v := .agg #[.int .i64 M, .int .i64 E]) rfl (by kernel_rfl) (by kernel_rfl) (by kernel_rfl) (fun _ _ _ h => h) (Or.inl ⟨by rfl, ?_⟩) (by assumption) ?_
            · intro w hSw
              (try dsimp only at hSw)
              go_simp
              try with_reducible rfl
            (try simp only [Act.put, List.setIfInBounds_toArray, List.set_cons_zero, List.set_cons_succ])
            refine wpAnyH_take (i := 13) (oi := { dst := some 105, op := Op.load 25 (Operand.tmp 3), type := 25, pos := "laws.go:347", after := #[{ on := 8, ground := Ground.guard }], guard := some (8, true) }) (v := .agg #[.int .i64 n, .int .i64 x]) rfl (by kernel_rfl) (by kernel_rfl) (by kernel_rfl) (fun _ _ _ h => h) (Or.inl ⟨by rfl, ?_⟩) (by assumption) ?_
            · intro w hSw
              (try dsimp only at hSw)
              go_simp
              try with_reducible rfl
            (try simp only [Act.put, List.setIfInBounds_toArray, List.set_cons_zero, List.set_cons_succ])
            refine wpAnyH_ready (rs := [10]) (by kernel_rfl) (by simp) ?_
            refine AllReadyH.cons (o := { dst := some 102, op := Op.call { callee := Callee.value (Operand.func 15), args := #[Operand.tmp 101], argTypes := #[25] }, type := 4, pos := "laws.go:347", after := #[{ on := 9, ground := Ground.data }, { on := 8, ground := Ground.chain }, { on := 8, ground := Ground.guard }], guard := some (8, true) }) rfl (fun K hK => ?_) AllReadyH.nil
            go_simp
            go_at_call 15
            go_split_ands
            refine (cDi _ ?_ ?_).mono ?_
            assumption
            assumption
            rintro e w' ⟨rfl, hb', hN'⟩
            go_wp2_with fail
            refine hK.out _ _ ?_ (fun hHeld => ?_)
            · exact hkeep _ hb' hN'
            clear hK K
            (try simp only [Act.put, List.setIfInBounds_toArray, List.set_cons_zero, List.set_cons_succ])
            refine wpAnyH_ready (rs := [12]) (by kernel_rfl) (by simp) ?_
            refine AllReadyH.cons (o := { dst := some 104, op := Op.call { callee := Callee.value (Operand.func 20), args := #[Operand.tmp 103], argTypes := #[28] }, type := 25, pos := "laws.go:347", after := #[{ on := 11, ground := Ground.data }, { on := 10, ground := Ground.chain }, { on := 8, ground := Ground.guard }], guard := some (8, true) }) rfl (fun K hK => ?_) AllReadyH.nil
            go_simp
            go_at_call 20
            go_split_ands
            refine (cFd _ ?_ ?_).mono ?_
            assumption
            assumption
            rintro e w' ⟨rfl, hb', hN'⟩
            go_wp2_with fail
            refine hK.out _ _ ?_ (fun hHeld => ?_)
            · exact hkeep _ hb' hN'
            clear hK K
            (try simp only [Act.put, List.setIfInBounds_toArray, List.set_cons_zero, List.set_cons_succ])
            refine wpAnyH_take (i := 14) (oi := { dst := some 106, op := Op.binOp BinOp.eql 25 (Operand.tmp 104) (Operand.tmp 105) 25, type := 4, pos := "laws.go:347", after := #[{ on := 12, ground := Ground.data }, { on := 13, ground := Ground.data }, { on := 8, ground := Ground.guard }], guard := some (8, true) }) (v := .bool c) rfl (by kernel_rfl) (by kernel_rfl) (by kernel_rfl) (fun _ _ _ h => h) (Or.inl ⟨by rfl, ?_⟩) (by assumption) ?_
            · intro w hSw
              (try dsimp only at hSw)
              go_simp
              try with_reducible rfl
            (try simp only [Act.put, List.setIfInBounds_toArray, List.set_cons_zero, List.set_cons_succ])
            refine wpAnyH_take (i := 15) (oi := { dst := some 107, op := Op.binOp BinOp.eql 4 (Operand.tmp 102) (Operand.tmp 106) 4, type := 4, pos := "laws.go:347", after := #[{ on := 10, ground := Ground.data }, { on := 14, ground := Ground.data }, { on := 8, ground := Ground.guard }], guard := some (8, true) }) (v := .bool true) rfl (by kernel_rfl) (by kernel_rfl) (by kernel_rfl) (fun _ _ _ h => h) (Or.inl ⟨by rfl, ?_⟩) (by assumption) ?_
            · intro w hSw
              (try dsimp only at hSw)
              go_simp
              try with_reducible rfl
            (try simp only [Act.put, List.setIfInBounds_toArray, List.set_cons_zero, List.set_cons_succ])
            refine wpAnyH_take (i := 16) (oi := { dst := some 108, op := Op.pick (Operand.tmp 100) (Operand.tmp 107) (Operand.const (Value.bool false)), type := 4, pos := "laws.go:347", after := #[{ on := 8, ground := Ground.data }, { on := 15, ground := Ground.data }], guard := none }) (v := .bool true) rfl (by kernel_rfl) (by kernel_rfl) (by kernel_rfl) (fun _ _ _ h => h) (Or.inl ⟨by rfl, ?_⟩) (by assumption) ?_
            · intro w hSw
              (try dsimp only at hSw)
              go_simp
              try with_reducible rfl
            (try simp only [Act.put, List.setIfInBounds_toArray, List.set_cons_zero, List.set_cons_succ])
            refine wpAnyH_take (i := 17) (oi := { dst := some 2, op := Op.assign (Operand.tmp 108), type := 4, pos := "laws.go:347", after := #[{ on := 16, ground := Ground.data }, { on := 12, ground := Ground.chain }, { on := 0, ground := Ground.phase }, { on := 1, ground := Ground.phase }, { on := 2, ground := Ground.phase }, { on := 3, ground := Ground.phase }, { on := 4, ground := Ground.phase }, { on := 5, ground := Ground.phase }, { on := 6, ground := Ground.phase }, { on := 7, ground := Ground.phase }, { on := 8, ground := Ground.phase }, { on := 9, ground := Ground.phase }, { on := 10, ground := Ground.phase }, { on := 11, ground := Ground.phase }, { on := 12, ground := Ground.phase }, { on := 13, ground := Ground.phase }, { on := 14, ground := Ground.phase }, { on := 15, ground := Ground.phase }, { on := 16, ground := Ground.phase }], guard := none }) (v := .bool true) rfl (by kernel_rfl) (by kernel_rfl) (by kernel_rfl) (fun _ _ _ h => h) (Or.inl ⟨by rfl, ?_⟩) (by assumption) ?_
            · intro w hSw
              (try dsimp only at hSw)
              go_simp
              try with_reducible rfl
            (try simp only [Act.put, List.setIfInBounds_toArray, List.set_cons_zero, List.set_cons_succ])
            refine wpAnyH_done (by kernel_rfl) ?_ _
            refine NoPanic.normal ?_
            go_split_ands
            go_wp2
            go_ret
            exact ⟨rfl, hend _ (by assumption)⟩
          · obtain rfl : lf = false := by have hm := hmono.out; simpa using hm
            clear hmono
            go_wp2_with fail
            go_region_held3 (fun W' => Below W0.heap.size W0 W' ∧ W0.heap.size ≤ W'.heap.size ∧ W'.cell? ⟨rd, 0, none⟩ = some (.int .i64 n) ∧ W'.cell? ⟨rd, 1, none⟩ = some (.int .i64 x) ∧ W'.cell? ⟨rf, 0, none⟩ = some (.int .i64 M) ∧ W'.cell? ⟨rf, 1, none⟩ = some (.int .i64 E) ∧ W'.cell? ⟨rg, 0, none⟩ = some (.int .i64 M) ∧ W'.cell? ⟨rg, 1, none⟩ = some (.int .i64 E) ∧ W'.cell? ⟨re, 0, none⟩ = some (.int .i64 n2) ∧ W'.cell? ⟨re, 1, none⟩ = some (.int .i64 x2) ∧ W'.cell? ⟨rh, 0, none⟩ = some (.int .i64 K) ∧ W'.cell? ⟨rh, 1, none⟩ = some (.int .i64 J)) (first | (refine hkeep _ ?_ ?_ <;> assumption) | (refine hkeep _ (Below.drew ?_) ?_ <;> assumption)) ((first | (go_at_call 19; go_split_ands; refine (cLf _ ?_ ?_).mono ?_; assumption; assumption; rintro r w' ⟨rfl, hb', hN'⟩) | (go_at_call 15; go_split_ands; refine (cDi _ ?_ ?_).mono ?_; assumption; assumption; rintro r w' ⟨rfl, hb', hN'⟩) | (go_at_call 20; go_split_ands; refine (cFd _ ?_ ?_).mono ?_; assumption; assumption; rintro r w' ⟨rfl, hb', hN'⟩)))
            all_goals
              go_split_ands
              go_wp2
              go_ret
              exact ⟨rfl, hend _ (by assumption)⟩

set_option maxRecDepth 100000 in
theorem contract (H : Type) (enc : TypeId × Value → H) (W : World) (base : Nat) (args : Array Value) (ds gs : List (DataW H)) (before : List MemPlace)
    (hval : ∀ (j : Nat) t v, Try.f3.params[j]? = some t → args[j]? = some v → Value.okWide Try.prog W .any base t v)
    (hW : DataW.Whole enc Try.prog Try.f3.params.toList Rows.fnNearsSpec.vars false W args.toList ds gs before)
    (hcond : ∀ k, (OpenSpec.ofChange Rows.fnNearsSpec).cond = some k → k H (ds ++ gs) = true)
    (hsz : (DataW.weightsEach Try.prog (Try.f3.params.toList ++ (OpenSpec.ofChange Rows.fnNearsSpec).bare.plain.varTypes Try.prog) (ds ++ gs)).all (· ≤ reachBytes) = true)
    (hL : laidMetH Try.prog Rows.fnNearsRow.laid W) :
    Calls Try.prog 3 args W fun e W' => ∃ v, e = .returned v ∧ Rows.fnNearsSpec.post enc Try.prog Try.f3 false true false false W args v W' := by
  have hW' := hW
  have hlt := hW'.lt
  obtain ⟨p, q, hA0, hV, rfl, hfz, hnd⟩ := hW
  have hA : DataW.TrodAll enc Try.prog W 0 (fun _ => true) true Try.f3.params.toList args.toList ds p := hA0
  rw [Try.params3] at hA hval hsz
  obtain ⟨v0, vs0, d0, ds0, p0, q0, hargs, rfl, rfl, h0, r0⟩ := trodAll_cons hA
  obtain ⟨rfl, rfl, rfl⟩ := trodAll_nil r0
  obtain rfl : args = #[v0] := by cases args; simp_all
  obtain ⟨rfl, rfl⟩ := trodVars_none hV
  simp only [List.append_nil] at hW' hlt
  have hlt0 : ∀ x ∈ p0, x.block < W.heap.size := fun x hx => hlt x (by simp [hx])
  have hk0 := h0
  clear hA0 hA
  have fin : ∀ W' : World, Below W.heap.size W W' → Rows.fnNearsSpec.post enc Try.prog Try.f3 false true false false W _ (.bool true) W' := fun W' hb =>
    ⟨_, _, _, [], _, [], hW', trodAll_mk1 (shut_bool Try.underlying4 _), (trodAll_cons_mk (Below.trod laidOut (by kernel_rfl) (of_decide_eq_true (by kernel_rfl)) hk0 hb hlt0) trodAll_mk0), rfl, hb.frame _, fun h => by cases h⟩
  refine Calls.mono (R := fun e w' => e = .returned (.bool true) ∧ Below W.heap.size W w') ?_ (fun e W' h => ⟨_, h.1, fin W' h.2⟩)
  clear fin
  obtain ⟨a, len, cap, rfl, hC, hm⟩ := open_code (hval 0 _ v0 rfl rfl) h0 hlt0
  by_cases hl : 1048576 < len
  · exact walk_long a len cap W hl hm
  · exact walk a len cap W hC (by omega)

theorem laid_met (os : Os) : laidMet Try.prog Rows.fnNearsRow.laid (((World.holding Try.prog os ⟨#[], #[], []⟩)).forCall (fun _ _ => 0) ⟨#[], #[.slice none 0 0], []⟩).memory :=
  ⟨[], rfl, List.nodup_nil, fun _ _ h => by cases h⟩
theorem reads (os : Os) {H : Type} (enc : TypeId × Value → H) : ∃ places, DataW.whole enc Try.prog (((World.holding Try.prog os ⟨#[], #[], []⟩)).forCall (fun _ _ => 0) ⟨#[], #[.slice none 0 0], []⟩).memory Try.f3.params.toList Rows.fnNearsSpec.vars false (#[.slice none 0 0] : Array Value).toList 8 = some ([.nil], [], places) :=
  ⟨[], by kernel_rfl⟩

set_option maxRecDepth 100000 in
theorem lifted (os : Os) (started : os.Started) (H : Type) (enc : TypeId × Value → H) (F : Stop.Interp) :
    ReturnsInHanded {} Try.checked os 3 .any ((OpenSpec.ofChange Rows.fnNearsSpec).preRow enc Try.prog Try.f3 Rows.fnNearsRow.domain false Rows.fnNearsRow.laid) (((OpenSpec.ofChange Rows.fnNearsSpec).at F).post enc Try.prog Try.f3 false true false false) := by
  obtain ⟨places, hx⟩ := reads os enc
  refine returnsInHanded_of_row (C := Try.checked) (s := OpenSpec.ofChange Rows.fnNearsSpec) own started (by kernel_rfl) Try.func3
    (witness_row_at (enc := enc) (C := Try.checked) false (World.holding Try.prog os ⟨#[], #[], []⟩) #[.slice none 0 0] rfl (by kernel_rfl) (by kernel_rfl) (by kernel_rfl)
      (OpenSpec.preRow_of_cond 8 hx (by kernel_rfl) (fun k hk => by cases hk) (by kernel_rfl) (laid_met os))) ?_
  intro W base args ds gs before hval hW _ hcond hsz hL _ _
  exact contract H enc W base args ds gs before hval hW hcond hsz hL

theorem said : Rows.FnNearsSaid :=
  OpenClaim.holds_of_cond 3 Try.f3 rfl rfl rfl rfl rfl rfl rfl ⟨rfl, rfl, rfl, rfl, rfl⟩ rfl rfl rfl rfl rfl (by kernel_rfl) Try.func3 (by kernel_rfl)
    (of_decide_eq_true (by kernel_rfl)) (by unfold Func.isWrapper; first | (rw [if_pos (by decide +kernel)]; kernel_rfl) | (rw [if_neg (by decide +kernel)]; exact ⟨rfl, rfl⟩))
    (fun os started H enc _ F => by rw [OpenClaim.pre_eq_preRow]; exact lifted os started H enc F)

theorem proved : Rows.FnNearsSaid := said
#print axioms proved
end Go.Proofs.Ytjfjbocaplpdfaa.fnNears
