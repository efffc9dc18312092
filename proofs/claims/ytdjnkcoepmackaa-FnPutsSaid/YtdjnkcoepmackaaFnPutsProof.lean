/- For every input the law FnPuts returns true and its arguments read afterwards as they read before; beside what the row states there is no condition. -/
import Derived.Test.YtdjnkcoepmackaaRows
import Derived.WalkKit
import Derived.ProofKit
import Derived.OpenShut
import Derived.SizedLaws
import Derived.Carry
import Derived.Deep.DeepHandedRow


import Derived.Lib.LaidTab
import Derived.Stop.LaidErr
import Derived.Test.YtdjnkcoepmackaaG31
import Derived.Test.YtdjnkcoepmackaaG27
import Derived.Test.YtdjnkcoepmackaaG26
import Derived.Test.YtdjnkcoepmackaaG17
import Derived.Deep.RegionHeld3
import Derived.Deep.Cut

namespace Go.Proofs.Ytdjnkcoepmackaa.fnPuts
open Go.ChangeShapes Go.WideShapes Go.ChangeAt Go.RowKit
open Go.ChangeMaps (open_string shut_string)
set_option linter.unusedVariables false

theorem own : ownKnob Try.prog.godebug = none := by kernel_rfl
theorem laidOut : laidOutB Try.prog = true := by kernel_rfl

theorem walk_long (a : Option Addr) (len cap : Nat) (W : World) (h : 1048576 < len) (hm : len ≤ maxLen) : Calls Try.prog 8 #[.slice a len cap] W fun e w' => e = .returned (.bool true) ∧ Below W.heap.size W w' := by
  go_enter Try.func8, Try.ntmps8
  go_wp2_with (go_at_call 19; refine (big_yes a len cap _ h hm).mono ?_; rintro e w' ⟨rfl, rfl⟩)
  go_ret
  exact ⟨rfl, Below.refl _ _⟩
theorem relTree {f : FuncId} {args : Array Value} {v : Value} {W0 : World} (h : ∀ W, Below W0.heap.size W0 W → W0.heap.size ≤ W.heap.size → Calls Try.prog f args W fun e w' => e = .returned v ∧ Below W.heap.size W w') :
    ∀ W, Below W0.heap.size W0 W → W0.heap.size ≤ W.heap.size → Calls Try.prog f args W fun e w' => e = .returned v ∧ Below W0.heap.size W0 w' ∧ W0.heap.size ≤ w'.heap.size :=
  fun W hb hN => (h W hb hN).mono fun _ _ ⟨he, hb2⟩ => ⟨he, hb.trans (hb2.mono hN), Nat.le_trans hN hb2.size⟩
theorem put_to {f : FuncId} {args : Array Value} {w : World} {q r : PT × Bool} (h : Calls Try.prog f args w (LookPost w q)) (e : q = r) : Calls Try.prog f args w (LookPost w r) := e ▸ h
theorem same_yes (T U : AT) (w : World) (h : T.pt = U.pt) (hT : T.pt.Wf ∧ T.pt.sz ≤ 200000) (hU : U.pt.Wf ∧ U.pt.sz ≤ 200000) (iT : T.In w w.heap.size) (iU : U.In w w.heap.size) : Calls Try.prog 31 #[T.val, U.val] w fun e w' => e = .returned (.bool true) ∧ Below w.heap.size w w' :=
  (same_law T hT.1 U w w.heap.size hU.1 iT iU (Nat.le_refl _)).mono fun e w' ⟨he, hb⟩ => ⟨by rw [he, h, ptsame_refl], hb⟩
set_option maxRecDepth 100000 in
set_option maxHeartbeats 8000000 in
theorem walk (a : Option Addr) (len cap : Nat) (W : World) (hC : CodeAt W a len) (hl : len ≤ 1048576) : Calls Try.prog 8 #[.slice a len cap] W fun e w' => e = .returned (.bool true) ∧ Below W.heap.size W w' := by
  go_enter Try.func8, Try.ntmps8
  go_wp2_with fail
  refine (big_no a len cap _ hl).mono ?_
  rintro r w' ⟨rfl, rfl⟩
  go_wp2_with fail
  refine (drawputat_any a len cap W hC hl).mono ?_
  rintro r w1 ⟨T, X, P, rfl, hT, hX, hP, _, _, wT, wX, hPl, hB⟩
  have sT := wT.2
  have sX := wX.2
  replace wT : T.pt.Wf ∧ T.pt.sz ≤ 200000 := ⟨wT.1, by have := wT.2; omega⟩
  replace wX : X.pt.Wf ∧ X.pt.sz ≤ 200000 := ⟨wX.1, by have := wX.2; omega⟩
  have n3 := (Bx.new (t := 28) hT).step (vbox _ (.cells #[.int .i64 X.k, .int .i64 X.n, .int .i64 X.x, .string ⟨X.s.toArray⟩, .slice X.a X.l.length X.cap] 28))
  have n5 := Bx.new (t := 28) (hX.blw (vbox w1 (.cells #[.int .i64 T.k, .int .i64 T.n, .int .i64 T.x, .string ⟨T.s.toArray⟩, .slice T.a T.l.length T.cap] 28)))
  replace hP := ((hP.base (Nat.zero_le _)).blw (vbox w1 (.cells #[.int .i64 T.k, .int .i64 T.n, .int .i64 T.x, .string ⟨T.s.toArray⟩, .slice T.a T.l.length T.cap] 28))).blw (vbox _ (.cells #[.int .i64 X.k, .int .i64 X.n, .int .i64 X.x, .string ⟨X.s.toArray⟩, .slice X.a X.l.length X.cap] 28))
  replace hB := hB.trans ((boxes2 w1 (.cells #[.int .i64 T.k, .int .i64 T.n, .int .i64 T.x, .string ⟨T.s.toArray⟩, .slice T.a T.l.length T.cap] 28) (.cells #[.int .i64 X.k, .int .i64 X.n, .int .i64 X.x, .string ⟨X.s.toArray⟩, .slice X.a X.l.length X.cap] 28)).mono hB.size)
  go_wp2_with fail
  clear hT hX hC
  have hs9 : (w1.alloc (.cells #[.int .i64 T.k, .int .i64 T.n, .int .i64 T.x, .string ⟨T.s.toArray⟩, .slice T.a T.l.length T.cap] 28)).heap.size = w1.heap.size + 1 := by simp
  rw [hs9] at n5
  obtain ⟨V1, hV1⟩ : ∃ V, V = (w1.alloc (.cells #[.int .i64 T.k, .int .i64 T.n, .int .i64 T.x, .string ⟨T.s.toArray⟩, .slice T.a T.l.length T.cap] 28)).alloc (.cells #[.int .i64 X.k, .int .i64 X.n, .int .i64 X.x, .string ⟨X.s.toArray⟩, .slice X.a X.l.length X.cap] 28) := ⟨_, rfl⟩
  rw [← hV1] at n3 n5 hP hB ⊢
  obtain ⟨g5, hg5⟩ : ∃ g, g = w1.heap.size + 1 := ⟨_, rfl⟩
  rw [← hg5] at n5 ⊢
  obtain ⟨g3, hg3⟩ : ∃ g, g = w1.heap.size := ⟨_, rfl⟩
  rw [← hg3] at n3 ⊢
  clear hV1 hs9 hg3 hg5
  cases hput : PT.putO P.l T.pt X.pt with
  | none =>
    have hat := put_none P.l hput
    have hwy := wT
    refine (put_to (r := (T.pt, false)) (putat_impl T X P.l P.a P.cap V1 0 0 _ n3.2 n5.2 hP.sat (Nat.le_refl _) (by omega) (by omega) hPl) (by rw [hput]; rfl)).mono ?_
    rintro r w2 ⟨Y, hY, rfl, oY, _, b2⟩
    replace hY : Y.pt = T.pt := hY
    replace n3 := n3.step b2
    replace n5 := n5.step b2
    replace hP := hP.blw b2
    replace hB := hB.trans (b2.mono hB.size)
    obtain ⟨c3_0, c3_1, c3_2, c3_3, c3_4⟩ := n3.1
    have l3 := n3.lt
    obtain ⟨c5_0, c5_1, c5_2, c5_3, c5_4⟩ := n5.1
    have l5 := n5.lt
    go_wp2_with fail
    have n6 := Bx.new (t := 28) oY
    have d2 := vbox w2 (.cells #[.int .i64 Y.k, .int .i64 Y.n, .int .i64 Y.x, .string ⟨Y.s.toArray⟩, .slice Y.a Y.l.length Y.cap] 28)
    clear c3_0 c3_1 c3_2 c3_3 c3_4 l3 c5_0 c5_1 c5_2 c5_3 c5_4 l5
    replace n3 := n3.step d2
    replace n5 := n5.step d2
    replace hP := hP.blw d2
    replace hB := hB.trans (d2.mono hB.size)
    obtain ⟨V2, hV2⟩ : ∃ V, V = w2.alloc (.cells #[.int .i64 Y.k, .int .i64 Y.n, .int .i64 Y.x, .string ⟨Y.s.toArray⟩, .slice Y.a Y.l.length Y.cap] 28) := ⟨_, rfl⟩
    rw [← hV2] at n3 n5 n6 hP hB ⊢
    obtain ⟨g6, hg6⟩ : ∃ g, g = w2.heap.size := ⟨_, rfl⟩
    rw [← hg6] at n6 ⊢
    clear hV2 hg6 d2 b2 oY
    refine (put_to (r := (T.pt, false)) (putat_spec P.l P.a P.cap T X V2 _ n3.in n5.in hP.sat (by omega) (by omega) hPl (Nat.le_refl _)) (by rw [hput]; rfl)).mono ?_
    rintro r w3 ⟨Z, hZ, rfl, oZ, _, b3⟩
    replace hZ : Z.pt = T.pt := hZ
    replace n3 := n3.step b3
    replace n5 := n5.step b3
    replace n6 := n6.step b3
    replace hP := hP.blw b3
    replace hB := hB.trans (b3.mono hB.size)
    obtain ⟨c6_0, c6_1, c6_2, c6_3, c6_4⟩ := n6.1
    have l6 := n6.lt
    go_wp2_with fail
    have n8 := Bx.new (t := 28) oZ
    have d3 := vbox w3 (.cells #[.int .i64 Z.k, .int .i64 Z.n, .int .i64 Z.x, .string ⟨Z.s.toArray⟩, .slice Z.a Z.l.length Z.cap] 28)
    clear c6_0 c6_1 c6_2 c6_3 c6_4 l6
    replace n3 := n3.step d3
    replace n5 := n5.step d3
    replace n6 := n6.step d3
    replace hP := hP.blw d3
    replace hB := hB.trans (d3.mono hB.size)
    obtain ⟨V3, hV3⟩ : ∃ V, V = w3.alloc (.cells #[.int .i64 Z.k, .int .i64 Z.n, .int .i64 Z.x, .string ⟨Z.s.toArray⟩, .slice Z.a Z.l.length Z.cap] 28) := ⟨_, rfl⟩
    rw [← hV3] at n3 n5 n6 n8 hP hB ⊢
    obtain ⟨g8, hg8⟩ : ∃ g, g = w3.heap.size := ⟨_, rfl⟩
    rw [← hg8] at n8 ⊢
    clear hV3 hg8 d3 b3 oZ
    have hYZ : Y.pt = Z.pt := hY.trans hZ.symm
    have wY : Y.pt.Wf ∧ Y.pt.sz ≤ 200000 := by rw [hY]; exact hwy
    have wZ : Z.pt.Wf ∧ Z.pt.sz ≤ 200000 := by rw [hZ]; exact hwy
    refine (same_yes Y Z V3 hYZ wY wZ n6.in n8.in).mono ?_
    rintro r w4 ⟨rfl, b4⟩
    replace n3 := n3.step b4
    replace n5 := n5.step b4
    replace n6 := n6.step b4
    replace n8 := n8.step b4
    replace hP := hP.blw b4
    replace hB := hB.trans (b4.mono hB.size)
    clear b4
    obtain ⟨c3_0, c3_1, c3_2, c3_3, c3_4⟩ := n3.1
    have l3 := n3.lt
    go_wp2_with fail
    refine (put_to (r := (zeroPT, false)) (atpath_impl T P.l P.a P.cap w4 0 _ n3.2 hP.sat (Nat.le_refl _) (by omega) hPl) (by rw [hat]; rfl)).mono ?_
    rintro r w5 ⟨O, hO, rfl, oO, _, b5⟩
    replace hO : O.pt = zeroPT := hO
    clear c3_0 c3_1 c3_2 c3_3 c3_4 l3
    replace n3 := n3.step b5
    replace n5 := n5.step b5
    replace n6 := n6.step b5
    replace n8 := n8.step b5
    replace hP := hP.blw b5
    replace hB := hB.trans (b5.mono hB.size)
    obtain ⟨c6_0, c6_1, c6_2, c6_3, c6_4⟩ := n6.1
    have l6 := n6.lt
    obtain ⟨c3_0, c3_1, c3_2, c3_3, c3_4⟩ := n3.1
    have l3 := n3.lt
    go_wp2_with fail
    have n10 := Bx.new (t := 28) oO
    have d5 := vbox w5 (.cells #[.int .i64 O.k, .int .i64 O.n, .int .i64 O.x, .string ⟨O.s.toArray⟩, .slice O.a O.l.length O.cap] 28)
    clear c6_0 c6_1 c6_2 c6_3 c6_4 l6 c3_0 c3_1 c3_2 c3_3 c3_4 l3
    replace n3 := n3.step d5
    replace n5 := n5.step d5
    replace n6 := n6.step d5
    replace n8 := n8.step d5
    replace hP := hP.blw d5
    replace hB := hB.trans (d5.mono hB.size)
    obtain ⟨V5, hV5⟩ : ∃ V, V = w5.alloc (.cells #[.int .i64 O.k, .int .i64 O.n, .int .i64 O.x, .string ⟨O.s.toArray⟩, .slice O.a O.l.length O.cap] 28) := ⟨_, rfl⟩
    rw [← hV5] at n3 n5 n6 n8 n10 hP hB ⊢
    obtain ⟨g10, hg10⟩ : ∃ g, g = w5.heap.size := ⟨_, rfl⟩
    rw [← hg10] at n10 ⊢
    clear hV5 hg10 d5 b5 oO
    have hYT : Y.pt = T.pt := hY
    refine (same_yes Y T V5 hYT wY wT n6.in n3.in).mono ?_
    rintro r w6 ⟨rfl, b6⟩
    replace n3 := n3.step b6
    replace n5 := n5.step b6
    replace n6 := n6.step b6
    replace n8 := n8.step b6
    replace n10 := n10.step b6
    replace hP := hP.blw b6
    replace hB := hB.trans (b6.mono hB.size)
    clear b6
    go_wp2
    go_ret
    exact ⟨rfl, hB⟩
  | some y =>
    obtain ⟨u, hat, hgot, hback, hcnt⟩ := put_back P.l hput
    have hwy : y.Wf ∧ y.sz ≤ 200000 := by have h := putO_wf P.l hput wT.1 wX.1; exact ⟨h.1, by have := h.2; omega⟩
    have hwu : u.Wf ∧ u.sz ≤ 200000 := by have h := at_wf P.l hat wT.1; exact ⟨h.1, by have := h.2; have := wT.2; omega⟩
    refine (put_to (r := (y, true)) (putat_impl T X P.l P.a P.cap V1 0 0 _ n3.2 n5.2 hP.sat (Nat.le_refl _) (by omega) (by omega) hPl) (by rw [hput]; rfl)).mono ?_
    rintro r w2 ⟨Y, hY, rfl, oY, _, b2⟩
    replace hY : Y.pt = y := hY
    replace n3 := n3.step b2
    replace n5 := n5.step b2
    replace hP := hP.blw b2
    replace hB := hB.trans (b2.mono hB.size)
    obtain ⟨c3_0, c3_1, c3_2, c3_3, c3_4⟩ := n3.1
    have l3 := n3.lt
    obtain ⟨c5_0, c5_1, c5_2, c5_3, c5_4⟩ := n5.1
    have l5 := n5.lt
    go_wp2_with fail
    have n6 := Bx.new (t := 28) oY
    have d2 := vbox w2 (.cells #[.int .i64 Y.k, .int .i64 Y.n, .int .i64 Y.x, .string ⟨Y.s.toArray⟩, .slice Y.a Y.l.length Y.cap] 28)
    clear c3_0 c3_1 c3_2 c3_3 c3_4 l3 c5_0 c5_1 c5_2 c5_3 c5_4 l5
    replace n3 := n3.step d2
    replace n5 := n5.step d2
    replace hP := hP.blw d2
    replace hB := hB.trans (d2.mono hB.size)
    obtain ⟨V2, hV2⟩ : ∃ V, V = w2.alloc (.cells #[.int .i64 Y.k, .int .i64 Y.n, .int .i64 Y.x, .string ⟨Y.s.toArray⟩, .slice Y.a Y.l.length Y.cap] 28) := ⟨_, rfl⟩
    rw [← hV2] at n3 n5 n6 hP hB ⊢
    obtain ⟨g6, hg6⟩ : ∃ g, g = w2.heap.size := ⟨_, rfl⟩
    rw [← hg6] at n6 ⊢
    clear hV2 hg6 d2 b2 oY
    refine (put_to (r := (y, true)) (putat_spec P.l P.a P.cap T X V2 _ n3.in n5.in hP.sat (by omega) (by omega) hPl (Nat.le_refl _)) (by rw [hput]; rfl)).mono ?_
    rintro r w3 ⟨Z, hZ, rfl, oZ, _, b3⟩
    replace hZ : Z.pt = y := hZ
    replace n3 := n3.step b3
    replace n5 := n5.step b3
    replace n6 := n6.step b3
    replace hP := hP.blw b3
    replace hB := hB.trans (b3.mono hB.size)
    obtain ⟨c6_0, c6_1, c6_2, c6_3, c6_4⟩ := n6.1
    have l6 := n6.lt
    go_wp2_with fail
    have n8 := Bx.new (t := 28) oZ
    have d3 := vbox w3 (.cells #[.int .i64 Z.k, .int .i64 Z.n, .int .i64 Z.x, .string ⟨Z.s.toArray⟩, .slice Z.a Z.l.length Z.cap] 28)
    clear c6_0 c6_1 c6_2 c6_3 c6_4 l6
    replace n3 := n3.step d3
    replace n5 := n5.step d3
    replace n6 := n6.step d3
    replace hP := hP.blw d3
    replace hB := hB.trans (d3.mono hB.size)
    obtain ⟨V3, hV3⟩ : ∃ V, V = w3.alloc (.cells #[.int .i64 Z.k, .int .i64 Z.n, .int .i64 Z.x, .string ⟨Z.s.toArray⟩, .slice Z.a Z.l.length Z.cap] 28) := ⟨_, rfl⟩
    rw [← hV3] at n3 n5 n6 n8 hP hB ⊢
    obtain ⟨g8, hg8⟩ : ∃ g, g = w3.heap.size := ⟨_, rfl⟩
    rw [← hg8] at n8 ⊢
    clear hV3 hg8 d3 b3 oZ
    have hYZ : Y.pt = Z.pt := hY.trans hZ.symm
    have wY : Y.pt.Wf ∧ Y.pt.sz ≤ 200000 := by rw [hY]; exact hwy
    have wZ : Z.pt.Wf ∧ Z.pt.sz ≤ 200000 := by rw [hZ]; exact hwy
    refine (same_yes Y Z V3 hYZ wY wZ n6.in n8.in).mono ?_
    rintro r w4 ⟨rfl, b4⟩
    replace n3 := n3.step b4
    replace n5 := n5.step b4
    replace n6 := n6.step b4
    replace n8 := n8.step b4
    replace hP := hP.blw b4
    replace hB := hB.trans (b4.mono hB.size)
    clear b4
    obtain ⟨c3_0, c3_1, c3_2, c3_3, c3_4⟩ := n3.1
    have l3 := n3.lt
    go_wp2_with fail
    refine (put_to (r := (u, true)) (atpath_impl T P.l P.a P.cap w4 0 _ n3.2 hP.sat (Nat.le_refl _) (by omega) hPl) (by rw [hat]; rfl)).mono ?_
    rintro r w5 ⟨O, hO, rfl, oO, _, b5⟩
    replace hO : O.pt = u := hO
    clear c3_0 c3_1 c3_2 c3_3 c3_4 l3
    replace n3 := n3.step b5
    replace n5 := n5.step b5
    replace n6 := n6.step b5
    replace n8 := n8.step b5
    replace hP := hP.blw b5
    replace hB := hB.trans (b5.mono hB.size)
    obtain ⟨c6_0, c6_1, c6_2, c6_3, c6_4⟩ := n6.1
    have l6 := n6.lt
    go_wp2_with fail
    have n10 := Bx.new (t := 28) oO
    have d5 := vbox w5 (.cells #[.int .i64 O.k, .int .i64 O.n, .int .i64 O.x, .string ⟨O.s.toArray⟩, .slice O.a O.l.length O.cap] 28)
    clear c6_0 c6_1 c6_2 c6_3 c6_4 l6
    replace n3 := n3.step d5
    replace n5 := n5.step d5
    replace n6 := n6.step d5
    replace n8 := n8.step d5
    replace hP := hP.blw d5
    replace hB := hB.trans (d5.mono hB.size)
    obtain ⟨V5, hV5⟩ : ∃ V, V = w5.alloc (.cells #[.int .i64 O.k, .int .i64 O.n, .int .i64 O.x, .string ⟨O.s.toArray⟩, .slice O.a O.l.length O.cap] 28) := ⟨_, rfl⟩
    rw [← hV5] at n3 n5 n6 n8 n10 hP hB ⊢
    obtain ⟨g10, hg10⟩ : ∃ g, g = w5.heap.size := ⟨_, rfl⟩
    rw [← hg10] at n10 ⊢
    clear hV5 hg10 d5 b5 oO
    have wO : O.pt.Wf ∧ O.pt.sz ≤ 200000 := by rw [hO]; exact hwu
    refine (put_to (r := (T.pt, true)) (putat_impl Y O P.l P.a P.cap V5 0 0 _ n6.2 n10.2 hP.sat (Nat.le_refl _) (by omega) (by omega) hPl) (by rw [hY, hO, hback]; rfl)).mono ?_
    rintro r w7 ⟨D, hD, rfl, oD, _, b7⟩
    replace hD : D.pt = T.pt := hD
    replace n3 := n3.step b7
    replace n5 := n5.step b7
    replace n6 := n6.step b7
    replace n8 := n8.step b7
    replace n10 := n10.step b7
    replace hP := hP.blw b7
    replace hB := hB.trans (b7.mono hB.size)
    obtain ⟨c6_0, c6_1, c6_2, c6_3, c6_4⟩ := n6.1
    have l6 := n6.lt
    go_wp2_with fail
    have n12 := Bx.new (t := 28) oD
    have d7 := vbox w7 (.cells #[.int .i64 D.k, .int .i64 D.n, .int .i64 D.x, .string ⟨D.s.toArray⟩, .slice D.a D.l.length D.cap] 28)
    clear c6_0 c6_1 c6_2 c6_3 c6_4 l6
    replace n3 := n3.step d7
    replace n5 := n5.step d7
    replace n6 := n6.step d7
    replace n8 := n8.step d7
    replace n10 := n10.step d7
    replace hP := hP.blw d7
    replace hB := hB.trans (d7.mono hB.size)
    obtain ⟨V7, hV7⟩ : ∃ V, V = w7.alloc (.cells #[.int .i64 D.k, .int .i64 D.n, .int .i64 D.x, .string ⟨D.s.toArray⟩, .slice D.a D.l.length D.cap] 28) := ⟨_, rfl⟩
    rw [← hV7] at n3 n5 n6 n8 n10 n12 hP hB ⊢
    obtain ⟨g12, hg12⟩ : ∃ g, g = w7.heap.size := ⟨_, rfl⟩
    rw [← hg12] at n12 ⊢
    clear hV7 hg12 d7 b7 oD
    refine (put_to (r := (X.pt, true)) (atpath_impl Y P.l P.a P.cap V7 0 _ n6.2 hP.sat (Nat.le_refl _) (by omega) hPl) (by rw [hY, hgot]; rfl)).mono ?_
    rintro r w8 ⟨G, hG, rfl, oG, _, b8⟩
    replace hG : G.pt = X.pt := hG
    replace n3 := n3.step b8
    replace n5 := n5.step b8
    replace n6 := n6.step b8
    replace n8 := n8.step b8
    replace n10 := n10.step b8
    replace n12 := n12.step b8
    replace hP := hP.blw b8
    replace hB := hB.trans (b8.mono hB.size)
    go_wp2_with fail
    have n14 := Bx.new (t := 28) oG
    have d8 := vbox w8 (.cells #[.int .i64 G.k, .int .i64 G.n, .int .i64 G.x, .string ⟨G.s.toArray⟩, .slice G.a G.l.length G.cap] 28)
    replace n3 := n3.step d8
    replace n5 := n5.step d8
    replace n6 := n6.step d8
    replace n8 := n8.step d8
    replace n10 := n10.step d8
    replace n12 := n12.step d8
    replace hP := hP.blw d8
    replace hB := hB.trans (d8.mono hB.size)
    obtain ⟨V8, hV8⟩ : ∃ V, V = w8.alloc (.cells #[.int .i64 G.k, .int .i64 G.n, .int .i64 G.x, .string ⟨G.s.toArray⟩, .slice G.a G.l.length G.cap] 28) := ⟨_, rfl⟩
    rw [← hV8] at n3 n5 n6 n8 n10 n12 n14 hP hB ⊢
    obtain ⟨g14, hg14⟩ : ∃ g, g = w8.heap.size := ⟨_, rfl⟩
    rw [← hg14] at n14 ⊢
    clear hV8 hg14 d8 b8 oG
    have hkeep : ∀ W' : World, Below V8.heap.size V8 W' → V8.heap.size ≤ W'.heap.size → Below V8.heap.size V8 W' ∧ V8.heap.size ≤ W'.heap.size ∧ W'.cell? ⟨g3, 0, none⟩ = some (.int .i64 T.k) ∧ W'.cell? ⟨g3, 1, none⟩ = some (.int .i64 T.n) ∧ W'.cell? ⟨g3, 2, none⟩ = some (.int .i64 T.x) ∧ W'.cell? ⟨g3, 3, none⟩ = some (.string ⟨T.s.toArray⟩) ∧ W'.cell? ⟨g3, 4, none⟩ = some (.slice T.a T.l.length T.cap) ∧ W'.cell? ⟨g5, 0, none⟩ = some (.int .i64 X.k) ∧ W'.cell? ⟨g5, 1, none⟩ = some (.int .i64 X.n) ∧ W'.cell? ⟨g5, 2, none⟩ = some (.int .i64 X.x) ∧ W'.cell? ⟨g5, 3, none⟩ = some (.string ⟨X.s.toArray⟩) ∧ W'.cell? ⟨g5, 4, none⟩ = some (.slice X.a X.l.length X.cap) ∧ W'.cell? ⟨g6, 0, none⟩ = some (.int .i64 Y.k) ∧ W'.cell? ⟨g6, 1, none⟩ = some (.int .i64 Y.n) ∧ W'.cell? ⟨g6, 2, none⟩ = some (.int .i64 Y.x) ∧ W'.cell? ⟨g6, 3, none⟩ = some (.string ⟨Y.s.toArray⟩) ∧ W'.cell? ⟨g6, 4, none⟩ = some (.slice Y.a Y.l.length Y.cap) ∧ W'.cell? ⟨g10, 0, none⟩ = some (.int .i64 O.k) ∧ W'.cell? ⟨g10, 1, none⟩ = some (.int .i64 O.n) ∧ W'.cell? ⟨g10, 2, none⟩ = some (.int .i64 O.x) ∧ W'.cell? ⟨g10, 3, none⟩ = some (.string ⟨O.s.toArray⟩) ∧ W'.cell? ⟨g10, 4, none⟩ = some (.slice O.a O.l.length O.cap) ∧ W'.cell? ⟨g12, 0, none⟩ = some (.int .i64 D.k) ∧ W'.cell? ⟨g12, 1, none⟩ = some (.int .i64 D.n) ∧ W'.cell? ⟨g12, 2, none⟩ = some (.int .i64 D.x) ∧ W'.cell? ⟨g12, 3, none⟩ = some (.string ⟨D.s.toArray⟩) ∧ W'.cell? ⟨g12, 4, none⟩ = some (.slice D.a D.l.length D.cap) ∧ W'.cell? ⟨g14, 0, none⟩ = some (.int .i64 G.k) ∧ W'.cell? ⟨g14, 1, none⟩ = some (.int .i64 G.n) ∧ W'.cell? ⟨g14, 2, none⟩ = some (.int .i64 G.x) ∧ W'.cell? ⟨g14, 3, none⟩ = some (.string ⟨G.s.toArray⟩) ∧ W'.cell? ⟨g14, 4, none⟩ = some (.slice G.a G.l.length G.cap) := fun W' hb hN =>
      ⟨hb, hN, (n3.step hb).1.c0, (n3.step hb).1.c1, (n3.step hb).1.c2, (n3.step hb).1.c3, (n3.step hb).1.c4, (n5.step hb).1.c0, (n5.step hb).1.c1, (n5.step hb).1.c2, (n5.step hb).1.c3, (n5.step hb).1.c4, (n6.step hb).1.c0, (n6.step hb).1.c1, (n6.step hb).1.c2, (n6.step hb).1.c3, (n6.step hb).1.c4, (n10.step hb).1.c0, (n10.step hb).1.c1, (n10.step hb).1.c2, (n10.step hb).1.c3, (n10.step hb).1.c4, (n12.step hb).1.c0, (n12.step hb).1.c1, (n12.step hb).1.c2, (n12.step hb).1.c3, (n12.step hb).1.c4, (n14.step hb).1.c0, (n14.step hb).1.c1, (n14.step hb).1.c2, (n14.step hb).1.c3, (n14.step hb).1.c4⟩
    have hend : ∀ W', Below V8.heap.size V8 W' → Below W.heap.size W W' := fun W' hb => hB.trans (hb.mono hB.size)
    have wD : D.pt.Wf ∧ D.pt.sz ≤ 200000 := by rw [hD]; exact wT
    have wG : G.pt.Wf ∧ G.pt.sz ≤ 200000 := by rw [hG]; exact wX
    have cS1 := relTree (W0 := V8) (fun W1 hb hN => same_yes D T W1 hD wD wT (n12.step hb).in (n3.step hb).in)
    have cS2 := relTree (W0 := V8) (fun W1 hb hN => same_yes G X W1 hG wG wX (n14.step hb).in (n5.step hb).in)
    have cC6 := relTree (W0 := V8) (fun W1 hb hN => count_impl Y W1 W1.heap.size (n6.step hb).in (Nat.le_refl _) (by have := wY.2; omega))
    have cC3 := relTree (W0 := V8) (fun W1 hb hN => count_impl T W1 W1.heap.size (n3.step hb).in (Nat.le_refl _) (by have := wT.2; omega))
    have cC10 := relTree (W0 := V8) (fun W1 hb hN => count_impl O W1 W1.heap.size (n10.step hb).in (Nat.le_refl _) (by have := wO.2; omega))
    have cC5 := relTree (W0 := V8) (fun W1 hb hN => count_impl X W1 W1.heap.size (n5.step hb).in (Nat.le_refl _) (by have := wX.2; omega))
    have k6 := cnt_le_sz Y.pt
    have k3 := cnt_le_sz T.pt
    have k10 := cnt_le_sz O.pt
    have k5 := cnt_le_sz X.pt
    have z6 := wY.2
    have z3 := wT.2
    have z10 := wO.2
    have z5 := wX.2
    have hcn : Y.pt.cnt + O.pt.cnt = T.pt.cnt + X.pt.cnt := by rw [hY, hO]; exact hcnt
    obtain ⟨cy, hcy⟩ : ∃ c : Nat, c = Y.pt.cnt := ⟨_, rfl⟩
    rw [← hcy] at cC6 hcn k6
    obtain ⟨ct, hct⟩ : ∃ c : Nat, c = T.pt.cnt := ⟨_, rfl⟩
    rw [← hct] at cC3 hcn k3
    obtain ⟨co, hco⟩ : ∃ c : Nat, c = O.pt.cnt := ⟨_, rfl⟩
    rw [← hco] at cC10 hcn k10
    obtain ⟨cx, hcx⟩ : ∃ c : Nat, c = X.pt.cnt := ⟨_, rfl⟩
    rw [← hcx] at cC5 hcn k5
    have hsub : IntKind.i64.wrap ((ct : Int) - co) = (ct : Int) - co := IntWalk.i64_in _ (by omega)
    have hadd : IntKind.i64.wrap ((ct : Int) - co + cx) = (cy : Int) := (IntWalk.i64_in _ (by omega)).trans (by omega)
    have hsub2 : wrap64 ((ct : Int) - co) = (ct : Int) - co := by unfold wrap64; omega
    have hadd2 : wrap64 ((ct : Int) - co + cx) = (cy : Int) := by unfold wrap64; omega
    have hB0 := Below.refl V8.heap.size V8
    have hN0 := Nat.le_refl V8.heap.size
    clear k6 k3 k10 k5 z6 z3 z10 z5 hcn hcy hct hco hcx wD wG wY wZ wO wT wX hwy hwu hY hZ hO hD hG hYZ hput hat hgot hback hcnt hPl hP hl sT sX n3 n5 n6 n8 n10 n12 n14 hB
    obtain ⟨_, _, _, _, _, _, _, _, _, _, _, _, _, _, _, _, _, _, _, _, _, _, _, _, _, _, _, _, _, _⟩ := (hkeep _ hB0 hN0).2.2
    refine wp_region_noPanic ?_
    refine wp_region_held_drew (S := (fun W' => Below V8.heap.size V8 W' ∧ V8.heap.size ≤ W'.heap.size ∧ W'.cell? ⟨g3, 0, none⟩ = some (.int .i64 T.k) ∧ W'.cell? ⟨g3, 1, none⟩ = some (.int .i64 T.n) ∧ W'.cell? ⟨g3, 2, none⟩ = some (.int .i64 T.x) ∧ W'.cell? ⟨g3, 3, none⟩ = some (.string ⟨T.s.toArray⟩) ∧ W'.cell? ⟨g3, 4, none⟩ = some (.slice T.a T.l.length T.cap) ∧ W'.cell? ⟨g5, 0, none⟩ = some (.int .i64 X.k) ∧ W'.cell? ⟨g5, 1, none⟩ = some (.int .i64 X.n) ∧ W'.cell? ⟨g5, 2, none⟩ = some (.int .i64 X.x) ∧ W'.cell? ⟨g5, 3, none⟩ = some (.string ⟨X.s.toArray⟩) ∧ W'.cell? ⟨g5, 4, none⟩ = some (.slice X.a X.l.length X.cap) ∧ W'.cell? ⟨g6, 0, none⟩ = some (.int .i64 Y.k) ∧ W'.cell? ⟨g6, 1, none⟩ = some (.int .i64 Y.n) ∧ W'.cell? ⟨g6, 2, none⟩ = some (.int .i64 Y.x) ∧ W'.cell? ⟨g6, 3, none⟩ = some (.string ⟨Y.s.toArray⟩) ∧ W'.cell? ⟨g6, 4, none⟩ = some (.slice Y.a Y.l.length Y.cap) ∧ W'.cell? ⟨g10, 0, none⟩ = some (.int .i64 O.k) ∧ W'.cell? ⟨g10, 1, none⟩ = some (.int .i64 O.n) ∧ W'.cell? ⟨g10, 2, none⟩ = some (.int .i64 O.x) ∧ W'.cell? ⟨g10, 3, none⟩ = some (.string ⟨O.s.toArray⟩) ∧ W'.cell? ⟨g10, 4, none⟩ = some (.slice O.a O.l.length O.cap) ∧ W'.cell? ⟨g12, 0, none⟩ = some (.int .i64 D.k) ∧ W'.cell? ⟨g12, 1, none⟩ = some (.int .i64 D.n) ∧ W'.cell? ⟨g12, 2, none⟩ = some (.int .i64 D.x) ∧ W'.cell? ⟨g12, 3, none⟩ = some (.string ⟨D.s.toArray⟩) ∧ W'.cell? ⟨g12, 4, none⟩ = some (.slice D.a D.l.length D.cap) ∧ W'.cell? ⟨g14, 0, none⟩ = some (.int .i64 G.k) ∧ W'.cell? ⟨g14, 1, none⟩ = some (.int .i64 G.n) ∧ W'.cell? ⟨g14, 2, none⟩ = some (.int .i64 G.x) ∧ W'.cell? ⟨g14, 3, none⟩ = some (.string ⟨G.s.toArray⟩) ∧ W'.cell? ⟨g14, 4, none⟩ = some (.slice G.a G.l.length G.cap))) (by kernel_rfl) ?_ (fun hHeld => ?_)
    · exact hkeep _ (Below.drew (by assumption)) (by assumption)
    refine wpAnyH_take (i := 0) (oi := { dst := some 74, op := Op.move (Operand.tmp 13), type := 4, pos := "laws.go:460", after := #[], guard := none }) (v := .bool true) rfl (by kernel_rfl) (by kernel_rfl) (by kernel_rfl) (fun _ _ _ h => h) (Or.inl ⟨by rfl, ?_⟩) (by assumption) ?_
    · intro w hSw
      (try dsimp only at hSw)
      go_simp
      try with_reducible rfl
    (try simp only [Act.put, List.setIfInBounds_toArray, List.set_cons_zero, List.set_cons_succ])
    refine wpAnyH_take (i := 1) (oi := { dst := some 75, op := Op.move (Operand.tmp 74), type := 4, pos := "laws.go:460", after := #[{ on := 0, ground := Ground.data }], guard := none }) (v := .bool true) rfl (by kernel_rfl) (by kernel_rfl) (by kernel_rfl) (fun _ _ _ h => h) (Or.inl ⟨by rfl, ?_⟩) (by assumption) ?_
    · intro w hSw
      (try dsimp only at hSw)
      go_simp
      try with_reducible rfl
    (try simp only [Act.put, List.setIfInBounds_toArray, List.set_cons_zero, List.set_cons_succ])
    refine wpAnyH_take (i := 2) (oi := { dst := some 76, op := Op.load 28 (Operand.tmp 12), type := 28, pos := "laws.go:460", after := #[{ on := 1, ground := Ground.guard }], guard := some (1, true) }) (v := .agg #[.int .i64 D.k, .int .i64 D.n, .int .i64 D.x, .string ⟨D.s.toArray⟩, .slice D.a D.l.length D.cap]) rfl (by kernel_rfl) (by kernel_rfl) (by kernel_rfl) (fun _ _ _ h => h) (Or.inl ⟨by rfl, ?_⟩) (by assumption) ?_
    · intro w hSw
      (try dsimp only at hSw)
      go_simp
      try with_reducible rfl
    (try simp only [Act.put, List.setIfInBounds_toArray, List.set_cons_zero, List.set_cons_succ])
    refine wpAnyH_take (i := 3) (oi := { dst := some 77, op := Op.load 28 (Operand.tmp 3), type := 28, pos := "laws.go:460", after := #[{ on := 1, ground := Ground.guard }], guard := some (1, true) }) (v := .agg #[.int .i64 T.k, .int .i64 T.n, .int .i64 T.x, .string ⟨T.s.toArray⟩, .slice T.a T.l.length T.cap]) rfl (by kernel_rfl) (by kernel_rfl) (by kernel_rfl) (fun _ _ _ h => h) (Or.inl ⟨by rfl, ?_⟩) (by assumption) ?_
    · intro w hSw
      (try dsimp only at hSw)
      go_simp
      try with_reducible rfl
    (try simp only [Act.put, List.setIfInBounds_toArray, List.set_cons_zero, List.set_cons_succ])
    refine wpAnyH_ready (rs := [4]) (by kernel_rfl) (by simp) ?_
    refine AllReadyH.cons (o := { dst := some 78, op := Op.call { callee := Callee.value (Operand.func 31), args := #[Operand.tmp 76, Operand.tmp 77], argTypes := #[28, 28] }, type := 4, pos := "laws.go:460", after := #[{ on := 2, ground := Ground.data }, { on := 3, ground := Ground.data }, { on := 1, ground := Ground.chain }, { on := 1, ground := Ground.guard }], guard := some (1, true) }) rfl (fun K hK => ?_) AllReadyH.nil
    go_simp
    go_at_call 31
    go_split_ands
    refine (cS1 _ ?_ ?_).mono ?_
    assumption
    assumption
    rintro e w' ⟨rfl, hb', hN'⟩
    go_wp2_with fail
    refine hK.out _ _ ?_ (fun hHeld => ?_)
    · exact hkeep _ hb' hN'
    clear hK K
    (try simp only [Act.put, List.setIfInBounds_toArray, List.set_cons_zero, List.set_cons_succ])
    refine wpAnyH_take (i := 5) (oi := { dst := some 79, op := Op.pick (Operand.tmp 75) (Operand.tmp 78) (Operand.const (Value.bool false)), type := 4, pos := "laws.go:460", after := #[{ on := 1, ground := Ground.data }, { on := 4, ground := Ground.data }], guard := none }) (v := .bool true) rfl (by kernel_rfl) (by kernel_rfl) (by kernel_rfl) (fun _ _ _ h => h) (Or.inl ⟨by rfl, ?_⟩) (by assumption) ?_
    · intro w hSw
      (try dsimp only at hSw)
      go_simp
      try with_reducible rfl
    (try simp only [Act.put, List.setIfInBounds_toArray, List.set_cons_zero, List.set_cons_succ])
    refine wpAnyH_take (i := 6) (oi := { dst := some 80, op := Op.move (Operand.tmp 79), type := 4, pos := "laws.go:460", after := #[{ on := 5, ground := Ground.data }, { on := 4, ground := Ground.chain }], guard := none }) (v := .bool true) rfl (by kernel_rfl) (by kernel_rfl) (by kernel_rfl) (fun _ _ _ h => h) (Or.inl ⟨by rfl, ?_⟩) (by assumption) ?_
    · intro w hSw
      (try dsimp only at hSw)
      go_simp
      try with_reducible rfl
    (try simp only [Act.put, List.setIfInBounds_toArray, List.set_cons_zero, List.set_cons_succ])
    refine wpAnyH_take (i := 7) (oi := { dst := some 81, op := Op.move (Operand.tmp 15), type := 4, pos := "laws.go:460", after := #[{ on := 6, ground := Ground.guard }], guard := some (6, true) }) (v := .bool true) rfl (by kernel_rfl) (by kernel_rfl) (by kernel_rfl) (fun _ _ _ h => h) (Or.inl ⟨by rfl, ?_⟩) (by assumption) ?_
    · intro w hSw
      (try dsimp only at hSw)
      go_simp
      try with_reducible rfl
    (try simp only [Act.put, List.setIfInBounds_toArray, List.set_cons_zero, List.set_cons_succ])
    refine wpAnyH_take (i := 8) (oi := { dst := some 82, op := Op.pick (Operand.tmp 80) (Operand.tmp 81) (Operand.const (Value.bool false)), type := 4, pos := "laws.go:460", after := #[{ on := 6, ground := Ground.data }, { on := 7, ground := Ground.data }], guard := none }) (v := .bool true) rfl (by kernel_rfl) (by kernel_rfl) (by kernel_rfl) (fun _ _ _ h => h) (Or.inl ⟨by rfl, ?_⟩) (by assumption) ?_
    · intro w hSw
      (try dsimp only at hSw)
      go_simp
      try with_reducible rfl
    (try simp only [Act.put, List.setIfInBounds_toArray, List.set_cons_zero, List.set_cons_succ])
    refine wpAnyH_take (i := 9) (oi := { dst := some 83, op := Op.move (Operand.tmp 82), type := 4, pos := "laws.go:460", after := #[{ on := 8, ground := Ground.data }, { on := 6, ground := Ground.chain }], guard := none }) (v := .bool true) rfl (by kernel_rfl) (by kernel_rfl) (by kernel_rfl) (fun _ _ _ h => h) (Or.inl ⟨by rfl, ?_⟩) (by assumption) ?_
    · intro w hSw
      (try dsimp only at hSw)
      go_simp
      try with_reducible rfl
    (try simp only [Act.put, List.setIfInBounds_toArray, List.set_cons_zero, List.set_cons_succ])
    refine wpAnyH_take (i := 10) (oi := { dst := some 84, op := Op.load 28 (Operand.tmp 14), type := 28, pos := "laws.go:460", after := #[{ on := 9, ground := Ground.guard }], guard := some (9, true) }) (v := .agg #[.int .i64 G.k, .int .i64 G.n, .int .i64 G.x, .string ⟨G.s.toArray⟩, .slice G.a G.l.length G.cap]) rfl (by kernel_rfl) (by kernel_rfl) (by kernel_rfl) (fun _ _ _ h => h) (Or.inl ⟨by rfl, ?_⟩) (by assumption) ?_
    · intro w hSw
      (try dsimp only at hSw)
      go_simp
      try with_reducible rfl
    (try simp only [Act.put, List.setIfInBounds_toArray, List.set_cons_zero, List.set_cons_succ])
    refine wpAnyH_take (i := 11) (oi := { dst := some 85, op := Op.load 28 (Operand.tmp 5), type := 28, pos := "laws.go:460", after := #[{ on := 9, ground := Ground.guard }], guard := some (9, true) }) (v := .agg #[.int .i64 X.k, .int .i64 X.n, .int .i64 X.x, .string ⟨X.s.toArray⟩, .slice X.a X.l.length X.cap]) rfl (by kernel_rfl) (by kernel_rfl) (by kernel_rfl) (fun _ _ _ h => h) (Or.inl ⟨by rfl, ?_⟩) (by assumption) ?_
    · intro w hSw
      (try dsimp only at hSw)
      go_simp
      try with_reducible rfl
    (try simp only [Act.put, List.setIfInBounds_toArray, List.set_cons_zero, List.set_cons_succ])
    refine wpAnyH_ready (rs := [12]) (by kernel_rfl) (by simp) ?_
    refine AllReadyH.cons (o := { dst := some 86, op := Op.call { callee := Callee.value (Operand.func 31), args := #[Operand.tmp 84, Operand.tmp 85], argTypes := #[28, 28] }, type := 4, pos := "laws.go:460", after := #[{ on := 10, ground := Ground.data }, { on := 11, ground := Ground.data }, { on := 9, ground := Ground.chain }, { on := 9, ground := Ground.guard }], guard := some (9, true) }) rfl (fun K hK => ?_) AllReadyH.nil
    go_simp
    go_at_call 31
    go_split_ands
    refine (cS2 _ ?_ ?_).mono ?_
    assumption
    assumption
    rintro e w' ⟨rfl, hb', hN'⟩
    go_wp2_with fail
    refine hK.out _ _ ?_ (fun hHeld => ?_)
    · exact hkeep _ hb' hN'
    clear hK K
    (try simp only [Act.put, List.setIfInBounds_toArray, List.set_cons_zero, List.set_cons_succ])
    refine wpAnyH_take (i := 13) (oi := { dst := some 87, op := Op.pick (Operand.tmp 83) (Operand.tmp 86) (Operand.const (Value.bool false)), type := 4, pos := "laws.go:460", after := #[{ on := 9, ground := Ground.data }, { on := 12, ground := Ground.data }], guard := none }) (v := .bool true) rfl (by kernel_rfl) (by kernel_rfl) (by kernel_rfl) (fun _ _ _ h => h) (Or.inl ⟨by rfl, ?_⟩) (by assumption) ?_
    · intro w hSw
      (try dsimp only at hSw)
      go_simp
      try with_reducible rfl
    (try simp only [Act.put, List.setIfInBounds_toArray, List.set_cons_zero, List.set_cons_succ])
    refine wpAnyH_take (i := 14) (oi := { dst := some 88, op := Op.move (Operand.tmp 87), type := 4, pos := "laws.go:460", after := #[{ on := 13, ground := Ground.data }, { on := 12, ground := Ground.chain }], guard := none }) (v := .bool true) rfl (by kernel_rfl) (by kernel_rfl) (by kernel_rfl) (fun _ _ _ h => h) (Or.inl ⟨by rfl, ?_⟩) (by assumption) ?_
    · intro w hSw
      (try dsimp only at hSw)
      go_simp
      try with_reducible rfl
    (try simp only [Act.put, List.setIfInBounds_toArray, List.set_cons_zero, List.set_cons_succ])
    refine wpAnyH_take (i := 15) (oi := { dst := some 89, op := Op.load 28 (Operand.tmp 6), type := 28, pos := "laws.go:460", after := #[{ on := 14, ground := Ground.guard }], guard := some (14, true) }) (v := .agg #[.int .i64 Y.k, .int .i64 Y.n, .int .i64 Y.x, .string ⟨Y.s.toArray⟩, .slice Y.a Y.l.length Y.cap]) rfl (by kernel_rfl) (by kernel_rfl) (by kernel_rfl) (fun _ _ _ h => h) (Or.inl ⟨by rfl, ?_⟩) (by assumption) ?_
    · intro w hSw
      (try dsimp only at hSw)
      go_simp
      try with_reducible rfl
    (try simp only [Act.put, List.setIfInBounds_toArray, List.set_cons_zero, List.set_cons_succ])
    refine wpAnyH_take (i := 17) (oi := { dst := some 91, op := Op.load 28 (Operand.tmp 3), type := 28, pos := "laws.go:460", after := #[{ on := 14, ground := Ground.guard }], guard := some (14, true) }) (v := .agg #[.int .i64 T.k, .int .i64 T.n, .int .i64 T.x, .string ⟨T.s.toArray⟩, .slice T.a T.l.length T.cap]) rfl (by kernel_rfl) (by kernel_rfl) (by kernel_rfl) (fun _ _ _ h => h) (Or.inl ⟨by rfl, ?_⟩) (by assumption) ?_
    · intro w hSw
      (try dsimp only at hSw)
      go_simp
      try with_reducible rfl
    (try simp only [Act.put, List.setIfInBounds_toArray, List.set_cons_zero, List.set_cons_succ])
    refine wpAnyH_take (i := 19) (oi := { dst := some 93, op := Op.load 28 (Operand.tmp 10), type := 28, pos := "laws.go:460", after := #[{ on := 14, ground := Ground.guard }], guard := some (14, true) }) (v := .agg #[.int .i64 O.k, .int .i64 O.n, .int .i64 O.x, .string ⟨O.s.toArray⟩, .slice O.a O.l.length O.cap]) rfl (by kernel_rfl) (by kernel_rfl) (by kernel_rfl) (fun _ _ _ h => h) (Or.inl ⟨by rfl, ?_⟩) (by assumption) ?_
    · intro w hSw
      (try dsimp only at hSw)
      go_simp
      try with_reducible rfl
    (try simp only [Act.put, List.setIfInBounds_toArray, List.set_cons_zero, List.set_cons_succ])
    refine wpAnyH_take (i := 22) (oi := { dst := some 96, op := Op.load 28 (Operand.tmp 5), type := 28, pos := "laws.go:460", after := #[{ on := 14, ground := Ground.guard }], guard := some (14, true) }) (v := .agg #[.int .i64 X.k, .int .i64 X.n, .int .i64 X.x, .string ⟨X.s.toArray⟩, .slice X.a X.l.length X.cap]) rfl (by kernel_rfl) (by kernel_rfl) (by kernel_rfl) (fun _ _ _ h => h) (Or.inl ⟨by rfl, ?_⟩) (by assumption) ?_
    · intro w hSw
      (try dsimp only at hSw)
      go_simp
      try with_reducible rfl
    (try simp only [Act.put, List.setIfInBounds_toArray, List.set_cons_zero, List.set_cons_succ])
    refine wpAnyH_ready (rs := [16]) (by kernel_rfl) (by simp) ?_
    refine AllReadyH.cons (o := { dst := some 90, op := Op.call { callee := Callee.value (Operand.func 46), args := #[Operand.tmp 89], argTypes := #[28] }, type := 3, pos := "laws.go:460", after := #[{ on := 15, ground := Ground.data }, { on := 14, ground := Ground.chain }, { on := 14, ground := Ground.guard }], guard := some (14, true) }) rfl (fun K hK => ?_) AllReadyH.nil
    go_simp
    go_at_call 46
    go_split_ands
    refine (cC6 _ ?_ ?_).mono ?_
    assumption
    assumption
    rintro e w' ⟨rfl, hb', hN'⟩
    go_wp2_with fail
    refine hK.out _ _ ?_ (fun hHeld => ?_)
    · exact hkeep _ hb' hN'
    clear hK K
    (try simp only [Act.put, List.setIfInBounds_toArray, List.set_cons_zero, List.set_cons_succ])
    refine wpAnyH_ready (rs := [18]) (by kernel_rfl) (by simp) ?_
    refine AllReadyH.cons (o := { dst := some 92, op := Op.call { callee := Callee.value (Operand.func 46), args := #[Operand.tmp 91], argTypes := #[28] }, type := 3, pos := "laws.go:460", after := #[{ on := 17, ground := Ground.data }, { on := 16, ground := Ground.chain }, { on := 14, ground := Ground.guard }], guard := some (14, true) }) rfl (fun K hK => ?_) AllReadyH.nil
    go_simp
    go_at_call 46
    go_split_ands
    refine (cC3 _ ?_ ?_).mono ?_
    assumption
    assumption
    rintro e w' ⟨rfl, hb', hN'⟩
    go_wp2_with fail
    refine hK.out _ _ ?_ (fun hHeld => ?_)
    · exact hkeep _ hb' hN'
    clear hK K
    (try simp only [Act.put, List.setIfInBounds_toArray, List.set_cons_zero, List.set_cons_succ])
    refine wpAnyH_ready (rs := [20]) (by kernel_rfl) (by simp) ?_
    refine AllReadyH.cons (o := { dst := some 94, op := Op.call { callee := Callee.value (Operand.func 46), args := #[Operand.tmp 93], argTypes := #[28] }, type := 3, pos := "laws.go:460", after := #[{ on := 19, ground := Ground.data }, { on := 18, ground := Ground.chain }, { on := 14, ground := Ground.guard }], guard := some (14, true) }) rfl (fun K hK => ?_) AllReadyH.nil
    go_simp
    go_at_call 46
    go_split_ands
    refine (cC10 _ ?_ ?_).mono ?_
    assumption
    assumption
    rintro e w' ⟨rfl, hb', hN'⟩
    go_wp2_with fail
    refine hK.out _ _ ?_ (fun hHeld => ?_)
    · exact hkeep _ hb' hN'
    clear hK K
    (try simp only [Act.put, List.setIfInBounds_toArray, List.set_cons_zero, List.set_cons_succ])
    refine wpAnyH_take (i := 21) (oi := { dst := some 95, op := Op.binOp BinOp.sub 3 (Operand.tmp 92) (Operand.tmp 94) 3, type := 3, pos := "laws.go:460", after := #[{ on := 18, ground := Ground.data }, { on := 20, ground := Ground.data }, { on := 14, ground := Ground.guard }], guard := some (14, true) }) (v := .int .i64 ((ct : Int) - co)) rfl (by kernel_rfl) (by kernel_rfl) (by kernel_rfl) (fun _ _ _ h => h) (Or.inl ⟨by rfl, ?_⟩) (by assumption) ?_
    · intro w hSw
      (try dsimp only at hSw)
      go_simp
      try with_reducible rfl
    (try simp only [Act.put, List.setIfInBounds_toArray, List.set_cons_zero, List.set_cons_succ])
    refine wpAnyH_ready (rs := [23]) (by kernel_rfl) (by simp) ?_
    refine AllReadyH.cons (o := { dst := some 97, op := Op.call { callee := Callee.value (Operand.func 46), args := #[Operand.tmp 96], argTypes := #[28] }, type := 3, pos := "laws.go:460", after := #[{ on := 22, ground := Ground.data }, { on := 20, ground := Ground.chain }, { on := 14, ground := Ground.guard }], guard := some (14, true) }) rfl (fun K hK => ?_) AllReadyH.nil
    go_simp
    go_at_call 46
    go_split_ands
    refine (cC5 _ ?_ ?_).mono ?_
    assumption
    assumption
    rintro e w' ⟨rfl, hb', hN'⟩
    go_wp2_with fail
    refine hK.out _ _ ?_ (fun hHeld => ?_)
    · exact hkeep _ hb' hN'
    clear hK K
    (try simp only [Act.put, List.setIfInBounds_toArray, List.set_cons_zero, List.set_cons_succ])
    refine wpAnyH_take (i := 24) (oi := { dst := some 98, op := Op.binOp BinOp.add 3 (Operand.tmp 95) (Operand.tmp 97) 3, type := 3, pos := "laws.go:460", after := #[{ on := 21, ground := Ground.data }, { on := 23, ground := Ground.data }, { on := 14, ground := Ground.guard }], guard := some (14, true) }) (v := .int .i64 (cy : Int)) rfl (by kernel_rfl) (by kernel_rfl) (by kernel_rfl) (fun _ _ _ h => h) (Or.inl ⟨by rfl, ?_⟩) (by assumption) ?_
    · intro w hSw
      (try dsimp only at hSw)
      go_simp
      try with_reducible rfl
    (try simp only [Act.put, List.setIfInBounds_toArray, List.set_cons_zero, List.set_cons_succ])
    refine wpAnyH_take (i := 25) (oi := { dst := some 99, op := Op.binOp BinOp.eql 3 (Operand.tmp 90) (Operand.tmp 98) 3, type := 4, pos := "laws.go:460", after := #[{ on := 16, ground := Ground.data }, { on := 24, ground := Ground.data }, { on := 14, ground := Ground.guard }], guard := some (14, true) }) (v := .bool true) rfl (by kernel_rfl) (by kernel_rfl) (by kernel_rfl) (fun _ _ _ h => h) (Or.inl ⟨by rfl, ?_⟩) (by assumption) ?_
    · intro w hSw
      (try dsimp only at hSw)
      go_simp
      try with_reducible rfl
    (try simp only [Act.put, List.setIfInBounds_toArray, List.set_cons_zero, List.set_cons_succ])
    refine wpAnyH_take (i := 26) (oi := { dst := some 100, op := Op.pick (Operand.tmp 88) (Operand.tmp 99) (Operand.const (Value.bool false)), type := 4, pos := "laws.go:460", after := #[{ on := 14, ground := Ground.data }, { on := 25, ground := Ground.data }], guard := none }) (v := .bool true) rfl (by kernel_rfl) (by kernel_rfl) (by kernel_rfl) (fun _ _ _ h => h) (Or.inl ⟨by rfl, ?_⟩) (by assumption) ?_
    · intro w hSw
      (try dsimp only at hSw)
      go_simp
      try with_reducible rfl
    (try simp only [Act.put, List.setIfInBounds_toArray, List.set_cons_zero, List.set_cons_succ])
    refine wpAnyH_take (i := 27) (oi := { dst := some 2, op := Op.assign (Operand.tmp 100), type := 4, pos := "laws.go:460", after := #[{ on := 26, ground := Ground.data }, { on := 23, ground := Ground.chain }, { on := 0, ground := Ground.phase }, { on := 1, ground := Ground.phase }, { on := 2, ground := Ground.phase }, { on := 3, ground := Ground.phase }, { on := 4, ground := Ground.phase }, { on := 5, ground := Ground.phase }, { on := 6, ground := Ground.phase }, { on := 7, ground := Ground.phase }, { on := 8, ground := Ground.phase }, { on := 9, ground := Ground.phase }, { on := 10, ground := Ground.phase }, { on := 11, ground := Ground.phase }, { on := 12, ground := Ground.phase }, { on := 13, ground := Ground.phase }, { on := 14, ground := Ground.phase }, { on := 15, ground := Ground.phase }, { on := 16, ground := Ground.phase }, { on := 17, ground := Ground.phase }, { on := 18, ground := Ground.phase }, { on := 19, ground := Ground.phase }, { on := 20, ground := Ground.phase }, { on := 21, ground := Ground.phase }, { on := 22, ground := Ground.phase }, { on := 23, ground := Ground.phase }, { on := 24, ground := Ground.phase }, { on := 25, ground := Ground.phase }, { on := 26, ground := Ground.phase }], guard := none }) (v := .bool true) rfl (by kernel_rfl) (by kernel_rfl) (by kernel_rfl) (fun _ _ _ h => h) (Or.inl ⟨by rfl, ?_⟩) (by assumption) ?_
    · intro w hSw
      (try dsimp only at hSw)
      go_simp
      try with_reducible rfl
    (try simp only [Act.put, List.setIfInBounds_toArray, List.set_cons_zero, List.set_cons_succ])
    refine wpAnyH_done (by kernel_rfl) ?_ _
    refine NoPanic.normal ?_
    go_split_ands
    go_wp2
    go_ret
    exact ⟨rfl, hend _ (by assumption)⟩

set_option maxRecDepth 100000 in
theorem contract (H : Type) (enc : TypeId × Value → H) (W : World) (base : Nat) (args : Array Value) (ds gs : List (DataW H)) (before : List MemPlace)
    (hval : ∀ (j : Nat) t v, Try.f8.params[j]? = some t → args[j]? = some v → Value.okWide Try.prog W .any base t v)
    (hW : DataW.Whole enc Try.prog Try.f8.params.toList Rows.fnPutsSpec.vars false W args.toList ds gs before)
    (hcond : ∀ k, (OpenSpec.ofChange Rows.fnPutsSpec).cond = some k → k H (ds ++ gs) = true)
    (hsz : (DataW.weightsEach Try.prog (Try.f8.params.toList ++ (OpenSpec.ofChange Rows.fnPutsSpec).bare.plain.varTypes Try.prog) (ds ++ gs)).all (· ≤ reachBytes) = true)
    (hL : laidMetH Try.prog Rows.fnPutsRow.laid W) :
    Calls Try.prog 8 args W fun e W' => ∃ v, e = .returned v ∧ Rows.fnPutsSpec.post enc Try.prog Try.f8 false true false false W args v W' := by
  have hW' := hW
  have hlt := hW'.lt
  obtain ⟨p, q, hA0, hV, rfl, hfz, hnd⟩ := hW
  have hA : DataW.TrodAll enc Try.prog W 0 (fun _ => true) true Try.f8.params.toList args.toList ds p := hA0
  rw [Try.params8] at hA hval hsz
  obtain ⟨v0, vs0, d0, ds0, p0, q0, hargs, rfl, rfl, h0, r0⟩ := trodAll_cons hA
  obtain ⟨rfl, rfl, rfl⟩ := trodAll_nil r0
  obtain rfl : args = #[v0] := by cases args; simp_all
  obtain ⟨rfl, rfl⟩ := trodVars_none hV
  simp only [List.append_nil] at hW' hlt
  have hlt0 : ∀ x ∈ p0, x.block < W.heap.size := fun x hx => hlt x (by simp [hx])
  have hk0 := h0
  clear hA0 hA
  have fin : ∀ W' : World, Below W.heap.size W W' → Rows.fnPutsSpec.post enc Try.prog Try.f8 false true false false W _ (.bool true) W' := fun W' hb =>
    ⟨_, _, _, [], _, [], hW', trodAll_mk1 (shut_bool Try.underlying4 _), (trodAll_cons_mk (Below.trod laidOut (by kernel_rfl) (of_decide_eq_true (by kernel_rfl)) hk0 hb hlt0) trodAll_mk0), rfl, hb.frame _, fun h => by cases h⟩
  refine Calls.mono (R := fun e w' => e = .returned (.bool true) ∧ Below W.heap.size W w') ?_ (fun e W' h => ⟨_, h.1, fin W' h.2⟩)
  clear fin
  obtain ⟨a, len, cap, rfl, hC, hm⟩ := open_code (hval 0 _ v0 rfl rfl) h0 hlt0
  by_cases hl : 1048576 < len
  · exact walk_long a len cap W hl hm
  · exact walk a len cap W hC (by omega)

theorem laid_met (os : Os) : laidMet Try.prog Rows.fnPutsRow.laid (((World.holding Try.prog os ⟨#[], #[], []⟩)).forCall (fun _ _ => 0) ⟨#[], #[.slice none 0 0], []⟩).memory :=
  ⟨[], rfl, List.nodup_nil, fun _ _ h => by cases h⟩
theorem reads (os : Os) {H : Type} (enc : TypeId × Value → H) : ∃ places, DataW.whole enc Try.prog (((World.holding Try.prog os ⟨#[], #[], []⟩)).forCall (fun _ _ => 0) ⟨#[], #[.slice none 0 0], []⟩).memory Try.f8.params.toList Rows.fnPutsSpec.vars false (#[.slice none 0 0] : Array Value).toList 8 = some ([.nil], [], places) :=
  ⟨[], by kernel_rfl⟩

set_option maxRecDepth 100000 in
theorem lifted (os : Os) (started : os.Started) (H : Type) (enc : TypeId × Value → H) (F : Stop.Interp) :
    ReturnsInHanded {} Try.checked os 8 .any ((OpenSpec.ofChange Rows.fnPutsSpec).preRow enc Try.prog Try.f8 Rows.fnPutsRow.domain false Rows.fnPutsRow.laid) (((OpenSpec.ofChange Rows.fnPutsSpec).at F).post enc Try.prog Try.f8 false true false false) := by
  obtain ⟨places, hx⟩ := reads os enc
  refine returnsInHanded_of_row (C := Try.checked) (s := OpenSpec.ofChange Rows.fnPutsSpec) own started (by kernel_rfl) Try.func8
    (witness_row_at (enc := enc) (C := Try.checked) false (World.holding Try.prog os ⟨#[], #[], []⟩) #[.slice none 0 0] rfl (by kernel_rfl) (by kernel_rfl) (by kernel_rfl)
      (OpenSpec.preRow_of_cond 8 hx (by kernel_rfl) (fun k hk => by cases hk) (by kernel_rfl) (laid_met os))) ?_
  intro W base args ds gs before hval hW _ hcond hsz hL _ _
  exact contract H enc W base args ds gs before hval hW hcond hsz hL

theorem said : Rows.FnPutsSaid :=
  OpenClaim.holds_of_cond 8 Try.f8 rfl rfl rfl rfl rfl rfl rfl ⟨rfl, rfl, rfl, rfl, rfl⟩ rfl rfl rfl rfl rfl (by kernel_rfl) Try.func8 (by kernel_rfl)
    (of_decide_eq_true (by kernel_rfl)) (by unfold Func.isWrapper; first | (rw [if_pos (by decide +kernel)]; kernel_rfl) | (rw [if_neg (by decide +kernel)]; exact ⟨rfl, rfl⟩))
    (fun os started H enc _ F => by rw [OpenClaim.pre_eq_preRow]; exact lifted os started H enc F)

theorem proved : Rows.FnPutsSaid := said
#print axioms proved
end Go.Proofs.Ytdjnkcoepmackaa.fnPuts
