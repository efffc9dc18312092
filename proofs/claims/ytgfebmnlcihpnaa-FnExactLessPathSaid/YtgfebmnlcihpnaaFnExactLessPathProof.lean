/- For every input the law FnExactLessPath returns true and its arguments read afterwards as they read before; beside what the row states there is no condition. -/
import Derived.Test.YtgfebmnlcihpnaaRows
import Derived.WalkKit
import Derived.ProofKit
import Derived.OpenShut
import Derived.SizedLaws
import Derived.Carry
import Derived.Deep.DeepHandedRow


import Derived.Lib.LaidTab
import Derived.Stop.LaidErr
import Derived.Test.YtgfebmnlcihpnaaStepLaw
import Derived.Test.YtgfebmnlcihpnaaOpenStep
import Derived.Test.YtgfebmnlcihpnaaLessPath

namespace Go.Proofs.Ytgfebmnlcihpnaa.fnExactLessPath
open Go.ChangeShapes Go.WideShapes Go.ChangeAt Go.RowKit
open Go.ChangeMaps (open_string shut_string)
set_option linter.unusedVariables false

theorem own : ownKnob Try.prog.godebug = none := by kernel_rfl
theorem laidOut : laidOutB Try.prog = true := by kernel_rfl

set_option maxHeartbeats 1000000 in
theorem walk (l m : List St) (a b : Option Addr) (cap cap2 : Nat) (w : World) (h : SAt w w.heap.size a cap l) (h2 : SAt w w.heap.size b cap2 m) (hl : l.length ≤ 9223372036854775807) (hm : m.length ≤ 9223372036854775807) :
    Calls Try.prog 11 #[.slice a l.length cap, .slice b m.length cap2] w fun e w' => e = .returned (.bool true) ∧ Below w.heap.size w w' := by
  have HS1 := Lib.hid (fun W => szStepS_any l a cap 1048576 W hl (Nat.le_refl _))
  have HA := Lib.hid (fun W (hb : Below w.heap.size w W) => (h.below hb (Nat.le_refl _)))
  have HB := Lib.hid (fun W (hb : Below w.heap.size w W) => (h2.below hb (Nat.le_refl _)))
  have hb0 := Below.refl w.heap.size w
  by_cases hz1 : l.length ≤ 1048576
  · have HS2 := Lib.hid (fun W => szStepS_any m b cap2 (1048576 - l.length) W hm (by omega))
    have HR1 : Hid (szR l.length 1048576 = ((1048576 - l.length : Nat) : Int)) := Lib.hid (by unfold szR; rw [if_pos hz1]; omega)
    have hneg1 : ¬ (((1048576 - l.length : Nat) : Int) < 0) := by omega
    by_cases hz2 : m.length ≤ 1048576 - l.length
    · have hm2 : m.length ≤ 1048576 := by omega
      have HR2 : Hid (szR m.length (1048576 - l.length) = ((1048576 - l.length - m.length : Nat) : Int)) := Lib.hid (by unfold szR; rw [if_pos hz2]; omega)
      have hneg2 : ¬ (((1048576 - l.length - m.length : Nat) : Int) < 0) := by omega
      have HT1 := Lib.hid (fun W (hb : Below w.heap.size w W) => toStepS_any W w.heap.size a cap l (HA.out W hb) hb.size hz1)
      have HT2 := Lib.hid (fun W (hb : Below w.heap.size w W) => toStepS_any W w.heap.size b cap2 m (HB.out W hb) hb.size hm2)
      have HLS := Lib.hid (fun a b cap cap2 W (h : SAt W W.heap.size a cap l) (h2 : SAt W W.heap.size b cap2 m) => lesspath_spec l m W W.heap.size a b cap cap2 h h2 (Nat.le_refl _) hz1 hm2)
      have HLI := Lib.hid (fun a b cap cap2 W (h : SAt W W.heap.size a cap l) (h2 : SAt W W.heap.size b cap2 m) => lesspath_impl l m W W.heap.size a b cap cap2 h h2 (Nat.le_refl _) hz1 hm2)
      have HE1 := Lib.hid (fun a b cap cap2 W (h : SAt W W.heap.size a cap l) (h2 : SAt W W.heap.size b cap2 l) => eqStepS_yes l W W.heap.size a b cap cap2 h h2 (Nat.le_refl _) hl)
      have HE2 := Lib.hid (fun a b cap cap2 W (h : SAt W W.heap.size a cap m) (h2 : SAt W W.heap.size b cap2 m) => eqStepS_yes m W W.heap.size a b cap cap2 h h2 (Nat.le_refl _) hm)
      obtain ⟨r, hr⟩ : ∃ r, r = lessP l m := ⟨_, rfl⟩
      rw [← hr] at HLS HLI
      have hrr : (r != r) = false := by cases r <;> rfl
      clear h h2 hr
      generalize 1048576 - l.length - m.length = left2 at *
      generalize 1048576 - l.length = left1 at *
      go_enter Try.func11, Try.ntmps11
      go_wp2_with fail
      refine (HS1.out _).mono ?_
      rintro e w1 ⟨rfl, hb1⟩
      rw [HR1.out]
      have HB1 := Lib.hid hb1
      clear hb1 hb0
      go_wp2_with fail
      refine (HS2.out _).mono ?_
      rintro e w2 ⟨rfl, hb2⟩
      rw [HR2.out]
      have HB2 := Lib.hid (HB1.out.trans (hb2.mono HB1.out.size))
      clear hb2
      go_wp2_with fail
      refine (HT1.out _ HB2.out).mono ?_
      rintro e w3 ⟨a3, cap3, rfl, o3, hb3⟩
      have HB3 := Lib.hid (HB2.out.trans (hb3.mono HB2.out.size))
      have HO3 := Lib.hid o3
      clear hb3 o3
      go_wp2_with fail
      refine (HT2.out _ HB3.out).mono ?_
      rintro e w4 ⟨a4, cap4, rfl, o4, hb4⟩
      have HB4 := Lib.hid (HB3.out.trans (hb4.mono HB3.out.size))
      have HO34 := Lib.hid (HO3.out.blw hb4)
      have HO4 := Lib.hid o4
      clear hb4 o4
      go_wp2_with fail
      refine (HLS.out _ _ _ _ _ HO34.out.sat HO4.out.sat).mono ?_
      rintro e w5 ⟨rfl, hb5⟩
      have HB5 := Lib.hid (HB4.out.trans (hb5.mono HB4.out.size))
      clear hb5
      go_wp2_with fail
      refine (HT1.out _ HB5.out).mono ?_
      rintro e w6 ⟨a6, cap6, rfl, o6, hb6⟩
      have HB6 := Lib.hid (HB5.out.trans (hb6.mono HB5.out.size))
      have HO6 := Lib.hid o6
      clear hb6 o6
      go_wp2_with fail
      refine (HT2.out _ HB6.out).mono ?_
      rintro e w7 ⟨a7, cap7, rfl, o7, hb7⟩
      have HB7 := Lib.hid (HB6.out.trans (hb7.mono HB6.out.size))
      have HO67 := Lib.hid (HO6.out.blw hb7)
      have HO7 := Lib.hid o7
      clear hb7 o7
      go_wp2_with fail
      refine (HLI.out _ _ _ _ _ HO67.out.sat HO7.out.sat).mono ?_
      rintro e w8 ⟨rfl, hb8⟩
      have HB8 := Lib.hid (HB7.out.trans (hb8.mono HB7.out.size))
      have HO68 := Lib.hid (HO67.out.blw hb8)
      have HO78 := Lib.hid (HO7.out.blw hb8)
      clear hb8
      go_wp2_with fail
      refine (HT1.out _ HB8.out).mono ?_
      rintro e w9 ⟨a9, cap9, rfl, o9, hb9⟩
      have HB9 := Lib.hid (HB8.out.trans (hb9.mono HB8.out.size))
      have HO69 := Lib.hid (HO68.out.blw hb9)
      have HO79 := Lib.hid (HO78.out.blw hb9)
      have HO9 := Lib.hid o9
      clear hb9 o9
      go_wp2_with fail
      refine (HE1.out _ _ _ _ _ HO69.out.sat HO9.out.sat).mono ?_
      rintro e w10 ⟨rfl, hb10⟩
      have HB10 := Lib.hid (HB9.out.trans (hb10.mono HB9.out.size))
      have HO710 := Lib.hid (HO79.out.blw hb10)
      clear hb10
      go_wp2_with fail
      refine (HT2.out _ HB10.out).mono ?_
      rintro e w11 ⟨a11, cap11, rfl, o11, hb11⟩
      have HB11 := Lib.hid (HB10.out.trans (hb11.mono HB10.out.size))
      have HO711 := Lib.hid (HO710.out.blw hb11)
      have HO11 := Lib.hid o11
      clear hb11 o11
      go_wp2_with fail
      refine (HE2.out _ _ _ _ _ HO711.out.sat HO11.out.sat).mono ?_
      rintro e w12 ⟨rfl, hb12⟩
      have HB12 := Lib.hid (HB11.out.trans (hb12.mono HB11.out.size))
      clear hb12
      go_wp2
      go_ret
      exact ⟨rfl, HB12.out⟩
    · have HR2 : Hid (szR m.length (1048576 - l.length) = -1) := Lib.hid (by unfold szR; rw [if_neg hz2])
      clear hz2
      generalize 1048576 - l.length = left1 at *
      go_enter Try.func11, Try.ntmps11
      go_wp2_with fail
      refine (HS1.out _).mono ?_
      rintro e w1 ⟨rfl, hb1⟩
      rw [HR1.out]
      go_wp2_with fail
      refine (HS2.out _).mono ?_
      rintro e w2 ⟨rfl, hb2⟩
      rw [HR2.out]
      have HB2 := Lib.hid (hb1.trans (hb2.mono hb1.size))
      clear hb2 hb1
      go_wp2
      go_ret
      exact ⟨rfl, HB2.out⟩
  · have HR1 : Hid (szR l.length 1048576 = -1) := Lib.hid (by unfold szR; rw [if_neg hz1])
    go_enter Try.func11, Try.ntmps11
    go_wp2_with fail
    refine (HS1.out _).mono ?_
    rintro e w1 ⟨rfl, hb1⟩
    rw [HR1.out]
    go_wp2
    go_ret
    exact ⟨rfl, hb1⟩

set_option maxRecDepth 100000 in
theorem contract (H : Type) (enc : TypeId × Value → H) (W : World) (base : Nat) (args : Array Value) (ds gs : List (DataW H)) (before : List MemPlace)
    (hval : ∀ (j : Nat) t v, Try.f11.params[j]? = some t → args[j]? = some v → Value.okWide Try.prog W .any base t v)
    (hW : DataW.Whole enc Try.prog Try.f11.params.toList Rows.fnExactLessPathSpec.vars false W args.toList ds gs before)
    (hcond : ∀ k, (OpenSpec.ofChange Rows.fnExactLessPathSpec).cond = some k → k H (ds ++ gs) = true)
    (hsz : (DataW.weightsEach Try.prog (Try.f11.params.toList ++ (OpenSpec.ofChange Rows.fnExactLessPathSpec).bare.plain.varTypes Try.prog) (ds ++ gs)).all (· ≤ reachBytes) = true)
    (hL : laidMetH Try.prog Rows.fnExactLessPathRow.laid W) :
    Calls Try.prog 11 args W fun e W' => ∃ v, e = .returned v ∧ Rows.fnExactLessPathSpec.post enc Try.prog Try.f11 false true false false W args v W' := by
  have hW' := hW
  have hlt := hW'.lt
  obtain ⟨p, q, hA0, hV, rfl, hfz, hnd⟩ := hW
  have hA : DataW.TrodAll enc Try.prog W 0 (fun _ => true) true Try.f11.params.toList args.toList ds p := hA0
  rw [Try.params11] at hA hval hsz
  obtain ⟨v0, vs0, d0, ds0, p0, q0, hargs, rfl, rfl, h0, r0⟩ := trodAll_cons hA
  obtain ⟨v1, vs1, d1, ds1, p1, q1, rfl, rfl, rfl, h1, r1⟩ := trodAll_cons r0
  obtain ⟨rfl, rfl, rfl⟩ := trodAll_nil r1
  obtain rfl : args = #[v0, v1] := by cases args; simp_all
  obtain ⟨rfl, rfl⟩ := trodVars_none hV
  simp only [List.append_nil] at hW' hlt
  have hlt0 : ∀ x ∈ p0, x.block < W.heap.size := fun x hx => hlt x (by simp [hx])
  have hlt1 : ∀ x ∈ p1, x.block < W.heap.size := fun x hx => hlt x (by simp [hx])
  have hk0 := h0
  have hk1 := h1
  obtain ⟨a0, cap0, l0, rfl, hs0, hlen0, hwf0⟩ := open_steps (hval 0 68 v0 rfl rfl) h0
  obtain ⟨a1, cap1, l1, rfl, hs1, hlen1, hwf1⟩ := open_steps (hval 1 68 v1 rfl rfl) h1
  clear hA0 hA
  have fin : ∀ W' : World, Below W.heap.size W W' → Rows.fnExactLessPathSpec.post enc Try.prog Try.f11 false true false false W _ (.bool true) W' := fun W' hb =>
    ⟨_, _, _, [], _, [], hW', trodAll_mk1 (shut_bool Try.underlying4 _), (trodAll_cons_mk (Below.trod laidOut (by kernel_rfl) (of_decide_eq_true (by kernel_rfl)) hk0 hb hlt0) (trodAll_cons_mk (Below.trod laidOut (by kernel_rfl) (of_decide_eq_true (by kernel_rfl)) hk1 hb hlt1) trodAll_mk0)), rfl, hb.frame _, fun h => by cases h⟩
  refine Calls.mono (R := fun e w' => e = .returned (.bool true) ∧ Below W.heap.size W w') ?_ (fun e W' h => ⟨_, h.1, fin W' h.2⟩)
  clear fin
  exact walk l0 l1 a0 a1 cap0 cap1 W hs0 hs1 hlen0 hlen1

theorem laid_met (os : Os) : laidMet Try.prog Rows.fnExactLessPathRow.laid (((World.holding Try.prog os ⟨#[], #[], []⟩)).forCall (fun _ _ => 0) ⟨#[], #[.slice none 0 0, .slice none 0 0], []⟩).memory :=
  ⟨[], rfl, List.nodup_nil, fun _ _ h => by cases h⟩
theorem reads (os : Os) {H : Type} (enc : TypeId × Value → H) : ∃ places, DataW.whole enc Try.prog (((World.holding Try.prog os ⟨#[], #[], []⟩)).forCall (fun _ _ => 0) ⟨#[], #[.slice none 0 0, .slice none 0 0], []⟩).memory Try.f11.params.toList Rows.fnExactLessPathSpec.vars false (#[.slice none 0 0, .slice none 0 0] : Array Value).toList 8 = some ([.nil, .nil], [], places) :=
  ⟨[], by kernel_rfl⟩

set_option maxRecDepth 100000 in
theorem lifted (os : Os) (started : os.Started) (H : Type) (enc : TypeId × Value → H) (F : Stop.Interp) :
    ReturnsInHanded {} Try.checked os 11 .any ((OpenSpec.ofChange Rows.fnExactLessPathSpec).preRow enc Try.prog Try.f11 Rows.fnExactLessPathRow.domain false Rows.fnExactLessPathRow.laid) (((OpenSpec.ofChange Rows.fnExactLessPathSpec).at F).post enc Try.prog Try.f11 false true false false) := by
  obtain ⟨places, hx⟩ := reads os enc
  refine returnsInHanded_of_row (C := Try.checked) (s := OpenSpec.ofChange Rows.fnExactLessPathSpec) own started (by kernel_rfl) Try.func11
    (witness_row_at (enc := enc) (C := Try.checked) false (World.holding Try.prog os ⟨#[], #[], []⟩) #[.slice none 0 0, .slice none 0 0] rfl (by kernel_rfl) (by kernel_rfl) (by kernel_rfl)
      (OpenSpec.preRow_of_cond 8 hx (by kernel_rfl) (fun k hk => by cases hk) (by kernel_rfl) (laid_met os))) ?_
  intro W base args ds gs before hval hW _ hcond hsz hL _ _
  exact contract H enc W base args ds gs before hval hW hcond hsz hL

theorem said : Rows.FnExactLessPathSaid :=
  OpenClaim.holds_of_cond 11 Try.f11 rfl rfl rfl rfl rfl rfl rfl ⟨rfl, rfl, rfl, rfl, rfl⟩ rfl rfl rfl rfl rfl (by kernel_rfl) Try.func11 (by kernel_rfl)
    (of_decide_eq_true (by kernel_rfl)) (by unfold Func.isWrapper; first | (rw [if_pos (by decide +kernel)]; kernel_rfl) | (rw [if_neg (by decide +kernel)]; exact ⟨rfl, rfl⟩))
    (fun os started H enc _ F => by rw [OpenClaim.pre_eq_preRow]; exact lifted os started H enc F)

theorem proved : Rows.FnExactLessPathSaid := said
#print axioms proved
end Go.Proofs.Ytgfebmnlcihpnaa.fnExactLessPath
