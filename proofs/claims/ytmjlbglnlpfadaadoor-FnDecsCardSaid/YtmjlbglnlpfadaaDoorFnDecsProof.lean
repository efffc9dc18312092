/- For every input the law FnDecs returns true and its arguments read afterwards as they read before; beside what the row states there is no condition. -/
import Derived.Test.YtmjlbglnlpfadaaDoorCards
import Derived.Test.YtmjlbglnlpfadaaDoorTie
import Derived.WalkKit
import Derived.ProofKit
import Derived.OpenShut
import Derived.SizedLaws
import Derived.Carry
import Derived.Deep.DeepHandedRow
import Derived.Deep.DeepWitnessRowRef
import Derived.LaidMore
import Derived.Lay
import Derived.Lib.LaidTab
import Derived.Stop.LaidErr
import Derived.Test.YtmjlbglnlpfadaaDoorDrawDec
import Derived.Test.YtmjlbglnlpfadaaDoorReadSpec2
import Derived.Test.YtmjlbglnlpfadaaDoorTabs
import Derived.Test.YtmjlbglnlpfadaaDoorDecEq
import Derived.Deep.RegionHeld3
import Derived.Deep.Cut
import Derived.Deep.DeepCutAuto

namespace Go.Proofs.YtmjlbglnlpfadaaDoor.fnDecs
open Go.ChangeShapes Go.WideShapes Go.ChangeAt Go.RowKit
open Go.ChangeMaps (open_string shut_string)
set_option linter.unusedVariables false

theorem own : ownKnob Tryd.prog.godebug = none := by kernel_rfl
theorem laidOut : laidOutB Tryd.prog = true := by kernel_rfl

def Post (W : World) (e : Ending) (w' : World) : Prop := e = .returned (.bool true) ∧ Below W.heap.size W w'
theorem walk_long (a : Option Addr) (len cap : Nat) (W : World) (h : 1048576 < len) (hm : len ≤ maxLen) : Calls Tryd.prog 3 #[.slice a len cap] W (Post W) := by
  go_enter Tryd.func3, Tryd.ntmps3
  go_wp2_with (go_at_call 7; refine (big_yes a len cap _ h hm).mono ?_; rintro e w' ⟨rfl, rfl⟩)
  go_ret
  exact ⟨rfl, Below.refl _ _⟩
theorem isNew_self {n x N X : Int} {ok : Bool} (hv : decOk n x = true) (h : IsNew n x N X ok) : N = n ∧ X = x ∧ ok = true := by
  obtain ⟨r0, r1, r2, _, _⟩ := decOk_range hv
  have hs : IsNew n x n x true := isNew_yes ⟨(digV_17 n).2 r2, by omega, by omega⟩ (same_refl n x) hv
  obtain ⟨rfl, rfl, rfl⟩ := isNew_uniq hs h
  exact ⟨rfl, rfl, rfl⟩
theorem readT_text {n x : Int} (h : decOk n x = true) : readT (decText n x) 0 = .tuple #[.int .i64 n, .int .i64 x, .int .i64 (decText n x).length, .int .i64 0] := by
  rw [show (0 : Int) = ((0 : Nat) : Int) from rfl, readT_in (Nat.zero_le _), read_text h]; rfl
theorem box_in {w : World} {r : Nat} {n x : Int} (h : Box w r n x) : r < w.heap.size := cell_lt h.1
theorem box_next {w W : World} {r : Nat} {n x : Int} (h : Box w r n x) (hb : Below w.heap.size w W) : Box W r n x := h.below hb (box_in h)
set_option maxRecDepth 100000 in
set_option maxHeartbeats 8000000 in
theorem walk (a : Option Addr) (len cap : Nat) (W : World) (hC : CodeAt W a len) (hl : len ≤ 1048576) (htab : Lib.TabIs Tryd.prog W "internal/strconv.uint64pow10" .u64 Lib.pow10Tab) :
    Calls Tryd.prog 3 #[.slice a len cap] W (Post W) := by
  go_enter Tryd.func3, Tryd.ntmps3
  go_wp2_with fail
  refine (big_no a len cap _ hl).mono ?_
  rintro e w' ⟨rfl, rfl⟩
  go_wp2_with fail
  refine (drawdectext_any a len cap W hC hl).mono ?_
  rintro e w1 ⟨n, x, ⟨⟨hn0, hn1⟩, hx⟩, rfl, hb1⟩
  clear hx
  have D1 := Lib.hid (box_new w1 n x 25)
  have hB1 := hb1.alloc (B := W.heap.size) hb1.size (.cells #[.int .i64 n, .int .i64 x] 25)
  clear hb1
  go_wp2_with fail
  generalize hV1 : w1.alloc (.cells #[.int .i64 n, .int .i64 x] 25) = V1 at *
  clear hV1
  have D1 : Hid (Box V1 w1.heap.size n x) := D1
  refine (drawdecnew_any a len cap V1 (hC.below hB1) hl).mono ?_
  rintro e w2 ⟨m, y, ⟨hm0, hm1⟩, hy0, hy1, rfl, hb2⟩
  have hB2 := hB1.trans (hb2.mono hB1.size)
  have D2 := Lib.hid (box_next D1.out hb2)
  clear hC hB1 D1 hb2
  go_wp2_with fail
  refine (decnew_impl m y w2 hm0 hm1).mono ?_
  rintro e w3 ⟨E, F, ok, rfl, hN, hb3⟩
  have hN := Lib.hid hN
  have E3 := Lib.hid (box_new w3 E F 25)
  have D3 := Lib.hid (box_next (box_next D2.out hb3) (below_box w3 (.cells #[.int .i64 E, .int .i64 F] 25)))
  have hB3 := (hB2.trans (hb3.mono hB2.size)).alloc (B := W.heap.size) (Nat.le_trans hB2.size hb3.size) (.cells #[.int .i64 E, .int .i64 F] 25)
  clear hb3 D2 hB2
  go_wp2_with fail
  generalize hV3 : w3.alloc (.cells #[.int .i64 E, .int .i64 F] 25) = V3 at *
  clear hV3
  have D3 : Hid (Box V3 w1.heap.size n x) := D3
  have E3 : Hid (Box V3 w3.heap.size E F) := E3
  refine (decnew_spec m y V3 hm0 hm1).mono ?_
  rintro e w4 ⟨E', F', ok', rfl, hN', hb4⟩
  obtain ⟨rfl, rfl, rfl⟩ := isNew_uniq hN.out hN'
  have F4 := Lib.hid (box_new w4 E' F' 25)
  have D4 := Lib.hid (box_next (box_next D3.out hb4) (below_box w4 (.cells #[.int .i64 E', .int .i64 F'] 25)))
  have E4 := Lib.hid (box_next (box_next E3.out hb4) (below_box w4 (.cells #[.int .i64 E', .int .i64 F'] 25)))
  have hB4 := (hB3.trans (hb4.mono hB3.size)).alloc (B := W.heap.size) (Nat.le_trans hB3.size hb4.size) (.cells #[.int .i64 E', .int .i64 F'] 25)
  clear hb4 D3 E3 hB3 hN'
  obtain ⟨rd, hrd⟩ : ∃ r, r = w1.heap.size := ⟨_, rfl⟩
  obtain ⟨re, hre⟩ : ∃ r, r = w3.heap.size := ⟨_, rfl⟩
  obtain ⟨rf, hrf⟩ : ∃ r, r = w4.heap.size := ⟨_, rfl⟩
  obtain ⟨d0, d1, _, _⟩ := D4.out
  have ct := dectext_impl n x (w4.alloc (.cells #[.int .i64 E', .int .i64 F'] 25)) hn0 hn1 (var_below hB4 htab)
  go_wp2_with fail
  refine ct.mono ?_
  rintro e W0 ⟨rfl, hb0⟩
  have D0 : Box W0 rd n x := by rw [hrd]; exact box_next D4.out hb0
  have E0 : Box W0 re E' F' := by rw [hre]; exact box_next E4.out hb0
  have F0 : Box W0 rf E' F' := by rw [hrf]; exact box_next F4.out hb0
  have hB0 := hB4.trans (hb0.mono hB4.size)
  rw [← hrd, ← hre, ← hrf]
  clear hrd hre hrf hb0 hB4 D4 E4 F4 d0 d1 ct htab hm0 hm1
  have hkeep : ∀ W' : World, Below W0.heap.size W0 W' → W0.heap.size ≤ W'.heap.size → Below W0.heap.size W0 W' ∧ W0.heap.size ≤ W'.heap.size ∧ W'.cell? ⟨rd, 0, none⟩ = some (.int .i64 n) ∧ W'.cell? ⟨rd, 1, none⟩ = some (.int .i64 x) ∧ W'.cell? ⟨re, 0, none⟩ = some (.int .i64 E') ∧ W'.cell? ⟨re, 1, none⟩ = some (.int .i64 F') ∧ W'.cell? ⟨rf, 0, none⟩ = some (.int .i64 E') ∧ W'.cell? ⟨rf, 1, none⟩ = some (.int .i64 F') := fun W' hb hN =>
    ⟨hb, hN, (box_next D0 hb).1, (box_next D0 hb).2.1, (box_next E0 hb).1, (box_next E0 hb).2.1, (box_next F0 hb).1, (box_next F0 hb).2.1⟩
  have hend : ∀ W', Below W0.heap.size W0 W' → Below W.heap.size W W' := fun W' hb => hB0.trans (hb.mono hB0.size)
  clear D0 E0 F0 hB0
  have hB := Below.refl W0.heap.size W0
  have hN0 := Nat.le_refl W0.heap.size
  have cs := relCall (N := W0.heap.size) (W0 := W0) (fun W => dectext_spec n x W hn0 hn1)
  have ci := relCall (N := W0.heap.size) (W0 := W0) (fun W => decok_impl n x W hn0 hn1)
  have cp := relCall (N := W0.heap.size) (W0 := W0) (fun W => decok_spec n x W hn0 hn1)
  have hg := fun x y xs ys w => run_eqGuard_agg (P := Tryd.prog) w .neq 25 x y xs ys (by kernel_rfl)
  have hq := fun w => dec_neq E' F' E' F' w
  have hqq : (!(E' == E' && F' == F')) = false := by simp
  rw [hqq] at hq
  have hoo : (ok' != ok') = false := bne_self_eq_false ok'
  have hT : Hid (decOk n x = true → readT (decText n x) 0 = .tuple #[.int .i64 n, .int .i64 x, .int .i64 (decText n x).length, .int .i64 0]) := Lib.hid readT_text
  have hT0 : Hid (decOk n x = false → decText n x = []) := Lib.hid decText_bad
  have hTl : Hid (decOk n x = true → (decText n x).length ≤ 40) := Lib.hid text_len
  generalize decText n x = T at *
  obtain ⟨v, hv⟩ : ∃ v, v = decOk n x := ⟨_, rfl⟩
  rw [← hv] at ci cp hT hT0 hTl
  have HV := Lib.hid hv
  have hvv : (v != v) = false := bne_self_eq_false v
  clear hv hqq
  obtain ⟨_, _, _, _, _, _, _, _⟩ := hkeep _ hB hN0
  go_upto_region 8 with fail
  go_cut [62] from 19 (fun v wx => v = .bool false ∧ Below W0.heap.size W0 wx ∧ W0.heap.size ≤ wx.heap.size)
  case first =>
    go_region_held3 (fun W' => Below W0.heap.size W0 W' ∧ W0.heap.size ≤ W'.heap.size ∧ W'.cell? ⟨rd, 0, none⟩ = some (.int .i64 n) ∧ W'.cell? ⟨rd, 1, none⟩ = some (.int .i64 x) ∧ W'.cell? ⟨re, 0, none⟩ = some (.int .i64 E') ∧ W'.cell? ⟨re, 1, none⟩ = some (.int .i64 F') ∧ W'.cell? ⟨rf, 0, none⟩ = some (.int .i64 E') ∧ W'.cell? ⟨rf, 1, none⟩ = some (.int .i64 F')) (first | (refine hkeep _ ?_ ?_ <;> assumption) | (refine hkeep _ (Below.drew ?_) ?_ <;> assumption)) ((first | (go_at_call 13; go_split_ands; refine (cs _ ?_ ?_).mono ?_; assumption; assumption; rintro e w' ⟨rfl, hb', hN'⟩) | (go_at_call 14; go_split_ands; refine (ci _ ?_ ?_).mono ?_; assumption; assumption; rintro e w' ⟨rfl, hb', hN'⟩) | (go_at_call 15; go_split_ands; refine (cp _ ?_ ?_).mono ?_; assumption; assumption; rintro e w' ⟨rfl, hb', hN'⟩)))
    all_goals
      go_split_ands
      go_wp2
      go_meet
      case rel => exact ⟨rfl, by assumption, by assumption⟩
  case rest =>
    obtain ⟨rfl, hB2, hN2⟩ := hcut
    clear hB hN0 hg hq hoo hvv cs cp
    cases ok'
    · obtain ⟨_, _, _, _, _, _, _, _⟩ := hkeep _ hB2 hN2
      cases v
      · have hTe := hT0.out rfl
        subst hTe
        go_wp2_with fail
        refine (ci _ hB2 hN2).mono ?_
        rintro e wy ⟨rfl, hB3, hN3⟩
        go_wp2
        go_ret
        exact ⟨rfl, hend _ hB3⟩
      · have hRT := hT.out rfl
        have hTL := hTl.out rfl
        have cr := fun W1 => readnum_impl T 0 W1 (by omega)
        rw [hRT] at cr
        have cn := fun W1 => decnew_impl n x W1 hn0 hn1
        have HV2 : Hid (decOk n x = true) := Lib.hid HV.out.symm
        clear hT hT0 hTl hRT hTL HV
        go_wp2_with fail
        refine (ci _ hB2 hN2).mono ?_
        clear hB2 hN2 ci
        rintro e wy ⟨rfl, hB3, hN3⟩
        go_wp2_with fail
        refine (cr _).mono ?_
        rintro e w6 ⟨rfl, hb6⟩
        have hB6 := hB3.trans (hb6.mono hN3)
        have hN6 := Nat.le_trans hN3 hb6.size
        clear hB3 hN3 hb6 cr
        go_wp2_with fail
        refine (cn _).mono ?_
        rintro e w7 ⟨G, H, ok, rfl, hG, hb7⟩
        obtain ⟨rfl, rfl, rfl⟩ := isNew_self HV2.out hG
        have hB7 := (hB6.trans (hb7.mono hN6)).alloc (B := W0.heap.size) (Nat.le_trans hN6 hb7.size) (.cells #[.int .i64 G, .int .i64 H] 25)
        have hN7 : W0.heap.size ≤ (w7.alloc (.cells #[.int .i64 G, .int .i64 H] 25)).heap.size := by have h1 := Nat.le_trans hN6 hb7.size; simp; omega
        have G7 := Lib.hid (box_new w7 G H 25)
        obtain ⟨d0, d1, _, _, _, _⟩ := (hkeep _ hB7 hN7).2.2
        clear hG hb7 hB6 hN6
        go_wp2_with fail
        refine (cn _).mono ?_
        rintro e w8 ⟨G2, H2, ok2, rfl, hG2, hb8⟩
        obtain ⟨rfl, rfl, rfl⟩ := isNew_self HV2.out hG2
        have hB8 := (hB7.trans (hb8.mono hN7)).alloc (B := W0.heap.size) (Nat.le_trans hN7 hb8.size) (.cells #[.int .i64 G2, .int .i64 H2] 25)
        have hN8 : W0.heap.size ≤ (w8.alloc (.cells #[.int .i64 G2, .int .i64 H2] 25)).heap.size := by have h1 := Nat.le_trans hN7 hb8.size; simp at h1 ⊢; omega
        obtain ⟨g0, g1, _, _⟩ := box_next (box_next G7.out hb8) (below_box w8 (.cells #[.int .i64 G2, .int .i64 H2] 25))
        obtain ⟨d2, d3, _, _, _, _⟩ := (hkeep _ hB8 hN8).2.2
        have hlt : w7.heap.size < w8.heap.size := by have := hb8.size; simp at this; omega
        have hg := fun x y xs ys w => run_eqGuard_agg (P := Tryd.prog) w .eql 25 x y xs ys (by kernel_rfl)
        have hq := fun w => dec_eql G2 H2 G2 H2 w
        have hqq : (G2 == G2 && H2 == H2) = true := by simp
        rw [hqq] at hq
        clear hG2 hb8 hB7 hN7 d0 d1 hqq
        go_wp2
        go_ret
        exact ⟨rfl, hend _ hB8⟩
    · have hEF : decOk E' F' = true := isNew_ok hN.out
      obtain ⟨⟨he0, he1⟩, _⟩ := any_of hEF
      have ce := relCall (N := W0.heap.size) (W0 := W0) (fun W => decok_impl E' F' W he0 he1)
      rw [hEF] at ce
      clear hEF he0 he1
      obtain ⟨_, _, _, _, _, _, _, _⟩ := hkeep _ hB2 hN2
      go_wp2_with fail
      refine (ce _ hB2 hN2).mono ?_
      clear hB2 hN2 ce
      rintro e wx ⟨rfl, hB2, hN2⟩
      obtain ⟨_, _, _, _, _, _, _, _⟩ := hkeep _ hB2 hN2
      cases v
      · have hTe := hT0.out rfl
        subst hTe
        go_wp2_with fail
        refine (ci _ hB2 hN2).mono ?_
        rintro e wy ⟨rfl, hB3, hN3⟩
        go_wp2
        go_ret
        exact ⟨rfl, hend _ hB3⟩
      · have hRT := hT.out rfl
        have hTL := hTl.out rfl
        have cr := fun W1 => readnum_impl T 0 W1 (by omega)
        rw [hRT] at cr
        have cn := fun W1 => decnew_impl n x W1 hn0 hn1
        have HV2 : Hid (decOk n x = true) := Lib.hid HV.out.symm
        clear hT hT0 hTl hRT hTL HV
        go_wp2_with fail
        refine (ci _ hB2 hN2).mono ?_
        clear hB2 hN2 ci
        rintro e wy ⟨rfl, hB3, hN3⟩
        go_wp2_with fail
        refine (cr _).mono ?_
        rintro e w6 ⟨rfl, hb6⟩
        have hB6 := hB3.trans (hb6.mono hN3)
        have hN6 := Nat.le_trans hN3 hb6.size
        clear hB3 hN3 hb6 cr
        go_wp2_with fail
        refine (cn _).mono ?_
        rintro e w7 ⟨G, H, ok, rfl, hG, hb7⟩
        obtain ⟨rfl, rfl, rfl⟩ := isNew_self HV2.out hG
        have hB7 := (hB6.trans (hb7.mono hN6)).alloc (B := W0.heap.size) (Nat.le_trans hN6 hb7.size) (.cells #[.int .i64 G, .int .i64 H] 25)
        have hN7 : W0.heap.size ≤ (w7.alloc (.cells #[.int .i64 G, .int .i64 H] 25)).heap.size := by have h1 := Nat.le_trans hN6 hb7.size; simp; omega
        have G7 := Lib.hid (box_new w7 G H 25)
        obtain ⟨d0, d1, _, _, _, _⟩ := (hkeep _ hB7 hN7).2.2
        clear hG hb7 hB6 hN6
        go_wp2_with fail
        refine (cn _).mono ?_
        rintro e w8 ⟨G2, H2, ok2, rfl, hG2, hb8⟩
        obtain ⟨rfl, rfl, rfl⟩ := isNew_self HV2.out hG2
        have hB8 := (hB7.trans (hb8.mono hN7)).alloc (B := W0.heap.size) (Nat.le_trans hN7 hb8.size) (.cells #[.int .i64 G2, .int .i64 H2] 25)
        have hN8 : W0.heap.size ≤ (w8.alloc (.cells #[.int .i64 G2, .int .i64 H2] 25)).heap.size := by have h1 := Nat.le_trans hN7 hb8.size; simp at h1 ⊢; omega
        obtain ⟨g0, g1, _, _⟩ := box_next (box_next G7.out hb8) (below_box w8 (.cells #[.int .i64 G2, .int .i64 H2] 25))
        obtain ⟨d2, d3, _, _, _, _⟩ := (hkeep _ hB8 hN8).2.2
        have hlt : w7.heap.size < w8.heap.size := by have := hb8.size; simp at this; omega
        have hg := fun x y xs ys w => run_eqGuard_agg (P := Tryd.prog) w .eql 25 x y xs ys (by kernel_rfl)
        have hq := fun w => dec_eql G2 H2 G2 H2 w
        have hqq : (G2 == G2 && H2 == H2) = true := by simp
        rw [hqq] at hq
        clear hG2 hb8 hB7 hN7 d0 d1 hqq
        go_wp2
        go_ret
        exact ⟨rfl, hend _ hB8⟩

set_option maxRecDepth 100000 in
theorem contract (H : Type) (enc : TypeId × Value → H) (W : World) (base : Nat) (args : Array Value) (ds gs : List (DataW H)) (before : List MemPlace)
    (hval : ∀ (j : Nat) t v, Tryd.f3.params[j]? = some t → args[j]? = some v → Value.okWide Tryd.prog W .any base t v)
    (hW : DataW.Whole enc Tryd.prog Tryd.f3.params.toList Rows.fnDecsSpec.vars false W args.toList ds gs before)
    (hcond : ∀ k, (OpenSpec.ofChange Rows.fnDecsSpec).cond = some k → k H (ds ++ gs) = true)
    (hsz : (DataW.weightsEach Tryd.prog (Tryd.f3.params.toList ++ (OpenSpec.ofChange Rows.fnDecsSpec).bare.plain.varTypes Tryd.prog) (ds ++ gs)).all (· ≤ reachBytes) = true)
    (hL : laidMetH Tryd.prog Rows.fnDecsRow.laid W) :
    Calls Tryd.prog 3 args W fun e W' => ∃ v, e = .returned v ∧ Rows.fnDecsSpec.post enc Tryd.prog Tryd.f3 false true false false W args v W' := by
  have hW' := hW
  have hlt := hW'.lt
  obtain ⟨p, q, hA0, hV, rfl, hfz, hnd⟩ := hW
  have hA : DataW.TrodAll enc Tryd.prog W 0 (fun _ => true) true Tryd.f3.params.toList args.toList ds p := hA0
  rw [Tryd.params3] at hA hval hsz
  obtain ⟨v0, vs0, d0, ds0, p0, q0, hargs, rfl, rfl, h0, r0⟩ := trodAll_cons hA
  obtain ⟨rfl, rfl, rfl⟩ := trodAll_nil r0
  obtain rfl : args = #[v0] := by cases args; simp_all
  obtain ⟨rfl, rfl⟩ := trodVars_none hV
  simp only [List.append_nil] at hW' hlt
  have hlt0 : ∀ x ∈ p0, x.block < W.heap.size := fun x hx => hlt x (by simp [hx])
  have hk0 := h0
  clear hA0 hA
  have fin : ∀ W' : World, Below W.heap.size W W' → Rows.fnDecsSpec.post enc Tryd.prog Tryd.f3 false true false false W _ (.bool true) W' := fun W' hb =>
    ⟨_, _, _, [], _, [], hW', trodAll_mk1 (shut_bool Tryd.underlying4 _), (trodAll_cons_mk (Below.trod laidOut (by kernel_rfl) (of_decide_eq_true (by kernel_rfl)) hk0 hb hlt0) trodAll_mk0), rfl, hb.frame _, fun h => by cases h⟩
  refine Calls.mono (R := fun e w' => e = .returned (.bool true) ∧ Below W.heap.size W w') ?_ (fun e W' h => ⟨_, h.1, fin W' h.2⟩)
  clear fin
  rw [MakeChecks.laidMetH_plain _ _ _ (by kernel_rfl)] at hL
  obtain ⟨a, len, cap, rfl, hC, hm⟩ := open_code (hval 0 _ v0 rfl rfl) h0 hlt0
  by_cases hl : 1048576 < len
  · exact walk_long a len cap W hl hm
  · exact walk a len cap W hC (by omega) (tabs_pow10 hL)

theorem laid_met (os : Os) : laidMet Tryd.prog Rows.fnDecsRow.laid (((World.laidAll Tryd.prog os Rows.fnDecsRow.laid)).forCall (fun _ _ => 0) ⟨#[], #[.slice none 0 0], []⟩).memory :=
  laidMet_laidAll _ (by kernel_rfl) (by kernel_rfl)
theorem reads (os : Os) {H : Type} (enc : TypeId × Value → H) : ∃ places, DataW.whole enc Tryd.prog (((World.laidAll Tryd.prog os Rows.fnDecsRow.laid)).forCall (fun _ _ => 0) ⟨#[], #[.slice none 0 0], []⟩).memory Tryd.f3.params.toList Rows.fnDecsSpec.vars false (#[.slice none 0 0] : Array Value).toList 8 = some ([.nil], [], places) :=
  ⟨[], by kernel_rfl⟩

set_option maxRecDepth 100000 in
theorem lifted (os : Os) (started : os.Started) (H : Type) (enc : TypeId × Value → H) (F : Stop.Interp) :
    ReturnsInHanded {} Tryd.checked os 3 .any ((OpenSpec.ofChange Rows.fnDecsSpec).preRow enc Tryd.prog Tryd.f3 Rows.fnDecsRow.domain false Rows.fnDecsRow.laid) (((OpenSpec.ofChange Rows.fnDecsSpec).at F).post enc Tryd.prog Tryd.f3 false true false false) := by
  obtain ⟨places, hx⟩ := reads os enc
  refine returnsInHanded_of_row (C := Tryd.checked) (s := OpenSpec.ofChange Rows.fnDecsSpec) own started (by kernel_rfl) Tryd.func3
    (witness_row_atRef (enc := enc) (C := Tryd.checked) false (World.laidAll Tryd.prog os Rows.fnDecsRow.laid) #[.slice none 0 0] (World.laidAll_os _ _ _) (by kernel_rfl) (by kernel_rfl) (by kernel_rfl)
      (OpenSpec.preRow_of_cond 8 hx (by kernel_rfl) (fun k hk => by cases hk) (by kernel_rfl) (laid_met os))) ?_
  intro W base args ds gs before hval hW _ hcond hsz hL _ _
  exact contract H enc W base args ds gs before hval hW hcond hsz hL

theorem said : Rows.FnDecsSaid :=
  OpenClaim.holds_of_cond 3 Tryd.f3 rfl rfl rfl rfl rfl rfl rfl ⟨rfl, rfl, rfl, rfl, rfl⟩ rfl rfl rfl rfl rfl (by kernel_rfl) Tryd.func3 (by kernel_rfl)
    (of_decide_eq_true (by kernel_rfl)) (by unfold Func.isWrapper; first | (rw [if_pos (by decide +kernel)]; kernel_rfl) | (rw [if_neg (by decide +kernel)]; exact ⟨rfl, rfl⟩))
    (fun os started H enc _ F => by rw [OpenClaim.pre_eq_preRow]; exact lifted os started H enc F)

theorem plain (f : FuncId) (fn : Func) (hf : Tryd.pinned.checked.prog.funcNamed Rows.fnDecsRow.func = some f) (hfn : Tryd.pinned.checked.prog.funcs[f]? = some fn) :
    false = Tryd.pinned.checked.prog.looks [] ∧ ∀ (j : Nat) t, fn.params[j]? = some t → Tryd.pinned.checked.prog.wantsStandIn t = false := by
  obtain rfl : f = 3 := Option.some.inj ((show Tryd.prog.funcNamed Rows.fnDecsRow.func = some 3 by kernel_rfl).symm.trans hf) |>.symm
  obtain rfl : fn = Tryd.f3 := (Option.some.inj (Tryd.func3.symm.trans hfn)).symm
  refine ⟨by kernel_rfl, fun j t ht => ?_⟩
  rw [Tryd.params3] at ht
  have hm : t ∈ [22] := by simpa using Array.mem_of_getElem? ht
  have hall : ([22].all fun u => !Tryd.prog.wantsStandIn u) = true := by kernel_rfl
  exact (show Tryd.prog.wantsStandIn t = false by simpa using List.all_eq_true.1 hall t hm)

theorem proved : Rows.FnDecsCardSaid :=
  Claim7.holds_tied_plain_at .later [] _ _ _ _ said (fun _ h => by cases h) (by kernel_rfl) (fun _ h => by cases h) fnDecs_row_tie rfl ⟨rfl, rfl⟩ (by kernel_rfl) rfl plain (by kernel_rfl)
#print axioms proved
end Go.Proofs.YtmjlbglnlpfadaaDoor.fnDecs
