/- For every input the law FnHex returns true and its arguments read afterwards as they read before; beside what the row states there is no condition. -/
import Derived.Test.YtnbknhbboofiiaaRows
import Derived.WalkKit
import Derived.ProofKit
import Derived.OpenShut
import Derived.SizedLaws
import Derived.Carry
import Derived.Deep.DeepHandedRow


import Derived.Lib.LaidTab
import Derived.Stop.LaidErr
import Derived.Test.YtnbknhbboofiiaaUnhex
import Derived.Test.YtnbknhbboofiiaaSlice
import Derived.Test.YtnbknhbboofiiaaSame
import Derived.Test.YtnbknhbboofiiaaDrawHex

namespace Go.Proofs.Ytnbknhbboofiiaa.fnHex
open Go.ChangeShapes Go.WideShapes Go.ChangeAt Go.RowKit
open Go.ChangeMaps (open_string shut_string)
set_option linter.unusedVariables false

theorem own : ownKnob Try.prog.godebug = none := by kernel_rfl
theorem laidOut : laidOutB Try.prog = true := by kernel_rfl

theorem walk_long (a : Option Addr) (len cap : Nat) (w : World) (h : 1048576 < len) (hm : len ≤ maxLen) : Calls Try.prog 4 #[.slice a len cap] w fun e w' => e = .returned (.bool true) ∧ Below w.heap.size w w' := by
  have hb := big_yes a len cap w h hm
  go_enter Try.func4, Try.ntmps4
  go_wp2_with (go_at_call 11; refine hb.mono ?_; rintro e w' ⟨rfl, rfl⟩)
  go_ret
  exact ⟨rfl, Below.refl _ _⟩
theorem unhex_two (l : List UInt8) : ∃ (r : List UInt8) (t : Bool), r.length ≤ l.length ∧ unhexT l = .tuple #[.string ⟨r.toArray⟩, .bool t] ∧ (t = true → hexL r = l) := by
  cases h : unhex l with
  | none => exact ⟨[], false, Nat.zero_le _, unhexT_none h, fun e => by cases e⟩
  | some r => exact ⟨r, true, by have := unhex_len _ l r (Nat.le_refl _) h; omega, unhexT_some h, fun _ => hexL_unhex _ l r (Nat.le_refl _) h⟩
set_option maxHeartbeats 1000000 in
theorem walk (a : Option Addr) (len cap : Nat) (w : World) (hC : CodeAt w a len) (hl : len ≤ 1048576) : Calls Try.prog 4 #[.slice a len cap] w fun e w' => e = .returned (.bool true) ∧ Below w.heap.size w w' := by
  have hb := big_no a len cap w hl
  have HC := Lib.hid hC
  clear hC
  go_enter Try.func4, Try.ntmps4
  go_wp2_with fail
  refine hb.mono ?_
  rintro e w' ⟨rfl, rfl⟩
  clear hb
  go_wp2_with fail
  refine (draw_hextext a len cap w HC.out hl).mono ?_
  rintro e w1 ⟨lb, hlb, rfl, b1⟩
  have B1 := Lib.hid b1
  clear b1
  go_wp2_with fail
  refine (draw_parsehex a len cap w1 (HC.out.below B1.out) hl).mono ?_
  rintro e w2 ⟨ls, hls, rfl, b2⟩
  have B2 := Lib.hid (B1.out.trans (b2.mono B1.out.size))
  obtain ⟨r, t, hrl, hr, ht⟩ := unhex_two ls
  have hb2 : unhexT (hexL lb) = .tuple #[.string ⟨lb.toArray⟩, .bool true] := unhexT_some (unhex_hexL lb)
  have hxl := hexL_len lb
  have C1 := Lib.hid (fun w => hextext_impl lb w (by omega))
  have C2 := Lib.hid (fun w => hextext_spec lb w (by omega))
  have c3 := fun w => parsehex_impl (hexL lb) w (by omega)
  have c4 := fun w => parsehex_impl ls w (by omega)
  have c5 := fun w => parsehex_spec ls w (by omega)
  have C6 := Lib.hid (fun w => hextext_impl r w (by omega))
  rw [hb2] at c3
  rw [hr] at c4 c5
  have C3 := Lib.hid c3
  have C4 := Lib.hid c4
  have C5 := Lib.hid c5
  have HTT := Lib.hid ht
  clear c3 c4 c5 hr hb2 b2 hrl ht hxl hlb hls
  go_wp2_with fail
  refine (C1.out _).mono ?_
  rintro e w3 ⟨rfl, b3⟩
  have B3 := Lib.hid (B2.out.trans (b3.mono B2.out.size))
  clear b3
  go_wp2_with fail
  refine (C3.out _).mono ?_
  rintro e w4 ⟨rfl, b4⟩
  have B4 := Lib.hid (B3.out.trans (b4.mono B3.out.size))
  clear b4
  go_wp2_with fail
  refine (C4.out _).mono ?_
  rintro e w5 ⟨rfl, b5⟩
  have B5 := Lib.hid (B4.out.trans (b5.mono B4.out.size))
  clear b5
  go_wp2_with fail
  refine (C5.out _).mono ?_
  rintro e w6 ⟨rfl, b6⟩
  have B6 := Lib.hid (B5.out.trans (b6.mono B5.out.size))
  clear b6
  go_wp2_with fail
  refine (draw_slice a len cap w6 (HC.out.below B6.out) hl).mono ?_
  rintro e w7 ⟨g, c, l, n, x, ⟨hl7, hn, hx⟩, hlc, hcm, rfl, o7, b7⟩
  have B7 := Lib.hid (B6.out.trans (b7.mono B6.out.size))
  have O7 := Lib.hid o7
  have CI := Lib.hid (fun w (hc : ∀ j u, (bv l)[j]? = some u → World.cell? w ⟨g, 0 + j, none⟩ = some u) => slice_impl w g 0 c l n x hc hlc hcm (by omega) hn.2)
  have CS := Lib.hid (fun w (hc : ∀ j u, (bv l)[j]? = some u → World.cell? w ⟨g, 0 + j, none⟩ = some u) => slice_spec w g 0 c l n x hc hlc hcm (by omega) hn.2)
  have HP := Lib.hid (show (pieceL l n x).length ≤ 1099511627776 by have := pieceL_len l n x; omega)
  clear o7 b7 hl7 hn hx hlc hcm
  generalize decide (holdB l.length n x) = d at *
  generalize pieceL l n x = p at *
  go_wp2_with fail
  refine (CI.out w7 (fun j u hu => own_cells O7.out j u hu)).mono ?_
  rintro e w8 ⟨v8, rfl, _, o8, b8⟩
  have B8 := Lib.hid (B7.out.trans (b8.mono B7.out.size))
  have P7 := Lib.hid (own_below O7.out b8)
  have O8 := Lib.hid o8
  clear b8 o8
  go_wp2_with fail
  refine (CS.out w8 (fun j u hu => own_cells P7.out j u hu)).mono ?_
  rintro e w9 ⟨v9, rfl, _, o9, b9⟩
  have B9 := Lib.hid (B8.out.trans (b9.mono B8.out.size))
  have P8 := Lib.hid (own_below O8.out b9)
  have O9 := Lib.hid o9
  clear b9 o9
  go_wp2_with fail
  refine (C1.out _).mono ?_
  rintro e w10 ⟨rfl, b10⟩
  have B10 := Lib.hid (B9.out.trans (b10.mono B9.out.size))
  have Q8 := Lib.hid (own_below P8.out b10)
  have Q9 := Lib.hid (own_below O9.out b10)
  clear b10
  have hxx : (hexL lb != hexL lb) = false := by simp
  have hrr : (r != r) = false := by simp
  have htt : (t != t) = false := by simp
  have hdd : (d != d) = false := by simp
  have hbb : (lb == lb) = true := by simp
  go_wp2_with fail
  refine (C2.out _).mono ?_
  rintro e w11 ⟨rfl, b11⟩
  have B11 := Lib.hid (B10.out.trans (b11.mono B10.out.size))
  have R8 := Lib.hid (own_below Q8.out b11)
  have R9 := Lib.hid (own_below Q9.out b11)
  clear b11
  have ce := same_yes w11 _ _ _ (own_reads R8.out) (own_reads R9.out) HP.out
  go_wp2_with fail
  refine ce.mono ?_
  rintro e w12 ⟨rfl, b12⟩
  have B12 := Lib.hid (B11.out.trans (b12.mono B11.out.size))
  clear b12 ce
  cases t
  · go_wp2
    go_ret
    exact ⟨rfl, B12.out⟩
  · have hh := HTT.out rfl
    have c6 := C6.out
    rw [hh] at c6
    have hll : (ls == ls) = true := by simp
    clear hh
    go_wp2_with fail
    refine (c6 _).mono ?_
    rintro e w13 ⟨rfl, b13⟩
    have B13 := Lib.hid (B12.out.trans (b13.mono B12.out.size))
    clear b13 c6
    go_wp2
    go_ret
    exact ⟨rfl, B13.out⟩

theorem contract (H : Type) (enc : TypeId × Value → H) (W : World) (base : Nat) (args : Array Value) (ds gs : List (DataW H)) (before : List MemPlace)
    (hval : ∀ (j : Nat) t v, Try.f4.params[j]? = some t → args[j]? = some v → Value.okWide Try.prog W .any base t v)
    (hW : DataW.Whole enc Try.prog Try.f4.params.toList Rows.fnHexSpec.vars false W args.toList ds gs before)
    (hcond : ∀ k, (OpenSpec.ofChange Rows.fnHexSpec).cond = some k → k H (ds ++ gs) = true)
    (hsz : (DataW.weightsEach Try.prog (Try.f4.params.toList ++ (OpenSpec.ofChange Rows.fnHexSpec).bare.plain.varTypes Try.prog) (ds ++ gs)).all (· ≤ reachBytes) = true)
    (hL : laidMetH Try.prog Rows.fnHexRow.laid W) :
    Calls Try.prog 4 args W fun e W' => ∃ v, e = .returned v ∧ Rows.fnHexSpec.post enc Try.prog Try.f4 false true false false W args v W' := by
  have hW' := hW
  have hlt := hW'.lt
  obtain ⟨p, q, hA0, hV, rfl, hfz, hnd⟩ := hW
  have hA : DataW.TrodAll enc Try.prog W 0 (fun _ => true) true Try.f4.params.toList args.toList ds p := hA0
  rw [Try.params4] at hA hval hsz
  obtain ⟨v0, vs0, d0, ds0, p0, q0, hargs, rfl, rfl, h0, r0⟩ := trodAll_cons hA
  obtain ⟨rfl, rfl, rfl⟩ := trodAll_nil r0
  obtain rfl : args = #[v0] := by cases args; simp_all
  obtain ⟨rfl, rfl⟩ := trodVars_none hV
  simp only [List.append_nil] at hW' hlt
  have hlt0 : ∀ x ∈ p0, x.block < W.heap.size := fun x hx => hlt x (by simp [hx])
  have hk0 := h0
  clear hA0 hA
  have fin : ∀ W' : World, Below W.heap.size W W' → Rows.fnHexSpec.post enc Try.prog Try.f4 false true false false W _ (.bool true) W' := fun W' hb =>
    ⟨_, _, _, [], _, [], hW', trodAll_mk1 (shut_bool Try.underlying4 _), (trodAll_cons_mk (Below.trod laidOut (by kernel_rfl) (of_decide_eq_true (by kernel_rfl)) hk0 hb hlt0) trodAll_mk0), rfl, hb.frame _, fun h => by cases h⟩
  refine Calls.mono (R := fun e w' => e = .returned (.bool true) ∧ Below W.heap.size W w') ?_ (fun e W' h => ⟨_, h.1, fin W' h.2⟩)
  clear fin
  obtain ⟨a, len, cap, rfl, hC, hm⟩ := open_code (hval 0 _ v0 rfl rfl) h0 hlt0
  by_cases hl : 1048576 < len
  · exact walk_long a len cap W hl hm
  · exact walk a len cap W hC (by omega)

theorem laid_met (os : Os) : laidMet Try.prog Rows.fnHexRow.laid (((World.holding Try.prog os ⟨#[], #[], []⟩)).forCall (fun _ _ => 0) ⟨#[], #[.slice none 0 0], []⟩).memory :=
  ⟨[], rfl, List.nodup_nil, fun _ _ h => by cases h⟩
theorem reads (os : Os) {H : Type} (enc : TypeId × Value → H) : ∃ places, DataW.whole enc Try.prog (((World.holding Try.prog os ⟨#[], #[], []⟩)).forCall (fun _ _ => 0) ⟨#[], #[.slice none 0 0], []⟩).memory Try.f4.params.toList Rows.fnHexSpec.vars false (#[.slice none 0 0] : Array Value).toList 8 = some ([.nil], [], places) :=
  ⟨[], by kernel_rfl⟩

set_option maxRecDepth 100000 in
theorem lifted (os : Os) (started : os.Started) (H : Type) (enc : TypeId × Value → H) (F : Stop.Interp) :
    ReturnsInHanded {} Try.checked os 4 .any ((OpenSpec.ofChange Rows.fnHexSpec).preRow enc Try.prog Try.f4 Rows.fnHexRow.domain false Rows.fnHexRow.laid) (((OpenSpec.ofChange Rows.fnHexSpec).at F).post enc Try.prog Try.f4 false true false false) := by
  obtain ⟨places, hx⟩ := reads os enc
  refine returnsInHanded_of_row (C := Try.checked) (s := OpenSpec.ofChange Rows.fnHexSpec) own started (by kernel_rfl) Try.func4
    (witness_row_at (enc := enc) (C := Try.checked) false (World.holding Try.prog os ⟨#[], #[], []⟩) #[.slice none 0 0] rfl (by kernel_rfl) (by kernel_rfl) (by kernel_rfl)
      (OpenSpec.preRow_of_cond 8 hx (by kernel_rfl) (fun k hk => by cases hk) (by kernel_rfl) (laid_met os))) ?_
  intro W base args ds gs before hval hW _ hcond hsz hL _ _
  exact contract H enc W base args ds gs before hval hW hcond hsz hL

theorem said : Rows.FnHexSaid :=
  OpenClaim.holds_of_cond 4 Try.f4 rfl rfl rfl rfl rfl rfl rfl ⟨rfl, rfl, rfl, rfl, rfl⟩ rfl rfl rfl rfl rfl (by kernel_rfl) Try.func4 (by kernel_rfl)
    (of_decide_eq_true (by kernel_rfl)) (by unfold Func.isWrapper; first | (rw [if_pos (by decide +kernel)]; kernel_rfl) | (rw [if_neg (by decide +kernel)]; exact ⟨rfl, rfl⟩))
    (fun os started H enc _ F => by rw [OpenClaim.pre_eq_preRow]; exact lifted os started H enc F)

theorem proved : Rows.FnHexSaid := said
#print axioms proved
end Go.Proofs.Ytnbknhbboofiiaa.fnHex
