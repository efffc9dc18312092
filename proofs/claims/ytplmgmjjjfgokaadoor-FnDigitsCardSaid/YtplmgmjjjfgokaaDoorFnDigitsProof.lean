/- For every input the law FnDigits returns true and its arguments read afterwards as they read before; beside what the row states there is no condition. -/
import Derived.Test.YtplmgmjjjfgokaaDoorCards
import Derived.Test.YtplmgmjjjfgokaaDoorTie
import Derived.WalkKit
import Derived.ProofKit
import Derived.OpenShut
import Derived.SizedLaws
import Derived.Carry
import Derived.Deep.DeepHandedRow
import Derived.Deep.DeepWitnessRowRef
import Derived.LaidMore
import Derived.Lib.LaidTab
import Derived.Stop.LaidErr
import Derived.Test.YtplmgmjjjfgokaaDoorDrawText
import Derived.Test.YtplmgmjjjfgokaaDoorParseNum
import Derived.Test.YtplmgmjjjfgokaaDoorTabs
import Derived.Test.YtplmgmjjjfgokaaDoorDig

namespace Go.Proofs.YtplmgmjjjfgokaaDoor.fnDigits
open Go.ChangeShapes Go.WideShapes Go.ChangeAt Go.RowKit
open Go.ChangeMaps (open_string shut_string)
set_option linter.unusedVariables false

theorem own : ownKnob Tryd.prog.godebug = none := by kernel_rfl
theorem laidOut : laidOutB Tryd.prog = true := by kernel_rfl

theorem dec_len : ∀ k (v : Nat), v < 10 ^ (k + 1) → (Lib.decDigits v).length ≤ k + 1 := by
  intro k
  induction k with
  | zero => intro v hv; rw [Lib.decDigits, dif_pos (by omega)]; simp
  | succ k ih =>
    intro v hv
    rw [Lib.decDigits]
    by_cases h : v < 10
    · rw [dif_pos h]; simp
    · rw [dif_neg h, List.length_append]
      have := ih (v / 10) (by rw [Nat.pow_succ] at hv; omega)
      simp only [List.length_singleton]
      omega
theorem itoa_len (n : Int) (h0 : -9223372036854775808 ≤ n) (h1 : n ≤ 9223372036854775807) : (Lib.itoa n).length ≤ 1048576 := by
  have a1 := dec_len 18 n.natAbs (by omega)
  have a2 := dec_len 18 n.toNat (by omega)
  unfold Lib.itoa
  by_cases h : n < 0
  · rw [if_pos h, List.length_cons]; omega
  · rw [if_neg h]; omega
theorem itoa_inj (a b : Int) (h : Lib.itoa a = Lib.itoa b) : a = b := by
  unfold Lib.itoa at h
  by_cases ha : a < 0
  · by_cases hb : b < 0
    · rw [if_pos ha, if_pos hb] at h
      injection h with _ h
      have e1 := decDigits_val a.natAbs
      have e2 := decDigits_val b.natAbs
      rw [h] at e1; omega
    · rw [if_pos ha, if_neg hb] at h
      obtain ⟨c, r, e, hd⟩ := dec_head b.toNat
      rw [e] at h; injection h with h _; subst h
      unfold isDig at hd
      have e45 : (45 : UInt8).toNat = 45 := rfl
      omega
  · by_cases hb : b < 0
    · rw [if_neg ha, if_pos hb] at h
      obtain ⟨c, r, e, hd⟩ := dec_head a.toNat
      rw [e] at h; injection h with h _; subst h
      unfold isDig at hd
      have e45 : (45 : UInt8).toNat = 45 := rfl
      omega
    · rw [if_neg ha, if_neg hb] at h
      have e1 := decDigits_val a.toNat
      have e2 := decDigits_val b.toNat
      rw [h] at e1; omega
theorem pn_yes_val (l : List UInt8) (h : pnOk l = true) : Lib.itoa (pnVal l) = l ∧ -1000000000000000 ≤ pnVal l ∧ pnVal l ≤ 1000000000000000 := by
  obtain ⟨n, rfl, h0, h1⟩ := pn_to l h
  rw [(pn_of n h0 h1).2]; exact ⟨rfl, h0, h1⟩
theorem pn_no_val (l : List UInt8) (h : pnOk l = false) : pnVal l = 0 := by
  unfold pnVal; rw [if_neg (by rw [h]; decide)]
theorem rel {P : Program} {f : FuncId} {args : Array Value} {v : Value} {W0 : World} (h : ∀ W, Below W0.heap.size W0 W → Calls P f args W fun e w' => e = .returned v ∧ Below W.heap.size W w') :
    ∀ W, Below W0.heap.size W0 W → Calls P f args W fun e w' => e = .returned v ∧ Below W0.heap.size W0 w' :=
  fun W hb => (h W hb).mono fun _ _ ⟨he, hb2⟩ => ⟨he, hb.trans (hb2.mono hb.size)⟩
def Post (W0 : World) (e : Ending) (w' : World) : Prop := e = .returned (.bool true) ∧ Below W0.heap.size W0 w'
theorem walk_long (a : Option Addr) (len cap : Nat) (W : World) (h : 1048576 < len) (hm : len ≤ maxLen) : Calls Tryd.prog 3 #[.slice a len cap] W (Post W) := by
  go_enter Tryd.func3, Tryd.ntmps3
  go_wp2_with (go_at_call 6; refine (big_yes a len cap _ h hm).mono ?_; rintro e w' ⟨rfl, rfl⟩)
  go_ret
  exact ⟨rfl, Below.refl _ _⟩
theorem ret_bool {a b : Bool} (h : a = b) : Ending.returned (.bool a) = .returned (.bool b) := by rw [h]
set_option maxRecDepth 100000 in
set_option maxHeartbeats 8000000 in
theorem walk (a : Option Addr) (len cap : Nat) (W : World) (hC : CodeAt W a len) (hl : len ≤ 1048576) (htab : Lib.TabIs Tryd.prog W "internal/strconv.uint64pow10" .u64 Lib.pow10Tab)
    (ts : TypeId) (ps : Value) (hS : W.var? Tryd.prog "strconv.ErrSyntax" = some #[.iface ts ps]) (tr : TypeId) (pr : Value) (hR : W.var? Tryd.prog "strconv.ErrRange" = some #[.iface tr pr]) :
    Calls Tryd.prog 3 #[.slice a len cap] W (Post W) := by
  have PIany : ∀ l : List UInt8, l.length ≤ 1048576 → ∀ W1, Below W.heap.size W W1 → Calls Tryd.prog 9 #[.string ⟨l.toArray⟩] W1 fun e w' => e = .returned (.tuple #[.int .i64 (pnVal l), .bool (pnOk l)]) ∧ Below W.heap.size W w' :=
    fun l hl => rel fun W1 hb => parsenum_impl l W1 hl (var_below hb htab) ts ps (var_below hb hS) tr pr (var_below hb hR)
  have NIany : ∀ n : Int, isInt n → ∀ W1, Below W.heap.size W W1 → Calls Tryd.prog 10 #[.int .i64 n] W1 fun e w' => e = .returned (.string ⟨(Lib.itoa n).toArray⟩) ∧ Below W.heap.size W w' :=
    fun n hn => rel fun W1 hb => numtext_impl n W1 hn.1 hn.2 (var_below hb htab)
  have DD : ∀ W1, Below W.heap.size W W1 → Calls Tryd.prog 12 #[.slice a len cap] W1 fun e w' => ∃ x : Int, -9223372036854775808 ≤ x ∧ x ≤ 9223372036854775807 ∧ e = .returned (.int .i64 x) ∧ Below W.heap.size W w' :=
    fun W1 hb => (drawone_dig a len cap W1 (hC.below hb) hl).mono fun _ _ ⟨x, hx, he, hb2⟩ => ⟨x, hx.1, hx.2, he, hb.trans (hb2.mono hb.size)⟩
  have DI : ∀ x : Int, -9223372036854775808 ≤ x → x ≤ 9223372036854775807 → ∀ W1, Below W.heap.size W W1 → Calls Tryd.prog 14 #[.int .i64 x] W1 fun e w' => e = .returned (.int .i64 (digV x)) ∧ Below W.heap.size W w' :=
    fun x h0 h1 W1 hb => (digits_impl x W1 h0 h1).mono fun _ _ ⟨he, hw⟩ => ⟨he, by subst hw; exact hb⟩
  have DS : ∀ x : Int, -9223372036854775808 ≤ x → x ≤ 9223372036854775807 → ∀ W1, Below W.heap.size W W1 → Calls Tryd.prog 15 #[.int .i64 x] W1 fun e w' => e = .returned (.int .i64 (digV x)) ∧ Below W.heap.size W w' :=
    fun x h0 h1 W1 hb => (digits_spec x W1 h0 h1).mono fun _ _ ⟨he, hw⟩ => ⟨he, by subst hw; exact hb⟩
  clear htab hS hR
  go_enter Tryd.func3, Tryd.ntmps3
  go_wp2_with fail
  refine (big_no a len cap _ hl).mono ?_
  rintro e w' ⟨rfl, rfl⟩
  go_wp2_with fail
  refine (drawone_num a len cap W hC hl).mono ?_
  rintro e w1 ⟨n, hn, rfl, hb1⟩
  go_wp2_with fail
  refine (drawparse_any a len cap w1 (hC.below hb1) hl).mono ?_
  rintro e w2 ⟨l, hlen, rfl, hb2⟩
  have hB := hb1.trans (hb2.mono hb1.size)
  clear hb1 hb2 hC
  have NI := NIany n hn
  have NS : ∀ W1, Below W.heap.size W W1 → Calls Tryd.prog 13 #[.int .i64 n] W1 fun e w' => e = .returned (.string ⟨(Lib.itoa n).toArray⟩) ∧ Below W.heap.size W w' := rel fun W1 hb => numtext_spec n W1 hn.1 hn.2
  have PN := PIany (Lib.itoa n) (itoa_len n hn.1 hn.2)
  have PI := PIany l (by omega)
  have PS : ∀ W1, Below W.heap.size W W1 → Calls Tryd.prog 11 #[.string ⟨l.toArray⟩] W1 fun e w' => e = .returned (.tuple #[.int .i64 (pnVal l), .bool (pnOk l)]) ∧ Below W.heap.size W w' := rel fun W1 hb => parsenum_spec l W1 (by omega)
  clear PIany hlen
  obtain ⟨hn0, hn1⟩ := hn
  obtain ⟨u, hu⟩ : ∃ u, u = pnVal l := ⟨_, rfl⟩
  obtain ⟨t, ht⟩ : ∃ t, t = Lib.itoa n := ⟨_, rfl⟩
  cases hok : pnOk l
  · have hz := pn_no_val l hok
    rw [hok, hz] at PI PS
    clear hok hz hu NIany
    by_cases h1 : n < -1000000000000000
    · have hno := pn_no (Lib.itoa n) (by rintro ⟨m, e, m0, m1⟩; have := itoa_inj m n e; omega)
      rw [hno.1, hno.2] at PN
      rw [← ht] at PN NI NS
      clear ht hno
      go_wp2_with (first | (go_at_call 10; (first | (with_reducible refine (NI _ hB).mono ?_) | (with_reducible refine (NW _ hB).mono ?_)); clear hB; rintro e w' ⟨rfl, hB⟩) | (go_at_call 13; refine (NS _ hB).mono ?_; clear hB; rintro e w' ⟨rfl, hB⟩) | (go_at_call 9; (first | (with_reducible refine (PN _ hB).mono ?_) | (with_reducible refine (PI _ hB).mono ?_)); clear hB; rintro e w' ⟨rfl, hB⟩) | (go_at_call 11; refine (PS _ hB).mono ?_; clear hB; rintro e w' ⟨rfl, hB⟩) | (go_at_call 12; refine (DD _ hB).mono ?_; clear hB; rintro e w' ⟨dd, hd0, hd1, rfl, hB⟩) | (go_at_call 14; refine (DI _ hd0 hd1 _ hB).mono ?_; clear hB; rintro e w' ⟨rfl, hB⟩) | (go_at_call 15; refine (DS _ hd0 hd1 _ hB).mono ?_; clear hB; rintro e w' ⟨rfl, hB⟩))
      go_ret
      first | exact ⟨rfl, hB⟩ | exact ⟨ret_bool (by simp; omega), hB⟩
    · by_cases h2 : 1000000000000000 < n
      · have hno := pn_no (Lib.itoa n) (by rintro ⟨m, e, m0, m1⟩; have := itoa_inj m n e; omega)
        rw [hno.1, hno.2] at PN
        rw [← ht] at PN NI NS
        clear ht hno
        go_wp2_with (first | (go_at_call 10; (first | (with_reducible refine (NI _ hB).mono ?_) | (with_reducible refine (NW _ hB).mono ?_)); clear hB; rintro e w' ⟨rfl, hB⟩) | (go_at_call 13; refine (NS _ hB).mono ?_; clear hB; rintro e w' ⟨rfl, hB⟩) | (go_at_call 9; (first | (with_reducible refine (PN _ hB).mono ?_) | (with_reducible refine (PI _ hB).mono ?_)); clear hB; rintro e w' ⟨rfl, hB⟩) | (go_at_call 11; refine (PS _ hB).mono ?_; clear hB; rintro e w' ⟨rfl, hB⟩) | (go_at_call 12; refine (DD _ hB).mono ?_; clear hB; rintro e w' ⟨dd, hd0, hd1, rfl, hB⟩) | (go_at_call 14; refine (DI _ hd0 hd1 _ hB).mono ?_; clear hB; rintro e w' ⟨rfl, hB⟩) | (go_at_call 15; refine (DS _ hd0 hd1 _ hB).mono ?_; clear hB; rintro e w' ⟨rfl, hB⟩))
        go_ret
        first | exact ⟨rfl, hB⟩ | exact ⟨ret_bool (by simp; omega), hB⟩
      · have hyes := pn_of n (by omega) (by omega)
        rw [hyes.1, hyes.2] at PN
        rw [← ht] at PN NI NS
        clear ht hyes
        go_wp2_with (first | (go_at_call 10; (first | (with_reducible refine (NI _ hB).mono ?_) | (with_reducible refine (NW _ hB).mono ?_)); clear hB; rintro e w' ⟨rfl, hB⟩) | (go_at_call 13; refine (NS _ hB).mono ?_; clear hB; rintro e w' ⟨rfl, hB⟩) | (go_at_call 9; (first | (with_reducible refine (PN _ hB).mono ?_) | (with_reducible refine (PI _ hB).mono ?_)); clear hB; rintro e w' ⟨rfl, hB⟩) | (go_at_call 11; refine (PS _ hB).mono ?_; clear hB; rintro e w' ⟨rfl, hB⟩) | (go_at_call 12; refine (DD _ hB).mono ?_; clear hB; rintro e w' ⟨dd, hd0, hd1, rfl, hB⟩) | (go_at_call 14; refine (DI _ hd0 hd1 _ hB).mono ?_; clear hB; rintro e w' ⟨rfl, hB⟩) | (go_at_call 15; refine (DS _ hd0 hd1 _ hB).mono ?_; clear hB; rintro e w' ⟨rfl, hB⟩))
        go_ret
        first | exact ⟨rfl, hB⟩ | exact ⟨ret_bool (by simp; omega), hB⟩
  · have hz := pn_yes_val l hok
    have NW := NIany (pnVal l) ⟨by omega, by omega⟩
    rw [hok, ← hu] at PI PS
    rw [hz.1, ← hu] at NW
    clear hok hz hu NIany
    by_cases h1 : n < -1000000000000000
    · have hno := pn_no (Lib.itoa n) (by rintro ⟨m, e, m0, m1⟩; have := itoa_inj m n e; omega)
      rw [hno.1, hno.2] at PN
      rw [← ht] at PN NI NS
      clear ht hno
      go_wp2_with (first | (go_at_call 10; (first | (with_reducible refine (NI _ hB).mono ?_) | (with_reducible refine (NW _ hB).mono ?_)); clear hB; rintro e w' ⟨rfl, hB⟩) | (go_at_call 13; refine (NS _ hB).mono ?_; clear hB; rintro e w' ⟨rfl, hB⟩) | (go_at_call 9; (first | (with_reducible refine (PN _ hB).mono ?_) | (with_reducible refine (PI _ hB).mono ?_)); clear hB; rintro e w' ⟨rfl, hB⟩) | (go_at_call 11; refine (PS _ hB).mono ?_; clear hB; rintro e w' ⟨rfl, hB⟩) | (go_at_call 12; refine (DD _ hB).mono ?_; clear hB; rintro e w' ⟨dd, hd0, hd1, rfl, hB⟩) | (go_at_call 14; refine (DI _ hd0 hd1 _ hB).mono ?_; clear hB; rintro e w' ⟨rfl, hB⟩) | (go_at_call 15; refine (DS _ hd0 hd1 _ hB).mono ?_; clear hB; rintro e w' ⟨rfl, hB⟩))
      go_ret
      first | exact ⟨rfl, hB⟩ | exact ⟨ret_bool (by simp; omega), hB⟩
    · by_cases h2 : 1000000000000000 < n
      · have hno := pn_no (Lib.itoa n) (by rintro ⟨m, e, m0, m1⟩; have := itoa_inj m n e; omega)
        rw [hno.1, hno.2] at PN
        rw [← ht] at PN NI NS
        clear ht hno
        go_wp2_with (first | (go_at_call 10; (first | (with_reducible refine (NI _ hB).mono ?_) | (with_reducible refine (NW _ hB).mono ?_)); clear hB; rintro e w' ⟨rfl, hB⟩) | (go_at_call 13; refine (NS _ hB).mono ?_; clear hB; rintro e w' ⟨rfl, hB⟩) | (go_at_call 9; (first | (with_reducible refine (PN _ hB).mono ?_) | (with_reducible refine (PI _ hB).mono ?_)); clear hB; rintro e w' ⟨rfl, hB⟩) | (go_at_call 11; refine (PS _ hB).mono ?_; clear hB; rintro e w' ⟨rfl, hB⟩) | (go_at_call 12; refine (DD _ hB).mono ?_; clear hB; rintro e w' ⟨dd, hd0, hd1, rfl, hB⟩) | (go_at_call 14; refine (DI _ hd0 hd1 _ hB).mono ?_; clear hB; rintro e w' ⟨rfl, hB⟩) | (go_at_call 15; refine (DS _ hd0 hd1 _ hB).mono ?_; clear hB; rintro e w' ⟨rfl, hB⟩))
        go_ret
        first | exact ⟨rfl, hB⟩ | exact ⟨ret_bool (by simp; omega), hB⟩
      · have hyes := pn_of n (by omega) (by omega)
        rw [hyes.1, hyes.2] at PN
        rw [← ht] at PN NI NS
        clear ht hyes
        go_wp2_with (first | (go_at_call 10; (first | (with_reducible refine (NI _ hB).mono ?_) | (with_reducible refine (NW _ hB).mono ?_)); clear hB; rintro e w' ⟨rfl, hB⟩) | (go_at_call 13; refine (NS _ hB).mono ?_; clear hB; rintro e w' ⟨rfl, hB⟩) | (go_at_call 9; (first | (with_reducible refine (PN _ hB).mono ?_) | (with_reducible refine (PI _ hB).mono ?_)); clear hB; rintro e w' ⟨rfl, hB⟩) | (go_at_call 11; refine (PS _ hB).mono ?_; clear hB; rintro e w' ⟨rfl, hB⟩) | (go_at_call 12; refine (DD _ hB).mono ?_; clear hB; rintro e w' ⟨dd, hd0, hd1, rfl, hB⟩) | (go_at_call 14; refine (DI _ hd0 hd1 _ hB).mono ?_; clear hB; rintro e w' ⟨rfl, hB⟩) | (go_at_call 15; refine (DS _ hd0 hd1 _ hB).mono ?_; clear hB; rintro e w' ⟨rfl, hB⟩))
        go_ret
        first | exact ⟨rfl, hB⟩ | exact ⟨ret_bool (by simp; omega), hB⟩

theorem contract (H : Type) (enc : TypeId × Value → H) (W : World) (base : Nat) (args : Array Value) (ds gs : List (DataW H)) (before : List MemPlace)
    (hval : ∀ (j : Nat) t v, Tryd.f3.params[j]? = some t → args[j]? = some v → Value.okWide Tryd.prog W .any base t v)
    (hW : DataW.Whole enc Tryd.prog Tryd.f3.params.toList Rows.fnDigitsSpec.vars false W args.toList ds gs before)
    (hcond : ∀ k, (OpenSpec.ofChange Rows.fnDigitsSpec).cond = some k → k H (ds ++ gs) = true)
    (hsz : (DataW.weightsEach Tryd.prog (Tryd.f3.params.toList ++ (OpenSpec.ofChange Rows.fnDigitsSpec).bare.plain.varTypes Tryd.prog) (ds ++ gs)).all (· ≤ reachBytes) = true)
    (hL : laidMetH Tryd.prog Rows.fnDigitsRow.laid W) :
    Calls Tryd.prog 3 args W fun e W' => ∃ v, e = .returned v ∧ Rows.fnDigitsSpec.post enc Tryd.prog Tryd.f3 false true false false W args v W' := by
  have hW' := hW
  have hlt := hW'.lt
  obtain ⟨p, q, hA0, hV, rfl, hfz, hnd⟩ := hW
  have hA : DataW.TrodAll enc Tryd.prog W 0 (fun _ => true) true Tryd.f3.params.toList args.toList ds p := hA0
  rw [Tryd.params3] at hA hval hsz
  obtain ⟨v0, vs0, d0, ds0, p0, q0, hargs, rfl, rfl, h0, r0⟩ := trodAll_cons hA
  obtain ⟨rfl, rfl, rfl⟩ := trodAll_nil r0
  obtain rfl : args = #[v0] := by cases args; simp_all
  obtain ⟨rfl, rfl⟩ := trodVars_none hV
  simp only [List.append_nil] at hW' hlt
  have hlt0 : ∀ x ∈ p0, x.block < W.heap.size := fun x hx => hlt x (by simp [hx])
  have hk0 := h0
  clear hA0 hA
  have fin : ∀ W' : World, Below W.heap.size W W' → Rows.fnDigitsSpec.post enc Tryd.prog Tryd.f3 false true false false W _ (.bool true) W' := fun W' hb =>
    ⟨_, _, _, [], _, [], hW', trodAll_mk1 (shut_bool Tryd.underlying4 _), (trodAll_cons_mk (Below.trod laidOut (by kernel_rfl) (of_decide_eq_true (by kernel_rfl)) hk0 hb hlt0) trodAll_mk0), rfl, hb.frame _, fun h => by cases h⟩
  refine Calls.mono (R := fun e w' => e = .returned (.bool true) ∧ Below W.heap.size W w') ?_ (fun e W' h => ⟨_, h.1, fin W' h.2⟩)
  clear fin
  rw [MakeChecks.laidMetH_plain _ _ _ (by kernel_rfl)] at hL
  obtain ⟨⟨ps, hS⟩, ⟨pr, hR⟩⟩ := errs_of hL
  obtain ⟨a, len, cap, rfl, hC, hm⟩ := open_code (hval 0 _ v0 rfl rfl) h0 hlt0
  by_cases hl : 1048576 < len
  · exact walk_long a len cap W hl hm
  · exact walk a len cap W hC (by omega) (tabs_pow10 hL) _ ps hS _ pr hR

theorem laid_met (os : Os) : laidMet Tryd.prog Rows.fnDigitsRow.laid (((World.doorLaid Tryd.prog 4000 os)).forCall (fun _ _ => 0) ⟨#[], #[.slice none 0 0], []⟩).memory :=
  (laidMet_of_run' 8 (by kernel_rfl) (by kernel_rfl))
theorem reads (os : Os) {H : Type} (enc : TypeId × Value → H) : ∃ places, DataW.whole enc Tryd.prog (((World.doorLaid Tryd.prog 4000 os)).forCall (fun _ _ => 0) ⟨#[], #[.slice none 0 0], []⟩).memory Tryd.f3.params.toList Rows.fnDigitsSpec.vars false (#[.slice none 0 0] : Array Value).toList 8 = some ([.nil], [], places) :=
  ⟨[], by kernel_rfl⟩

set_option maxRecDepth 100000 in
theorem lifted (os : Os) (started : os.Started) (H : Type) (enc : TypeId × Value → H) (F : Stop.Interp) :
    ReturnsInHanded {} Tryd.checked os 3 .any ((OpenSpec.ofChange Rows.fnDigitsSpec).preRow enc Tryd.prog Tryd.f3 Rows.fnDigitsRow.domain false Rows.fnDigitsRow.laid) (((OpenSpec.ofChange Rows.fnDigitsSpec).at F).post enc Tryd.prog Tryd.f3 false true false false) := by
  obtain ⟨places, hx⟩ := reads os enc
  refine returnsInHanded_of_row (C := Tryd.checked) (s := OpenSpec.ofChange Rows.fnDigitsSpec) own started (by kernel_rfl) Tryd.func3
    (witness_row_atRef (enc := enc) (C := Tryd.checked) false (World.doorLaid Tryd.prog 4000 os) #[.slice none 0 0] rfl (by kernel_rfl) (by kernel_rfl) (by kernel_rfl)
      (OpenSpec.preRow_of_cond 8 hx (by kernel_rfl) (fun k hk => by cases hk) (by kernel_rfl) (laid_met os))) ?_
  intro W base args ds gs before hval hW _ hcond hsz hL _ _
  exact contract H enc W base args ds gs before hval hW hcond hsz hL

theorem said : Rows.FnDigitsSaid :=
  OpenClaim.holds_of_cond 3 Tryd.f3 rfl rfl rfl rfl rfl rfl rfl ⟨rfl, rfl, rfl, rfl, rfl⟩ rfl rfl rfl rfl rfl (by kernel_rfl) Tryd.func3 (by kernel_rfl)
    (of_decide_eq_true (by kernel_rfl)) (by unfold Func.isWrapper; first | (rw [if_pos (by decide +kernel)]; kernel_rfl) | (rw [if_neg (by decide +kernel)]; exact ⟨rfl, rfl⟩))
    (fun os started H enc _ F => by rw [OpenClaim.pre_eq_preRow]; exact lifted os started H enc F)

theorem plain (f : FuncId) (fn : Func) (hf : Tryd.pinned.checked.prog.funcNamed Rows.fnDigitsRow.func = some f) (hfn : Tryd.pinned.checked.prog.funcs[f]? = some fn) :
    true = Tryd.pinned.checked.prog.looks [] ∧ ∀ (j : Nat) t, fn.params[j]? = some t → Tryd.pinned.checked.prog.wantsStandIn t = false := by
  obtain rfl : f = 3 := Option.some.inj ((show Tryd.prog.funcNamed Rows.fnDigitsRow.func = some 3 by kernel_rfl).symm.trans hf) |>.symm
  obtain rfl : fn = Tryd.f3 := (Option.some.inj (Tryd.func3.symm.trans hfn)).symm
  refine ⟨by kernel_rfl, fun j t ht => ?_⟩
  rw [Tryd.params3] at ht
  have hm : t ∈ [22] := by simpa using Array.mem_of_getElem? ht
  have hall : ([22].all fun u => !Tryd.prog.wantsStandIn u) = true := by kernel_rfl
  exact (show Tryd.prog.wantsStandIn t = false by simpa using List.all_eq_true.1 hall t hm)

theorem proved : Rows.FnDigitsCardSaid :=
  Claim7.holds_tied_plain_at .later [] _ _ _ _ said (fun _ h => by cases h) (by kernel_rfl) (fun _ h => by cases h) fnDigits_row_tie rfl ⟨rfl, rfl⟩ (by kernel_rfl) rfl plain (by kernel_rfl)
#print axioms proved
end Go.Proofs.YtplmgmjjjfgokaaDoor.fnDigits
