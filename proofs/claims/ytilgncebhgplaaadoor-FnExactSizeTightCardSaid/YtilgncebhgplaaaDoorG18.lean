import Derived.Test.YtilgncebhgplaaaDoorG17
import Derived.Test.YtilgncebhgplaaaDoorG14
import Derived.Deep.RegionHeld3
/- LessTight of both sides. -/
namespace Go.Proofs.YtilgncebhgplaaaDoor
open Go.RowKit
set_option linter.unusedVariables false
set_option maxRecDepth 100000
theorem Reads.drew {w : World} {v : Value} {xs : List Value} (h : Reads w v xs) : Reads w.drew v xs := h
theorem packspec_b (T : AT) (hwf : T.pt.Wf) (hsz : T.pt.sz ≤ 1048576) (w : World) (N : Nat) (hin : T.In w N) (hN : N ≤ w.heap.size) : Calls Tryd.prog 14 #[T.val] w (FreshB w (T.pt.tight hdFor)) :=
  (packtight_spec T hwf hsz w N hin hN).mono fun e w' h => by
    obtain ⟨v, rfl, h2, h3, h4⟩ := h
    obtain ⟨a, c, rfl⟩ := own_slice h3
    exact ⟨a, _, c, rfl, h3, h4⟩
set_option maxHeartbeats 2000000 in
theorem lesstight_impl (T U : AT) (w : World) (N : Nat) (hT : T.In w N) (hU : U.In w N) (hN : N ≤ w.heap.size) (hz : Tz w) (hwT : T.pt.Wf) (hwU : U.pt.Wf) (hsT : T.pt.sz ≤ 1048576) (hsU : U.pt.sz ≤ 1048576) :
    Calls Tryd.prog 23 #[T.val, U.val] w fun e w' => e = .returned (.bool (bltB (T.pt.tight hdFor) (U.pt.tight hdFor))) ∧ Below w.heap.size w w' := by
  have hb0 := (vbox w (.cells #[.int .i64 T.k, .int .i64 T.n, .int .i64 T.x, .string ⟨T.s.toArray⟩, .slice T.a T.l.length T.cap] 29)).trans ((vbox (w.alloc (.cells #[.int .i64 T.k, .int .i64 T.n, .int .i64 T.x, .string ⟨T.s.toArray⟩, .slice T.a T.l.length T.cap] 29)) (.cells #[.int .i64 U.k, .int .i64 U.n, .int .i64 U.x, .string ⟨U.s.toArray⟩, .slice U.a U.l.length U.cap] 29)).mono (by simp))
  have hbc : CellsAt ((w.alloc (.cells #[.int .i64 T.k, .int .i64 T.n, .int .i64 T.x, .string ⟨T.s.toArray⟩, .slice T.a T.l.length T.cap] 29)).alloc (.cells #[.int .i64 U.k, .int .i64 U.n, .int .i64 U.x, .string ⟨U.s.toArray⟩, .slice U.a U.l.length U.cap] 29)) w.heap.size 0 T := by
    refine ⟨?_, ?_, ?_, ?_, ?_⟩ <;> simp [go_sem]
  have hbd : CellsAt ((w.alloc (.cells #[.int .i64 T.k, .int .i64 T.n, .int .i64 T.x, .string ⟨T.s.toArray⟩, .slice T.a T.l.length T.cap] 29)).alloc (.cells #[.int .i64 U.k, .int .i64 U.n, .int .i64 U.x, .string ⟨U.s.toArray⟩, .slice U.a U.l.length U.cap] 29)) (w.heap.size + 1) 0 U := by
    refine ⟨?_, ?_, ?_, ?_, ?_⟩ <;> simp [go_sem]
  have CT0 := fun (W : World) (hb : Below w.heap.size w W) => packtight_impl T W N (hT.blw hb hN) (Nat.le_trans hN hb.size) (hz.below hb) hwT hsT
  have CU0 := fun (W : World) (hb : Below w.heap.size w W) => packtight_impl U W N (hU.blw hb hN) (Nat.le_trans hN hb.size) (hz.below hb) hwU hsU
  obtain ⟨LT, hLT⟩ : ∃ LT, LT = T.pt.tight hdFor := ⟨_, rfl⟩
  obtain ⟨LU, hLU⟩ : ∃ LU, LU = U.pt.tight hdFor := ⟨_, rfl⟩
  rw [← hLT] at CT0 ⊢
  rw [← hLU] at CU0 ⊢
  clear hT hU hN hz hwT hwU hsT hsU hLT hLU
  show Calls Tryd.prog 23 #[.agg #[.int .i64 T.k, .int .i64 T.n, .int .i64 T.x, .string ⟨T.s.toArray⟩, .slice T.a T.l.length T.cap], .agg #[.int .i64 U.k, .int .i64 U.n, .int .i64 U.x, .string ⟨U.s.toArray⟩, .slice U.a U.l.length U.cap]] w _
  go_enter Tryd.func23, Tryd.ntmps23
  (go_upto_region 1 with fail)
  generalize hW2 : ((w.alloc (.cells #[.int .i64 T.k, .int .i64 T.n, .int .i64 T.x, .string ⟨T.s.toArray⟩, .slice T.a T.l.length T.cap] 29)).alloc (.cells #[.int .i64 U.k, .int .i64 U.n, .int .i64 U.x, .string ⟨U.s.toArray⟩, .slice U.a U.l.length U.cap] 29)) = W2 at *
  clear hW2
  have HB0 := Lib.hid hb0
  have CA := Lib.hid (fun (W : World) (hb : Below W2.heap.size W2 W) => CT0 W (hb0.trans (hb.mono hb0.size)))
  have CB := Lib.hid (fun (W : World) (hb : Below W2.heap.size W2 W) => CU0 W (hb0.trans (hb.mono hb0.size)))
  obtain ⟨c0, c1, c2, c3, c4⟩ := hbc
  obtain ⟨d0, d1, d2, d3, d4⟩ := hbd
  rw [Nat.zero_add] at c1 c2 c3 c4 d1 d2 d3 d4
  have HS := Lib.hid (fun (W' : World) (hb : Below W2.heap.size W2 W') => (⟨hb, keep_below hb c0, keep_below hb c1, keep_below hb c2, keep_below hb c3, keep_below hb c4, keep_below hb d0, keep_below hb d1, keep_below hb d2, keep_below hb d3, keep_below hb d4⟩ : Below W2.heap.size W2 W' ∧ W'.cell? ⟨w.heap.size, 0, none⟩ = some (.int .i64 T.k) ∧ W'.cell? ⟨w.heap.size, 1, none⟩ = some (.int .i64 T.n) ∧ W'.cell? ⟨w.heap.size, 2, none⟩ = some (.int .i64 T.x) ∧ W'.cell? ⟨w.heap.size, 3, none⟩ = some (.string ⟨T.s.toArray⟩) ∧ W'.cell? ⟨w.heap.size, 4, none⟩ = some (.slice T.a T.l.length T.cap) ∧ W'.cell? ⟨w.heap.size + 1, 0, none⟩ = some (.int .i64 U.k) ∧ W'.cell? ⟨w.heap.size + 1, 1, none⟩ = some (.int .i64 U.n) ∧ W'.cell? ⟨w.heap.size + 1, 2, none⟩ = some (.int .i64 U.x) ∧ W'.cell? ⟨w.heap.size + 1, 3, none⟩ = some (.string ⟨U.s.toArray⟩) ∧ W'.cell? ⟨w.heap.size + 1, 4, none⟩ = some (.slice U.a U.l.length U.cap)))
  have hbr := Below.refl W2.heap.size W2
  clear CT0 CU0 hb0
  go_region_held3 (fun W' => Below W2.heap.size W2 W' ∧ W'.cell? ⟨w.heap.size, 0, none⟩ = some (.int .i64 T.k) ∧ W'.cell? ⟨w.heap.size, 1, none⟩ = some (.int .i64 T.n) ∧ W'.cell? ⟨w.heap.size, 2, none⟩ = some (.int .i64 T.x) ∧ W'.cell? ⟨w.heap.size, 3, none⟩ = some (.string ⟨T.s.toArray⟩) ∧ W'.cell? ⟨w.heap.size, 4, none⟩ = some (.slice T.a T.l.length T.cap) ∧ W'.cell? ⟨w.heap.size + 1, 0, none⟩ = some (.int .i64 U.k) ∧ W'.cell? ⟨w.heap.size + 1, 1, none⟩ = some (.int .i64 U.n) ∧ W'.cell? ⟨w.heap.size + 1, 2, none⟩ = some (.int .i64 U.x) ∧ W'.cell? ⟨w.heap.size + 1, 3, none⟩ = some (.string ⟨U.s.toArray⟩) ∧ W'.cell? ⟨w.heap.size + 1, 4, none⟩ = some (.slice U.a U.l.length U.cap)) ((refine HS.out _ ?_; first | with_reducible assumption | with_reducible exact Below.drew (by with_reducible assumption))) ((first | (go_at_call_of 15 (Value.agg #[Value.int IntKind.i64 T.k, Value.int IntKind.i64 T.n, Value.int IntKind.i64 T.x, Value.string ⟨T.s.toArray⟩, Value.slice T.a T.l.length T.cap]); go_split_ands; refine (CA.out _ (by first | with_reducible assumption | with_reducible exact Below.drew (by with_reducible assumption))).mono ?_; rintro e wa ⟨a1, n1, x1, rfl, o1, b1⟩; have bba := below_grow (by with_reducible assumption) b1; have rr := FreshB.reads o1; first | (have rq := Reads.below (Reads.drew (by with_reducible assumption : Reads _ _ (bv LU))) b1) | (have rq := Reads.below (by with_reducible assumption : Reads _ _ (bv LU)) b1) | skip) | (go_at_call_of 15 (Value.agg #[Value.int IntKind.i64 U.k, Value.int IntKind.i64 U.n, Value.int IntKind.i64 U.x, Value.string ⟨U.s.toArray⟩, Value.slice U.a U.l.length U.cap]); go_split_ands; refine (CB.out _ (by first | with_reducible assumption | with_reducible exact Below.drew (by with_reducible assumption))).mono ?_; rintro e wa ⟨a1, n1, x1, rfl, o1, b1⟩; have bba := below_grow (by with_reducible assumption) b1; have rr := FreshB.reads o1; first | (have rq := Reads.below (Reads.drew (by with_reducible assumption : Reads _ _ (bv LT))) b1) | (have rq := Reads.below (by with_reducible assumption : Reads _ _ (bv LT)) b1) | skip) | (go_at_call 44; go_split_ands; refine (lessbytes_impl _ _ _ LT LU (by first | with_reducible assumption | with_reducible exact Reads.drew (by with_reducible assumption)) (by first | with_reducible assumption | with_reducible exact Reads.drew (by with_reducible assumption))).mono ?_; rintro e w9 ⟨rfl, hw9⟩; subst hw9)))
  all_goals
    have HF := Lib.hid (HB0.out.trans (Below.mono (by with_reducible assumption : Below W2.heap.size W2 w9) HB0.out.size))
    go_wp2
    go_ret
    exact ⟨rfl, HF.out⟩
set_option maxHeartbeats 2000000 in
theorem lesstight_spec (T U : AT) (w : World) (N : Nat) (hT : T.In w N) (hU : U.In w N) (hN : N ≤ w.heap.size) (hwT : T.pt.Wf) (hwU : U.pt.Wf) (hsT : T.pt.sz ≤ 1048576) (hsU : U.pt.sz ≤ 1048576) :
    Calls Tryd.prog 22 #[T.val, U.val] w fun e w' => e = .returned (.bool (bltB (T.pt.tight hdFor) (U.pt.tight hdFor))) ∧ Below w.heap.size w w' := by
  have hb0 := (vbox w (.cells #[.int .i64 T.k, .int .i64 T.n, .int .i64 T.x, .string ⟨T.s.toArray⟩, .slice T.a T.l.length T.cap] 29)).trans ((vbox (w.alloc (.cells #[.int .i64 T.k, .int .i64 T.n, .int .i64 T.x, .string ⟨T.s.toArray⟩, .slice T.a T.l.length T.cap] 29)) (.cells #[.int .i64 U.k, .int .i64 U.n, .int .i64 U.x, .string ⟨U.s.toArray⟩, .slice U.a U.l.length U.cap] 29)).mono (by simp))
  have hbc : CellsAt ((w.alloc (.cells #[.int .i64 T.k, .int .i64 T.n, .int .i64 T.x, .string ⟨T.s.toArray⟩, .slice T.a T.l.length T.cap] 29)).alloc (.cells #[.int .i64 U.k, .int .i64 U.n, .int .i64 U.x, .string ⟨U.s.toArray⟩, .slice U.a U.l.length U.cap] 29)) w.heap.size 0 T := by
    refine ⟨?_, ?_, ?_, ?_, ?_⟩ <;> simp [go_sem]
  have hbd : CellsAt ((w.alloc (.cells #[.int .i64 T.k, .int .i64 T.n, .int .i64 T.x, .string ⟨T.s.toArray⟩, .slice T.a T.l.length T.cap] 29)).alloc (.cells #[.int .i64 U.k, .int .i64 U.n, .int .i64 U.x, .string ⟨U.s.toArray⟩, .slice U.a U.l.length U.cap] 29)) (w.heap.size + 1) 0 U := by
    refine ⟨?_, ?_, ?_, ?_, ?_⟩ <;> simp [go_sem]
  have CT0 := fun (W : World) (hb : Below w.heap.size w W) => packspec_b T hwT hsT W N (hT.blw hb hN) (Nat.le_trans hN hb.size)
  have CU0 := fun (W : World) (hb : Below w.heap.size w W) => packspec_b U hwU hsU W N (hU.blw hb hN) (Nat.le_trans hN hb.size)
  obtain ⟨LT, hLT⟩ : ∃ LT, LT = T.pt.tight hdFor := ⟨_, rfl⟩
  obtain ⟨LU, hLU⟩ : ∃ LU, LU = U.pt.tight hdFor := ⟨_, rfl⟩
  rw [← hLT] at CT0 ⊢
  rw [← hLU] at CU0 ⊢
  have HL1 : Hid (LT.length ≤ 1099511627776) := Lib.hid (by rw [hLT]; have := tight_le T.pt; omega)
  have HL2 : Hid (LU.length ≤ 1099511627776) := Lib.hid (by rw [hLU]; have := tight_le U.pt; omega)
  clear hT hU hN hwT hwU hsT hsU hLT hLU
  show Calls Tryd.prog 22 #[.agg #[.int .i64 T.k, .int .i64 T.n, .int .i64 T.x, .string ⟨T.s.toArray⟩, .slice T.a T.l.length T.cap], .agg #[.int .i64 U.k, .int .i64 U.n, .int .i64 U.x, .string ⟨U.s.toArray⟩, .slice U.a U.l.length U.cap]] w _
  go_enter Tryd.func22, Tryd.ntmps22
  (go_upto_region 1 with fail)
  generalize hW2 : ((w.alloc (.cells #[.int .i64 T.k, .int .i64 T.n, .int .i64 T.x, .string ⟨T.s.toArray⟩, .slice T.a T.l.length T.cap] 29)).alloc (.cells #[.int .i64 U.k, .int .i64 U.n, .int .i64 U.x, .string ⟨U.s.toArray⟩, .slice U.a U.l.length U.cap] 29)) = W2 at *
  clear hW2
  have HB0 := Lib.hid hb0
  have CA := Lib.hid (fun (W : World) (hb : Below W2.heap.size W2 W) => CT0 W (hb0.trans (hb.mono hb0.size)))
  have CB := Lib.hid (fun (W : World) (hb : Below W2.heap.size W2 W) => CU0 W (hb0.trans (hb.mono hb0.size)))
  obtain ⟨c0, c1, c2, c3, c4⟩ := hbc
  obtain ⟨d0, d1, d2, d3, d4⟩ := hbd
  rw [Nat.zero_add] at c1 c2 c3 c4 d1 d2 d3 d4
  have HS := Lib.hid (fun (W' : World) (hb : Below W2.heap.size W2 W') => (⟨hb, keep_below hb c0, keep_below hb c1, keep_below hb c2, keep_below hb c3, keep_below hb c4, keep_below hb d0, keep_below hb d1, keep_below hb d2, keep_below hb d3, keep_below hb d4⟩ : Below W2.heap.size W2 W' ∧ W'.cell? ⟨w.heap.size, 0, none⟩ = some (.int .i64 T.k) ∧ W'.cell? ⟨w.heap.size, 1, none⟩ = some (.int .i64 T.n) ∧ W'.cell? ⟨w.heap.size, 2, none⟩ = some (.int .i64 T.x) ∧ W'.cell? ⟨w.heap.size, 3, none⟩ = some (.string ⟨T.s.toArray⟩) ∧ W'.cell? ⟨w.heap.size, 4, none⟩ = some (.slice T.a T.l.length T.cap) ∧ W'.cell? ⟨w.heap.size + 1, 0, none⟩ = some (.int .i64 U.k) ∧ W'.cell? ⟨w.heap.size + 1, 1, none⟩ = some (.int .i64 U.n) ∧ W'.cell? ⟨w.heap.size + 1, 2, none⟩ = some (.int .i64 U.x) ∧ W'.cell? ⟨w.heap.size + 1, 3, none⟩ = some (.string ⟨U.s.toArray⟩) ∧ W'.cell? ⟨w.heap.size + 1, 4, none⟩ = some (.slice U.a U.l.length U.cap)))
  have hbr := Below.refl W2.heap.size W2
  clear CT0 CU0 hb0
  go_region_held3 (fun W' => Below W2.heap.size W2 W' ∧ W'.cell? ⟨w.heap.size, 0, none⟩ = some (.int .i64 T.k) ∧ W'.cell? ⟨w.heap.size, 1, none⟩ = some (.int .i64 T.n) ∧ W'.cell? ⟨w.heap.size, 2, none⟩ = some (.int .i64 T.x) ∧ W'.cell? ⟨w.heap.size, 3, none⟩ = some (.string ⟨T.s.toArray⟩) ∧ W'.cell? ⟨w.heap.size, 4, none⟩ = some (.slice T.a T.l.length T.cap) ∧ W'.cell? ⟨w.heap.size + 1, 0, none⟩ = some (.int .i64 U.k) ∧ W'.cell? ⟨w.heap.size + 1, 1, none⟩ = some (.int .i64 U.n) ∧ W'.cell? ⟨w.heap.size + 1, 2, none⟩ = some (.int .i64 U.x) ∧ W'.cell? ⟨w.heap.size + 1, 3, none⟩ = some (.string ⟨U.s.toArray⟩) ∧ W'.cell? ⟨w.heap.size + 1, 4, none⟩ = some (.slice U.a U.l.length U.cap)) ((refine HS.out _ ?_; first | with_reducible assumption | with_reducible exact Below.drew (by with_reducible assumption))) ((first | (go_at_call_of 14 (Value.agg #[Value.int IntKind.i64 T.k, Value.int IntKind.i64 T.n, Value.int IntKind.i64 T.x, Value.string ⟨T.s.toArray⟩, Value.slice T.a T.l.length T.cap]); go_split_ands; refine (CA.out _ (by first | with_reducible assumption | with_reducible exact Below.drew (by with_reducible assumption))).mono ?_; rintro e wa ⟨a1, n1, x1, rfl, o1, b1⟩; have bba := below_grow (by with_reducible assumption) b1; have rr := FreshB.reads o1; first | (have rq := Reads.below (Reads.drew (by with_reducible assumption : Reads _ _ (bv LU))) b1) | (have rq := Reads.below (by with_reducible assumption : Reads _ _ (bv LU)) b1) | skip) | (go_at_call_of 14 (Value.agg #[Value.int IntKind.i64 U.k, Value.int IntKind.i64 U.n, Value.int IntKind.i64 U.x, Value.string ⟨U.s.toArray⟩, Value.slice U.a U.l.length U.cap]); go_split_ands; refine (CB.out _ (by first | with_reducible assumption | with_reducible exact Below.drew (by with_reducible assumption))).mono ?_; rintro e wa ⟨a1, n1, x1, rfl, o1, b1⟩; have bba := below_grow (by with_reducible assumption) b1; have rr := FreshB.reads o1; first | (have rq := Reads.below (Reads.drew (by with_reducible assumption : Reads _ _ (bv LT))) b1) | (have rq := Reads.below (by with_reducible assumption : Reads _ _ (bv LT)) b1) | skip) | (go_at_call 43; go_split_ands; refine (lessbytes_spec _ _ _ LT LU (by first | with_reducible assumption | with_reducible exact Reads.drew (by with_reducible assumption)) (by first | with_reducible assumption | with_reducible exact Reads.drew (by with_reducible assumption)) HL1.out HL2.out).mono ?_; rintro e w9 ⟨rfl, hw9⟩; have bb9 := below_grow (by first | with_reducible assumption | with_reducible exact Below.drew (by with_reducible assumption) : Below W2.heap.size W2 _) hw9)))
  all_goals
    have HF := Lib.hid (HB0.out.trans (Below.mono (by with_reducible assumption : Below W2.heap.size W2 w9) HB0.out.size))
    go_wp2
    go_ret
    exact ⟨rfl, HF.out⟩
end Go.Proofs.YtilgncebhgplaaaDoor
