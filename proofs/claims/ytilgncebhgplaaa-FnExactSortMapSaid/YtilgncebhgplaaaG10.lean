import Derived.Test.YtilgncebhgplaaaG9
import Derived.Test.YtilgncebhgplaaaG3
import Derived.Deep.DeepCutAuto
/- compareNumbers of the program, l7Num of the model. -/
namespace Go.Proofs.Ytilgncebhgplaaa
open Go.RowKit
set_option maxRecDepth 100000
/-- a box of two ints -/
structure IB (w : World) (p : Nat) (a b : Int) : Prop where
  c0 : w.cell? ⟨p, 0, none⟩ = some (.int .i64 a)
  c1 : w.cell? ⟨p, 1, none⟩ = some (.int .i64 b)
theorem IB.blw {w w' : World} {p : Nat} {a b : Int} (h : IB w p a b) (hb : Below w.heap.size w w') : IB w' p a b := ⟨keep_below hb h.c0, keep_below hb h.c1⟩
theorem valbox (w : World) (T U : AT) (t : TypeId) : CellsAt ((w.alloc (.cells #[.int .i64 T.k, .int .i64 T.n, .int .i64 T.x, .string ⟨T.s.toArray⟩, .slice T.a T.l.length T.cap] t)).alloc (.cells #[.int .i64 U.k, .int .i64 U.n, .int .i64 U.x, .string ⟨U.s.toArray⟩, .slice U.a U.l.length U.cap] t)) w.heap.size 0 T ∧ CellsAt ((w.alloc (.cells #[.int .i64 T.k, .int .i64 T.n, .int .i64 T.x, .string ⟨T.s.toArray⟩, .slice T.a T.l.length T.cap] t)).alloc (.cells #[.int .i64 U.k, .int .i64 U.n, .int .i64 U.x, .string ⟨U.s.toArray⟩, .slice U.a U.l.length U.cap] t)) (w.heap.size + 1) 0 U := by
  refine ⟨⟨?_, ?_, ?_, ?_, ?_⟩, ⟨?_, ?_, ?_, ?_, ?_⟩⟩ <;> simp [go_sem]
theorem sixbox (w : World) (k n x : Int) (s : ByteArray) (a : Option Addr) (len cap : Nat) (k2 n2 x2 : Int) (s2 : ByteArray) (a2 : Option Addr) (len2 cap2 : Nat) (t tf td : TypeId) : Below w.heap.size w ((((((w.alloc (.cells #[.int .i64 k, .int .i64 n, .int .i64 x, .string s, .slice a len cap] t)).alloc (.cells #[.int .i64 k2, .int .i64 n2, .int .i64 x2, .string s2, .slice a2 len2 cap2] t)).alloc (.cells #[.int .i64 n, .int .i64 x] tf)).alloc (.cells #[.int .i64 n2, .int .i64 x2] tf)).alloc (.cells #[.int .i64 n, .int .i64 x] td)).alloc (.cells #[.int .i64 n2, .int .i64 x2] td)) ∧ VC ((((((w.alloc (.cells #[.int .i64 k, .int .i64 n, .int .i64 x, .string s, .slice a len cap] t)).alloc (.cells #[.int .i64 k2, .int .i64 n2, .int .i64 x2, .string s2, .slice a2 len2 cap2] t)).alloc (.cells #[.int .i64 n, .int .i64 x] tf)).alloc (.cells #[.int .i64 n2, .int .i64 x2] tf)).alloc (.cells #[.int .i64 n, .int .i64 x] td)).alloc (.cells #[.int .i64 n2, .int .i64 x2] td)) w.heap.size k n x s a len cap ∧ VC ((((((w.alloc (.cells #[.int .i64 k, .int .i64 n, .int .i64 x, .string s, .slice a len cap] t)).alloc (.cells #[.int .i64 k2, .int .i64 n2, .int .i64 x2, .string s2, .slice a2 len2 cap2] t)).alloc (.cells #[.int .i64 n, .int .i64 x] tf)).alloc (.cells #[.int .i64 n2, .int .i64 x2] tf)).alloc (.cells #[.int .i64 n, .int .i64 x] td)).alloc (.cells #[.int .i64 n2, .int .i64 x2] td)) (w.heap.size + 1) k2 n2 x2 s2 a2 len2 cap2 ∧ IB ((((((w.alloc (.cells #[.int .i64 k, .int .i64 n, .int .i64 x, .string s, .slice a len cap] t)).alloc (.cells #[.int .i64 k2, .int .i64 n2, .int .i64 x2, .string s2, .slice a2 len2 cap2] t)).alloc (.cells #[.int .i64 n, .int .i64 x] tf)).alloc (.cells #[.int .i64 n2, .int .i64 x2] tf)).alloc (.cells #[.int .i64 n, .int .i64 x] td)).alloc (.cells #[.int .i64 n2, .int .i64 x2] td)) (w.heap.size + 1 + 1) n x ∧ IB ((((((w.alloc (.cells #[.int .i64 k, .int .i64 n, .int .i64 x, .string s, .slice a len cap] t)).alloc (.cells #[.int .i64 k2, .int .i64 n2, .int .i64 x2, .string s2, .slice a2 len2 cap2] t)).alloc (.cells #[.int .i64 n, .int .i64 x] tf)).alloc (.cells #[.int .i64 n2, .int .i64 x2] tf)).alloc (.cells #[.int .i64 n, .int .i64 x] td)).alloc (.cells #[.int .i64 n2, .int .i64 x2] td)) (w.heap.size + 1 + 1 + 1) n2 x2 ∧ IB ((((((w.alloc (.cells #[.int .i64 k, .int .i64 n, .int .i64 x, .string s, .slice a len cap] t)).alloc (.cells #[.int .i64 k2, .int .i64 n2, .int .i64 x2, .string s2, .slice a2 len2 cap2] t)).alloc (.cells #[.int .i64 n, .int .i64 x] tf)).alloc (.cells #[.int .i64 n2, .int .i64 x2] tf)).alloc (.cells #[.int .i64 n, .int .i64 x] td)).alloc (.cells #[.int .i64 n2, .int .i64 x2] td)) (w.heap.size + 1 + 1 + 1 + 1) n x ∧ IB ((((((w.alloc (.cells #[.int .i64 k, .int .i64 n, .int .i64 x, .string s, .slice a len cap] t)).alloc (.cells #[.int .i64 k2, .int .i64 n2, .int .i64 x2, .string s2, .slice a2 len2 cap2] t)).alloc (.cells #[.int .i64 n, .int .i64 x] tf)).alloc (.cells #[.int .i64 n2, .int .i64 x2] tf)).alloc (.cells #[.int .i64 n, .int .i64 x] td)).alloc (.cells #[.int .i64 n2, .int .i64 x2] td)) (w.heap.size + 1 + 1 + 1 + 1 + 1) n2 x2 := by
  refine ⟨?_, ⟨?_, ?_, ?_, ?_, ?_⟩, ⟨?_, ?_, ?_, ?_, ?_⟩, ⟨?_, ?_⟩, ⟨?_, ?_⟩, ⟨?_, ?_⟩, ⟨?_, ?_⟩⟩
  · exact (Rl.alloc (Rl.alloc (Rl.alloc (Rl.alloc (Rl.alloc (Rl.alloc (Rl.refl w) _) _) _) _) _) _).b
  all_goals simp [go_sem]
set_option maxHeartbeats 4000000 in
theorem nums_impl (T U : AT) (w : World) (hT : isI T.n ∧ isI T.x) (hU : isI U.n ∧ isI U.x) : Calls Try.prog 32 #[T.val, U.val] w fun e w' => e = .returned (.int .i64 (numV T.k T.n T.x U.n U.x)) ∧ Below w.heap.size w w' := by
  obtain ⟨k, n, x, s, a, cap, l⟩ := T
  obtain ⟨k2, n2, x2, s2, b, cap2, m⟩ := U
  replace hT : isI n ∧ isI x := hT
  replace hU : isI n2 ∧ isI x2 := hU
  have HF1 := Lib.hid (fun W => fltok_impl n x W hT.1.1 hT.1.2 hT.2.1 hT.2.2)
  have HF2 := Lib.hid (fun W => fltok_impl n2 x2 W hU.1.1 hU.1.2 hU.2.1 hU.2.2)
  have HD1 := Lib.hid (fun W => decok_impl n x W hT.1.1 hT.1.2)
  have HD2 := Lib.hid (fun W => decok_impl n2 x2 W hU.1.1 hU.1.2)
  have HCF := Lib.hid (fun W => byflt_impl n x n2 x2 W hT.1 hT.2 hU.1 hU.2)
  have HCD := Lib.hid (fun W => bydec_impl n x n2 x2 W hT.1 hU.1)
  have HCI : Hid (∀ W : World, Calls Try.prog 44 #[.agg #[.int .i64 k, .int .i64 n, .int .i64 x, .string ⟨s.toArray⟩, .slice a l.length cap], .agg #[.int .i64 k2, .int .i64 n2, .int .i64 x2, .string ⟨s2.toArray⟩, .slice b m.length cap2]] W fun e w' => e = .returned (.int .i64 (plainV k n x n2 x2)) ∧ Below W.heap.size W w') := Lib.hid (fun W => ints_impl (.mk k n x s a cap l) (.mk k2 n2 x2 s2 b cap2 m) W)
  clear hT hU
  show Calls Try.prog 32 #[.agg #[.int .i64 k, .int .i64 n, .int .i64 x, .string ⟨s.toArray⟩, .slice a l.length cap], .agg #[.int .i64 k2, .int .i64 n2, .int .i64 x2, .string ⟨s2.toArray⟩, .slice b m.length cap2]] w fun e w' => e = .returned (.int .i64 (numV k n x n2 x2)) ∧ Below w.heap.size w w'
  go_enter Try.func32, Try.ntmps32
  go_wp2_with fail
  have hc := vcbox w k n x ⟨s.toArray⟩ a l.length cap k2 n2 x2 ⟨s2.toArray⟩ b m.length cap2 28
  have hB := two' w (.cells #[.int .i64 k, .int .i64 n, .int .i64 x, .string ⟨s.toArray⟩, .slice a l.length cap] 28) (.cells #[.int .i64 k2, .int .i64 n2, .int .i64 x2, .string ⟨s2.toArray⟩, .slice b m.length cap2] 28)
  generalize ((w.alloc (.cells #[.int .i64 k, .int .i64 n, .int .i64 x, .string ⟨s.toArray⟩, .slice a l.length cap] 28)).alloc (.cells #[.int .i64 k2, .int .i64 n2, .int .i64 x2, .string ⟨s2.toArray⟩, .slice b m.length cap2] 28)) = W0 at *
  have HE : Hid (∀ W, Rl W0 W → Below w.heap.size w W) := Lib.hid (fun W h => hB.trans (h.b.mono hB.size))
  have HC0 := Lib.hid hc
  obtain ⟨⟨c0, c1, c2, c3, c4⟩, ⟨d0, d1, d2, d3, d4⟩⟩ := hc
  clear hB
  have hkeep : ∀ W' : World, Rl W0 W' → Rl W0 W' ∧ W0.heap.size ≤ W'.heap.size ∧ W'.cell? ⟨w.heap.size, 1, none⟩ = some (.int .i64 n) ∧ W'.cell? ⟨w.heap.size, 2, none⟩ = some (.int .i64 x) ∧ W'.cell? ⟨w.heap.size + 1, 1, none⟩ = some (.int .i64 n2) ∧ W'.cell? ⟨w.heap.size + 1, 2, none⟩ = some (.int .i64 x2) := fun W' h => ⟨h, h.z, (h.b.cell (cell_lt c1)).trans c1, (h.b.cell (cell_lt c2)).trans c2, (h.b.cell (cell_lt d1)).trans d1, (h.b.cell (cell_lt d2)).trans d2⟩
  have HK := Lib.hid hkeep
  clear hkeep
  have h0 := Rl.refl W0
  go_cut [5, 6] from 9 (fun u v wx => ∃ p q, u = .pointer (some ⟨p, 0, none⟩) ∧ v = .pointer (some ⟨q, 0, none⟩) ∧ IB wx p n x ∧ IB wx q n2 x2 ∧ Rl W0 wx)
  case first =>
    go_region_held3 (fun W' => Rl W0 W' ∧ W0.heap.size ≤ W'.heap.size ∧ W'.cell? ⟨w.heap.size, 1, none⟩ = some (.int .i64 n) ∧ W'.cell? ⟨w.heap.size, 2, none⟩ = some (.int .i64 x) ∧ W'.cell? ⟨w.heap.size + 1, 1, none⟩ = some (.int .i64 n2) ∧ W'.cell? ⟨w.heap.size + 1, 2, none⟩ = some (.int .i64 x2)) ((refine HK.out _ ?_; repeat (first | assumption | refine Rl.drew ?_ | refine Rl.alloc ?_ _ | refine Rl.set ?_ (by simp; omega) _))) ((fail))
    all_goals
      go_split_ands
      go_wp2
      go_meet
      case rel => refine ⟨_, _, rfl, rfl, ⟨by simp [go_sem], by simp [go_sem]⟩, ⟨by simp [go_sem], by simp [go_sem]⟩, by assumption⟩
  case rest =>
  obtain ⟨p, q, rfl, rfl, ip, iq, h1⟩ := hcut
  clear h0 c0 c1 c2 c3 c4 d0 d1 d2 d3 d4
  obtain ⟨_, hz, c1, c2, d1, d2⟩ := HK.out _ h1
  have HP := Lib.hid ip
  have HQ := Lib.hid iq
  clear ip iq
  go_wp2_with fail
  go_cut [7, 8] from 19 (fun u v wx => ∃ r t, u = .pointer (some ⟨r, 0, none⟩) ∧ v = .pointer (some ⟨t, 0, none⟩) ∧ IB wx r n x ∧ IB wx t n2 x2 ∧ IB wx p n x ∧ IB wx q n2 x2 ∧ Rl W0 wx)
  case first =>
    go_region_held3 (fun W' => Rl W0 W' ∧ W0.heap.size ≤ W'.heap.size ∧ W'.cell? ⟨w.heap.size, 1, none⟩ = some (.int .i64 n) ∧ W'.cell? ⟨w.heap.size, 2, none⟩ = some (.int .i64 x) ∧ W'.cell? ⟨w.heap.size + 1, 1, none⟩ = some (.int .i64 n2) ∧ W'.cell? ⟨w.heap.size + 1, 2, none⟩ = some (.int .i64 x2)) ((refine HK.out _ ?_; repeat (first | assumption | refine Rl.drew ?_ | refine Rl.alloc ?_ _ | refine Rl.set ?_ (by simp; omega) _))) ((fail))
    all_goals
      go_split_ands
      go_wp2
      go_meet
      case rel => refine ⟨_, _, rfl, rfl, ⟨by simp [go_sem], by simp [go_sem]⟩, ⟨by simp [go_sem], by simp [go_sem]⟩, HP.out.blw (two' _ _ _).drew, HQ.out.blw (two' _ _ _).drew, by assumption⟩
  case rest =>
  obtain ⟨r, t, rfl, rfl, ir, it, ip, iq, h2⟩ := hcut
  have HB := Lib.hid h2
  have HC := Lib.hid (And.intro (HC0.out.1.blw h2.b) (HC0.out.2.blw h2.b))
  clear h1 hz c1 c2 d1 d2 HP HQ h2 HC0 HK
  obtain ⟨⟨c0, c1, c2, c3, c4⟩, ⟨d0, d1, d2, d3, d4⟩⟩ := HC.out
  obtain ⟨p0, p1⟩ := ip
  replace ip : IB _ _ _ _ := ⟨p0, p1⟩
  obtain ⟨q0, q1⟩ := iq
  replace iq : IB _ _ _ _ := ⟨q0, q1⟩
  obtain ⟨r0, r1⟩ := ir
  replace ir : IB _ _ _ _ := ⟨r0, r1⟩
  obtain ⟨t0, t1⟩ := it
  replace it : IB _ _ _ _ := ⟨t0, t1⟩
  by_cases hk : k = 4
  · subst hk
    cases hf1 : fltOk n x
    · have hv : numV 4 n x n2 x2 = plainV 4 n x n2 x2 := by unfold numV; simp [hf1]
      have HV := Lib.hid hv
      clear hv
      go_wp2_with fail
      refine (HF1.out _).mono ?_
      rintro e w2 ⟨rfl, hb2⟩
      rw [hf1]
      have HB2 := Lib.hid (Rl.below HB.out hb2)
      replace HB := HB2
      clear HB2
      have HC2 := Lib.hid (And.intro (HC.out.1.blw hb2) (HC.out.2.blw hb2))
      replace HC := HC2
      clear HC2
      have ip2 := ip.blw hb2
      replace ip := ip2
      clear ip2
      obtain ⟨p0, p1⟩ := ip
      replace ip : IB _ _ _ _ := ⟨p0, p1⟩
      have iq2 := iq.blw hb2
      replace iq := iq2
      clear iq2
      obtain ⟨q0, q1⟩ := iq
      replace iq : IB _ _ _ _ := ⟨q0, q1⟩
      have ir2 := ir.blw hb2
      replace ir := ir2
      clear ir2
      obtain ⟨r0, r1⟩ := ir
      replace ir : IB _ _ _ _ := ⟨r0, r1⟩
      have it2 := it.blw hb2
      replace it := it2
      clear it2
      obtain ⟨t0, t1⟩ := it
      replace it : IB _ _ _ _ := ⟨t0, t1⟩
      clear hb2
      obtain ⟨⟨c0, c1, c2, c3, c4⟩, ⟨d0, d1, d2, d3, d4⟩⟩ := HC.out
      go_wp2_with fail
      refine (HCI.out _).mono ?_
      rintro e w2 ⟨rfl, hb2⟩
      have HB2 := Lib.hid (Rl.below HB.out hb2)
      clear hb2 HB
      go_wp2
      go_ret
      exact ⟨by rw [HV.out]; try rfl, HE.out _ HB2.out⟩
    · cases hf2 : fltOk n2 x2
      · have hv : numV 4 n x n2 x2 = plainV 4 n x n2 x2 := by unfold numV; simp [hf1, hf2]
        have HV := Lib.hid hv
        clear hv
        go_wp2_with fail
        refine (HF1.out _).mono ?_
        rintro e w2 ⟨rfl, hb2⟩
        rw [hf1]
        have HB2 := Lib.hid (Rl.below HB.out hb2)
        replace HB := HB2
        clear HB2
        have HC2 := Lib.hid (And.intro (HC.out.1.blw hb2) (HC.out.2.blw hb2))
        replace HC := HC2
        clear HC2
        have ip2 := ip.blw hb2
        replace ip := ip2
        clear ip2
        obtain ⟨p0, p1⟩ := ip
        replace ip : IB _ _ _ _ := ⟨p0, p1⟩
        have iq2 := iq.blw hb2
        replace iq := iq2
        clear iq2
        obtain ⟨q0, q1⟩ := iq
        replace iq : IB _ _ _ _ := ⟨q0, q1⟩
        have ir2 := ir.blw hb2
        replace ir := ir2
        clear ir2
        obtain ⟨r0, r1⟩ := ir
        replace ir : IB _ _ _ _ := ⟨r0, r1⟩
        have it2 := it.blw hb2
        replace it := it2
        clear it2
        obtain ⟨t0, t1⟩ := it
        replace it : IB _ _ _ _ := ⟨t0, t1⟩
        clear hb2
        obtain ⟨⟨c0, c1, c2, c3, c4⟩, ⟨d0, d1, d2, d3, d4⟩⟩ := HC.out
        go_wp2_with fail
        refine (HF2.out _).mono ?_
        rintro e w2 ⟨rfl, hb2⟩
        rw [hf2]
        have HB2 := Lib.hid (Rl.below HB.out hb2)
        replace HB := HB2
        clear HB2
        have HC2 := Lib.hid (And.intro (HC.out.1.blw hb2) (HC.out.2.blw hb2))
        replace HC := HC2
        clear HC2
        have ip2 := ip.blw hb2
        replace ip := ip2
        clear ip2
        obtain ⟨p0, p1⟩ := ip
        replace ip : IB _ _ _ _ := ⟨p0, p1⟩
        have iq2 := iq.blw hb2
        replace iq := iq2
        clear iq2
        obtain ⟨q0, q1⟩ := iq
        replace iq : IB _ _ _ _ := ⟨q0, q1⟩
        have ir2 := ir.blw hb2
        replace ir := ir2
        clear ir2
        obtain ⟨r0, r1⟩ := ir
        replace ir : IB _ _ _ _ := ⟨r0, r1⟩
        have it2 := it.blw hb2
        replace it := it2
        clear it2
        obtain ⟨t0, t1⟩ := it
        replace it : IB _ _ _ _ := ⟨t0, t1⟩
        clear hb2
        obtain ⟨⟨c0, c1, c2, c3, c4⟩, ⟨d0, d1, d2, d3, d4⟩⟩ := HC.out
        go_wp2_with fail
        refine (HCI.out _).mono ?_
        rintro e w2 ⟨rfl, hb2⟩
        have HB2 := Lib.hid (Rl.below HB.out hb2)
        clear hb2 HB
        go_wp2
        go_ret
        exact ⟨by rw [HV.out]; try rfl, HE.out _ HB2.out⟩
      · have hv : numV 4 n x n2 x2 = byV (lessF n x n2 x2) (lessF n2 x2 n x) := by unfold numV; simp [hf1, hf2]
        have HV := Lib.hid hv
        clear hv
        go_wp2_with fail
        refine (HF1.out _).mono ?_
        rintro e w2 ⟨rfl, hb2⟩
        rw [hf1]
        have HB2 := Lib.hid (Rl.below HB.out hb2)
        replace HB := HB2
        clear HB2
        have HC2 := Lib.hid (And.intro (HC.out.1.blw hb2) (HC.out.2.blw hb2))
        replace HC := HC2
        clear HC2
        have ip2 := ip.blw hb2
        replace ip := ip2
        clear ip2
        obtain ⟨p0, p1⟩ := ip
        replace ip : IB _ _ _ _ := ⟨p0, p1⟩
        have iq2 := iq.blw hb2
        replace iq := iq2
        clear iq2
        obtain ⟨q0, q1⟩ := iq
        replace iq : IB _ _ _ _ := ⟨q0, q1⟩
        have ir2 := ir.blw hb2
        replace ir := ir2
        clear ir2
        obtain ⟨r0, r1⟩ := ir
        replace ir : IB _ _ _ _ := ⟨r0, r1⟩
        have it2 := it.blw hb2
        replace it := it2
        clear it2
        obtain ⟨t0, t1⟩ := it
        replace it : IB _ _ _ _ := ⟨t0, t1⟩
        clear hb2
        obtain ⟨⟨c0, c1, c2, c3, c4⟩, ⟨d0, d1, d2, d3, d4⟩⟩ := HC.out
        go_wp2_with fail
        refine (HF2.out _).mono ?_
        rintro e w2 ⟨rfl, hb2⟩
        rw [hf2]
        have HB2 := Lib.hid (Rl.below HB.out hb2)
        replace HB := HB2
        clear HB2
        have HC2 := Lib.hid (And.intro (HC.out.1.blw hb2) (HC.out.2.blw hb2))
        replace HC := HC2
        clear HC2
        have ip2 := ip.blw hb2
        replace ip := ip2
        clear ip2
        obtain ⟨p0, p1⟩ := ip
        replace ip : IB _ _ _ _ := ⟨p0, p1⟩
        have iq2 := iq.blw hb2
        replace iq := iq2
        clear iq2
        obtain ⟨q0, q1⟩ := iq
        replace iq : IB _ _ _ _ := ⟨q0, q1⟩
        have ir2 := ir.blw hb2
        replace ir := ir2
        clear ir2
        obtain ⟨r0, r1⟩ := ir
        replace ir : IB _ _ _ _ := ⟨r0, r1⟩
        have it2 := it.blw hb2
        replace it := it2
        clear it2
        obtain ⟨t0, t1⟩ := it
        replace it : IB _ _ _ _ := ⟨t0, t1⟩
        clear hb2
        obtain ⟨⟨c0, c1, c2, c3, c4⟩, ⟨d0, d1, d2, d3, d4⟩⟩ := HC.out
        go_wp2_with fail
        refine (HCF.out _).mono ?_
        rintro e w2 ⟨rfl, hb2⟩
        have HB2 := Lib.hid (Rl.below HB.out hb2)
        clear hb2 HB
        go_wp2
        go_ret
        exact ⟨by rw [HV.out]; try rfl, HE.out _ HB2.out⟩
  · by_cases hk6 : k = 6
    · subst hk6
      cases hf1 : decOk n x
      · have hv : numV 6 n x n2 x2 = plainV 6 n x n2 x2 := by unfold numV; simp [hf1]
        have HV := Lib.hid hv
        clear hv
        go_wp2_with fail
        refine (HD1.out _).mono ?_
        rintro e w2 ⟨rfl, hb2⟩
        rw [hf1]
        have HB2 := Lib.hid (Rl.below HB.out hb2)
        replace HB := HB2
        clear HB2
        have HC2 := Lib.hid (And.intro (HC.out.1.blw hb2) (HC.out.2.blw hb2))
        replace HC := HC2
        clear HC2
        have ip2 := ip.blw hb2
        replace ip := ip2
        clear ip2
        obtain ⟨p0, p1⟩ := ip
        replace ip : IB _ _ _ _ := ⟨p0, p1⟩
        have iq2 := iq.blw hb2
        replace iq := iq2
        clear iq2
        obtain ⟨q0, q1⟩ := iq
        replace iq : IB _ _ _ _ := ⟨q0, q1⟩
        have ir2 := ir.blw hb2
        replace ir := ir2
        clear ir2
        obtain ⟨r0, r1⟩ := ir
        replace ir : IB _ _ _ _ := ⟨r0, r1⟩
        have it2 := it.blw hb2
        replace it := it2
        clear it2
        obtain ⟨t0, t1⟩ := it
        replace it : IB _ _ _ _ := ⟨t0, t1⟩
        clear hb2
        obtain ⟨⟨c0, c1, c2, c3, c4⟩, ⟨d0, d1, d2, d3, d4⟩⟩ := HC.out
        go_wp2_with fail
        refine (HCI.out _).mono ?_
        rintro e w2 ⟨rfl, hb2⟩
        have HB2 := Lib.hid (Rl.below HB.out hb2)
        clear hb2 HB
        go_wp2
        go_ret
        exact ⟨by rw [HV.out]; try rfl, HE.out _ HB2.out⟩
      · cases hf2 : decOk n2 x2
        · have hv : numV 6 n x n2 x2 = plainV 6 n x n2 x2 := by unfold numV; simp [hf1, hf2]
          have HV := Lib.hid hv
          clear hv
          go_wp2_with fail
          refine (HD1.out _).mono ?_
          rintro e w2 ⟨rfl, hb2⟩
          rw [hf1]
          have HB2 := Lib.hid (Rl.below HB.out hb2)
          replace HB := HB2
          clear HB2
          have HC2 := Lib.hid (And.intro (HC.out.1.blw hb2) (HC.out.2.blw hb2))
          replace HC := HC2
          clear HC2
          have ip2 := ip.blw hb2
          replace ip := ip2
          clear ip2
          obtain ⟨p0, p1⟩ := ip
          replace ip : IB _ _ _ _ := ⟨p0, p1⟩
          have iq2 := iq.blw hb2
          replace iq := iq2
          clear iq2
          obtain ⟨q0, q1⟩ := iq
          replace iq : IB _ _ _ _ := ⟨q0, q1⟩
          have ir2 := ir.blw hb2
          replace ir := ir2
          clear ir2
          obtain ⟨r0, r1⟩ := ir
          replace ir : IB _ _ _ _ := ⟨r0, r1⟩
          have it2 := it.blw hb2
          replace it := it2
          clear it2
          obtain ⟨t0, t1⟩ := it
          replace it : IB _ _ _ _ := ⟨t0, t1⟩
          clear hb2
          obtain ⟨⟨c0, c1, c2, c3, c4⟩, ⟨d0, d1, d2, d3, d4⟩⟩ := HC.out
          go_wp2_with fail
          refine (HD2.out _).mono ?_
          rintro e w2 ⟨rfl, hb2⟩
          rw [hf2]
          have HB2 := Lib.hid (Rl.below HB.out hb2)
          replace HB := HB2
          clear HB2
          have HC2 := Lib.hid (And.intro (HC.out.1.blw hb2) (HC.out.2.blw hb2))
          replace HC := HC2
          clear HC2
          have ip2 := ip.blw hb2
          replace ip := ip2
          clear ip2
          obtain ⟨p0, p1⟩ := ip
          replace ip : IB _ _ _ _ := ⟨p0, p1⟩
          have iq2 := iq.blw hb2
          replace iq := iq2
          clear iq2
          obtain ⟨q0, q1⟩ := iq
          replace iq : IB _ _ _ _ := ⟨q0, q1⟩
          have ir2 := ir.blw hb2
          replace ir := ir2
          clear ir2
          obtain ⟨r0, r1⟩ := ir
          replace ir : IB _ _ _ _ := ⟨r0, r1⟩
          have it2 := it.blw hb2
          replace it := it2
          clear it2
          obtain ⟨t0, t1⟩ := it
          replace it : IB _ _ _ _ := ⟨t0, t1⟩
          clear hb2
          obtain ⟨⟨c0, c1, c2, c3, c4⟩, ⟨d0, d1, d2, d3, d4⟩⟩ := HC.out
          go_wp2_with fail
          refine (HCI.out _).mono ?_
          rintro e w2 ⟨rfl, hb2⟩
          have HB2 := Lib.hid (Rl.below HB.out hb2)
          clear hb2 HB
          go_wp2
          go_ret
          exact ⟨by rw [HV.out]; try rfl, HE.out _ HB2.out⟩
        · have hv : numV 6 n x n2 x2 = byV (lessB n x n2 x2) (lessB n2 x2 n x) := by unfold numV; simp [hf1, hf2]
          have HV := Lib.hid hv
          clear hv
          go_wp2_with fail
          refine (HD1.out _).mono ?_
          rintro e w2 ⟨rfl, hb2⟩
          rw [hf1]
          have HB2 := Lib.hid (Rl.below HB.out hb2)
          replace HB := HB2
          clear HB2
          have HC2 := Lib.hid (And.intro (HC.out.1.blw hb2) (HC.out.2.blw hb2))
          replace HC := HC2
          clear HC2
          have ip2 := ip.blw hb2
          replace ip := ip2
          clear ip2
          obtain ⟨p0, p1⟩ := ip
          replace ip : IB _ _ _ _ := ⟨p0, p1⟩
          have iq2 := iq.blw hb2
          replace iq := iq2
          clear iq2
          obtain ⟨q0, q1⟩ := iq
          replace iq : IB _ _ _ _ := ⟨q0, q1⟩
          have ir2 := ir.blw hb2
          replace ir := ir2
          clear ir2
          obtain ⟨r0, r1⟩ := ir
          replace ir : IB _ _ _ _ := ⟨r0, r1⟩
          have it2 := it.blw hb2
          replace it := it2
          clear it2
          obtain ⟨t0, t1⟩ := it
          replace it : IB _ _ _ _ := ⟨t0, t1⟩
          clear hb2
          obtain ⟨⟨c0, c1, c2, c3, c4⟩, ⟨d0, d1, d2, d3, d4⟩⟩ := HC.out
          go_wp2_with fail
          refine (HD2.out _).mono ?_
          rintro e w2 ⟨rfl, hb2⟩
          rw [hf2]
          have HB2 := Lib.hid (Rl.below HB.out hb2)
          replace HB := HB2
          clear HB2
          have HC2 := Lib.hid (And.intro (HC.out.1.blw hb2) (HC.out.2.blw hb2))
          replace HC := HC2
          clear HC2
          have ip2 := ip.blw hb2
          replace ip := ip2
          clear ip2
          obtain ⟨p0, p1⟩ := ip
          replace ip : IB _ _ _ _ := ⟨p0, p1⟩
          have iq2 := iq.blw hb2
          replace iq := iq2
          clear iq2
          obtain ⟨q0, q1⟩ := iq
          replace iq : IB _ _ _ _ := ⟨q0, q1⟩
          have ir2 := ir.blw hb2
          replace ir := ir2
          clear ir2
          obtain ⟨r0, r1⟩ := ir
          replace ir : IB _ _ _ _ := ⟨r0, r1⟩
          have it2 := it.blw hb2
          replace it := it2
          clear it2
          obtain ⟨t0, t1⟩ := it
          replace it : IB _ _ _ _ := ⟨t0, t1⟩
          clear hb2
          obtain ⟨⟨c0, c1, c2, c3, c4⟩, ⟨d0, d1, d2, d3, d4⟩⟩ := HC.out
          go_wp2_with fail
          refine (HCD.out _).mono ?_
          rintro e w2 ⟨rfl, hb2⟩
          have HB2 := Lib.hid (Rl.below HB.out hb2)
          clear hb2 HB
          go_wp2
          go_ret
          exact ⟨by rw [HV.out]; try rfl, HE.out _ HB2.out⟩
    · have hv : numV k n x n2 x2 = plainV k n x n2 x2 := by unfold numV; simp [hk, hk6]
      have HV := Lib.hid hv
      clear hv
      go_wp2_with fail
      refine (HCI.out _).mono ?_
      rintro e w2 ⟨rfl, hb2⟩
      have HB2 := Lib.hid (Rl.below HB.out hb2)
      clear hb2 HB
      go_wp2
      go_ret
      exact ⟨by rw [HV.out]; try rfl, HE.out _ HB2.out⟩
set_option maxHeartbeats 4000000 in
theorem nums_spec (T U : AT) (w : World) (hT : isI T.n ∧ isI T.x) (hU : isI U.n ∧ isI U.x) : Calls Try.prog 35 #[T.val, U.val] w fun e w' => e = .returned (.int .i64 (numV T.k T.n T.x U.n U.x)) ∧ Below w.heap.size w w' := by
  obtain ⟨k, n, x, s, a, cap, l⟩ := T
  obtain ⟨k2, n2, x2, s2, b, cap2, m⟩ := U
  replace hT : isI n ∧ isI x := hT
  replace hU : isI n2 ∧ isI x2 := hU
  have HF1 := Lib.hid (fun W => fltok_spec n x W hT.1.1 hT.1.2 hT.2.1 hT.2.2)
  have HF2 := Lib.hid (fun W => fltok_spec n2 x2 W hU.1.1 hU.1.2 hU.2.1 hU.2.2)
  have HD1 := Lib.hid (fun W => decok_spec n x W hT.1.1 hT.1.2)
  have HD2 := Lib.hid (fun W => decok_spec n2 x2 W hU.1.1 hU.1.2)
  have HL1 := Lib.hid (fun W => lessflt_spec n x n2 x2 W hT.1.1 hT.1.2 hT.2.1 hT.2.2 hU.1.1 hU.1.2 hU.2.1 hU.2.2)
  have HL2 := Lib.hid (fun W => lessflt_spec n2 x2 n x W hU.1.1 hU.1.2 hU.2.1 hU.2.2 hT.1.1 hT.1.2 hT.2.1 hT.2.2)
  have HG1 := Lib.hid (fun W => less_spec n x n2 x2 W hT.1.1 hT.1.2 hU.1.1 hU.1.2)
  have HG2 := Lib.hid (fun W => less_spec n2 x2 n x W hU.1.1 hU.1.2 hT.1.1 hT.1.2)
  have HCI : Hid (∀ W : World, Calls Try.prog 49 #[.agg #[.int .i64 k, .int .i64 n, .int .i64 x, .string ⟨s.toArray⟩, .slice a l.length cap], .agg #[.int .i64 k2, .int .i64 n2, .int .i64 x2, .string ⟨s2.toArray⟩, .slice b m.length cap2]] W fun e w' => e = .returned (.int .i64 (plainV k n x n2 x2)) ∧ Below W.heap.size W w') := Lib.hid (fun W => plain_spec (.mk k n x s a cap l) (.mk k2 n2 x2 s2 b cap2 m) W)
  clear hT hU
  show Calls Try.prog 35 #[.agg #[.int .i64 k, .int .i64 n, .int .i64 x, .string ⟨s.toArray⟩, .slice a l.length cap], .agg #[.int .i64 k2, .int .i64 n2, .int .i64 x2, .string ⟨s2.toArray⟩, .slice b m.length cap2]] w fun e w' => e = .returned (.int .i64 (numV k n x n2 x2)) ∧ Below w.heap.size w w'
  by_cases hk : k = 4
  · subst hk
    cases hf1 : fltOk n x
    · have hv : numV 4 n x n2 x2 = plainV 4 n x n2 x2 := by unfold numV; simp [hf1]
      have HV := Lib.hid hv
      clear hv
      go_enter Try.func35, Try.ntmps35
      go_wp2_with fail
      have hsix := sixbox w 4 n x ⟨s.toArray⟩ a l.length cap k2 n2 x2 ⟨s2.toArray⟩ b m.length cap2 28 58 60
      generalize ((((((w.alloc (.cells #[.int .i64 4, .int .i64 n, .int .i64 x, .string ⟨s.toArray⟩, .slice a l.length cap] 28)).alloc (.cells #[.int .i64 k2, .int .i64 n2, .int .i64 x2, .string ⟨s2.toArray⟩, .slice b m.length cap2] 28)).alloc (.cells #[.int .i64 n, .int .i64 x] 58)).alloc (.cells #[.int .i64 n2, .int .i64 x2] 58)).alloc (.cells #[.int .i64 n, .int .i64 x] 60)).alloc (.cells #[.int .i64 n2, .int .i64 x2] 60)) = W0 at *
      obtain ⟨hB, hC, hD, ip, iq, ir, it⟩ := hsix
      have HE : Hid (∀ W, Rl W0 W → Below w.heap.size w W) := Lib.hid (fun W h => hB.trans (h.b.mono hB.size))
      have HC := Lib.hid (And.intro hC hD)
      have HB := Lib.hid (Rl.refl W0)
      clear hB hC hD
      obtain ⟨⟨c0, c1, c2, c3, c4⟩, ⟨d0, d1, d2, d3, d4⟩⟩ := HC.out
      obtain ⟨p0, p1⟩ := ip
      replace ip : IB _ _ _ _ := ⟨p0, p1⟩
      obtain ⟨q0, q1⟩ := iq
      replace iq : IB _ _ _ _ := ⟨q0, q1⟩
      obtain ⟨r0, r1⟩ := ir
      replace ir : IB _ _ _ _ := ⟨r0, r1⟩
      obtain ⟨t0, t1⟩ := it
      replace it : IB _ _ _ _ := ⟨t0, t1⟩
      refine (HF1.out _).mono ?_
      rintro e w2 ⟨rfl, hb2⟩
      rw [hf1]
      have HB2 := Lib.hid (Rl.below HB.out hb2)
      replace HB := HB2
      clear HB2
      have HC2 := Lib.hid (And.intro (HC.out.1.blw hb2) (HC.out.2.blw hb2))
      replace HC := HC2
      clear HC2
      have ip2 := ip.blw hb2
      replace ip := ip2
      clear ip2
      obtain ⟨p0, p1⟩ := ip
      replace ip : IB _ _ _ _ := ⟨p0, p1⟩
      have iq2 := iq.blw hb2
      replace iq := iq2
      clear iq2
      obtain ⟨q0, q1⟩ := iq
      replace iq : IB _ _ _ _ := ⟨q0, q1⟩
      have ir2 := ir.blw hb2
      replace ir := ir2
      clear ir2
      obtain ⟨r0, r1⟩ := ir
      replace ir : IB _ _ _ _ := ⟨r0, r1⟩
      have it2 := it.blw hb2
      replace it := it2
      clear it2
      obtain ⟨t0, t1⟩ := it
      replace it : IB _ _ _ _ := ⟨t0, t1⟩
      clear hb2
      obtain ⟨⟨c0, c1, c2, c3, c4⟩, ⟨d0, d1, d2, d3, d4⟩⟩ := HC.out
      go_wp2_with fail
      refine (HCI.out _).mono ?_
      rintro e w2 ⟨rfl, hb2⟩
      have HB2 := Lib.hid (Rl.below HB.out hb2)
      clear hb2 HB
      go_wp2
      go_ret
      exact ⟨by rw [HV.out]; try rfl, HE.out _ HB2.out⟩
    · cases hf2 : fltOk n2 x2
      · have hv : numV 4 n x n2 x2 = plainV 4 n x n2 x2 := by unfold numV; simp [hf1, hf2]
        have HV := Lib.hid hv
        clear hv
        go_enter Try.func35, Try.ntmps35
        go_wp2_with fail
        have hsix := sixbox w 4 n x ⟨s.toArray⟩ a l.length cap k2 n2 x2 ⟨s2.toArray⟩ b m.length cap2 28 58 60
        generalize ((((((w.alloc (.cells #[.int .i64 4, .int .i64 n, .int .i64 x, .string ⟨s.toArray⟩, .slice a l.length cap] 28)).alloc (.cells #[.int .i64 k2, .int .i64 n2, .int .i64 x2, .string ⟨s2.toArray⟩, .slice b m.length cap2] 28)).alloc (.cells #[.int .i64 n, .int .i64 x] 58)).alloc (.cells #[.int .i64 n2, .int .i64 x2] 58)).alloc (.cells #[.int .i64 n, .int .i64 x] 60)).alloc (.cells #[.int .i64 n2, .int .i64 x2] 60)) = W0 at *
        obtain ⟨hB, hC, hD, ip, iq, ir, it⟩ := hsix
        have HE : Hid (∀ W, Rl W0 W → Below w.heap.size w W) := Lib.hid (fun W h => hB.trans (h.b.mono hB.size))
        have HC := Lib.hid (And.intro hC hD)
        have HB := Lib.hid (Rl.refl W0)
        clear hB hC hD
        obtain ⟨⟨c0, c1, c2, c3, c4⟩, ⟨d0, d1, d2, d3, d4⟩⟩ := HC.out
        obtain ⟨p0, p1⟩ := ip
        replace ip : IB _ _ _ _ := ⟨p0, p1⟩
        obtain ⟨q0, q1⟩ := iq
        replace iq : IB _ _ _ _ := ⟨q0, q1⟩
        obtain ⟨r0, r1⟩ := ir
        replace ir : IB _ _ _ _ := ⟨r0, r1⟩
        obtain ⟨t0, t1⟩ := it
        replace it : IB _ _ _ _ := ⟨t0, t1⟩
        refine (HF1.out _).mono ?_
        rintro e w2 ⟨rfl, hb2⟩
        rw [hf1]
        have HB2 := Lib.hid (Rl.below HB.out hb2)
        replace HB := HB2
        clear HB2
        have HC2 := Lib.hid (And.intro (HC.out.1.blw hb2) (HC.out.2.blw hb2))
        replace HC := HC2
        clear HC2
        have ip2 := ip.blw hb2
        replace ip := ip2
        clear ip2
        obtain ⟨p0, p1⟩ := ip
        replace ip : IB _ _ _ _ := ⟨p0, p1⟩
        have iq2 := iq.blw hb2
        replace iq := iq2
        clear iq2
        obtain ⟨q0, q1⟩ := iq
        replace iq : IB _ _ _ _ := ⟨q0, q1⟩
        have ir2 := ir.blw hb2
        replace ir := ir2
        clear ir2
        obtain ⟨r0, r1⟩ := ir
        replace ir : IB _ _ _ _ := ⟨r0, r1⟩
        have it2 := it.blw hb2
        replace it := it2
        clear it2
        obtain ⟨t0, t1⟩ := it
        replace it : IB _ _ _ _ := ⟨t0, t1⟩
        clear hb2
        obtain ⟨⟨c0, c1, c2, c3, c4⟩, ⟨d0, d1, d2, d3, d4⟩⟩ := HC.out
        go_wp2_with fail
        refine (HF2.out _).mono ?_
        rintro e w2 ⟨rfl, hb2⟩
        rw [hf2]
        have HB2 := Lib.hid (Rl.below HB.out hb2)
        replace HB := HB2
        clear HB2
        have HC2 := Lib.hid (And.intro (HC.out.1.blw hb2) (HC.out.2.blw hb2))
        replace HC := HC2
        clear HC2
        have ip2 := ip.blw hb2
        replace ip := ip2
        clear ip2
        obtain ⟨p0, p1⟩ := ip
        replace ip : IB _ _ _ _ := ⟨p0, p1⟩
        have iq2 := iq.blw hb2
        replace iq := iq2
        clear iq2
        obtain ⟨q0, q1⟩ := iq
        replace iq : IB _ _ _ _ := ⟨q0, q1⟩
        have ir2 := ir.blw hb2
        replace ir := ir2
        clear ir2
        obtain ⟨r0, r1⟩ := ir
        replace ir : IB _ _ _ _ := ⟨r0, r1⟩
        have it2 := it.blw hb2
        replace it := it2
        clear it2
        obtain ⟨t0, t1⟩ := it
        replace it : IB _ _ _ _ := ⟨t0, t1⟩
        clear hb2
        obtain ⟨⟨c0, c1, c2, c3, c4⟩, ⟨d0, d1, d2, d3, d4⟩⟩ := HC.out
        go_wp2_with fail
        refine (HCI.out _).mono ?_
        rintro e w2 ⟨rfl, hb2⟩
        have HB2 := Lib.hid (Rl.below HB.out hb2)
        clear hb2 HB
        go_wp2
        go_ret
        exact ⟨by rw [HV.out]; try rfl, HE.out _ HB2.out⟩
      · have hv : numV 4 n x n2 x2 = byV (lessF n x n2 x2) (lessF n2 x2 n x) := by unfold numV; simp [hf1, hf2]
        cases hl1 : lessF n x n2 x2
        · cases hl2 : lessF n2 x2 n x
          · rw [hl1, hl2] at hv
            rw [show byV false false = 0 from rfl] at hv
            have HV := Lib.hid hv
            clear hv
            go_enter Try.func35, Try.ntmps35
            go_wp2_with fail
            have hsix := sixbox w 4 n x ⟨s.toArray⟩ a l.length cap k2 n2 x2 ⟨s2.toArray⟩ b m.length cap2 28 58 60
            generalize ((((((w.alloc (.cells #[.int .i64 4, .int .i64 n, .int .i64 x, .string ⟨s.toArray⟩, .slice a l.length cap] 28)).alloc (.cells #[.int .i64 k2, .int .i64 n2, .int .i64 x2, .string ⟨s2.toArray⟩, .slice b m.length cap2] 28)).alloc (.cells #[.int .i64 n, .int .i64 x] 58)).alloc (.cells #[.int .i64 n2, .int .i64 x2] 58)).alloc (.cells #[.int .i64 n, .int .i64 x] 60)).alloc (.cells #[.int .i64 n2, .int .i64 x2] 60)) = W0 at *
            obtain ⟨hB, hC, hD, ip, iq, ir, it⟩ := hsix
            have HE : Hid (∀ W, Rl W0 W → Below w.heap.size w W) := Lib.hid (fun W h => hB.trans (h.b.mono hB.size))
            have HC := Lib.hid (And.intro hC hD)
            have HB := Lib.hid (Rl.refl W0)
            clear hB hC hD
            obtain ⟨⟨c0, c1, c2, c3, c4⟩, ⟨d0, d1, d2, d3, d4⟩⟩ := HC.out
            obtain ⟨p0, p1⟩ := ip
            replace ip : IB _ _ _ _ := ⟨p0, p1⟩
            obtain ⟨q0, q1⟩ := iq
            replace iq : IB _ _ _ _ := ⟨q0, q1⟩
            obtain ⟨r0, r1⟩ := ir
            replace ir : IB _ _ _ _ := ⟨r0, r1⟩
            obtain ⟨t0, t1⟩ := it
            replace it : IB _ _ _ _ := ⟨t0, t1⟩
            refine (HF1.out _).mono ?_
            rintro e w2 ⟨rfl, hb2⟩
            rw [hf1]
            have HB2 := Lib.hid (Rl.below HB.out hb2)
            replace HB := HB2
            clear HB2
            have HC2 := Lib.hid (And.intro (HC.out.1.blw hb2) (HC.out.2.blw hb2))
            replace HC := HC2
            clear HC2
            have ip2 := ip.blw hb2
            replace ip := ip2
            clear ip2
            obtain ⟨p0, p1⟩ := ip
            replace ip : IB _ _ _ _ := ⟨p0, p1⟩
            have iq2 := iq.blw hb2
            replace iq := iq2
            clear iq2
            obtain ⟨q0, q1⟩ := iq
            replace iq : IB _ _ _ _ := ⟨q0, q1⟩
            have ir2 := ir.blw hb2
            replace ir := ir2
            clear ir2
            obtain ⟨r0, r1⟩ := ir
            replace ir : IB _ _ _ _ := ⟨r0, r1⟩
            have it2 := it.blw hb2
            replace it := it2
            clear it2
            obtain ⟨t0, t1⟩ := it
            replace it : IB _ _ _ _ := ⟨t0, t1⟩
            clear hb2
            obtain ⟨⟨c0, c1, c2, c3, c4⟩, ⟨d0, d1, d2, d3, d4⟩⟩ := HC.out
            go_wp2_with fail
            refine (HF2.out _).mono ?_
            rintro e w2 ⟨rfl, hb2⟩
            rw [hf2]
            have HB2 := Lib.hid (Rl.below HB.out hb2)
            replace HB := HB2
            clear HB2
            have HC2 := Lib.hid (And.intro (HC.out.1.blw hb2) (HC.out.2.blw hb2))
            replace HC := HC2
            clear HC2
            have ip2 := ip.blw hb2
            replace ip := ip2
            clear ip2
            obtain ⟨p0, p1⟩ := ip
            replace ip : IB _ _ _ _ := ⟨p0, p1⟩
            have iq2 := iq.blw hb2
            replace iq := iq2
            clear iq2
            obtain ⟨q0, q1⟩ := iq
            replace iq : IB _ _ _ _ := ⟨q0, q1⟩
            have ir2 := ir.blw hb2
            replace ir := ir2
            clear ir2
            obtain ⟨r0, r1⟩ := ir
            replace ir : IB _ _ _ _ := ⟨r0, r1⟩
            have it2 := it.blw hb2
            replace it := it2
            clear it2
            obtain ⟨t0, t1⟩ := it
            replace it : IB _ _ _ _ := ⟨t0, t1⟩
            clear hb2
            obtain ⟨⟨c0, c1, c2, c3, c4⟩, ⟨d0, d1, d2, d3, d4⟩⟩ := HC.out
            go_wp2_with fail
            refine (HL1.out _).mono ?_
            rintro e w2 ⟨rfl, hb2⟩
            rw [hl1]
            have HB2 := Lib.hid (Rl.below HB.out hb2)
            replace HB := HB2
            clear HB2
            have HC2 := Lib.hid (And.intro (HC.out.1.blw hb2) (HC.out.2.blw hb2))
            replace HC := HC2
            clear HC2
            have ip2 := ip.blw hb2
            replace ip := ip2
            clear ip2
            obtain ⟨p0, p1⟩ := ip
            replace ip : IB _ _ _ _ := ⟨p0, p1⟩
            have iq2 := iq.blw hb2
            replace iq := iq2
            clear iq2
            obtain ⟨q0, q1⟩ := iq
            replace iq : IB _ _ _ _ := ⟨q0, q1⟩
            have ir2 := ir.blw hb2
            replace ir := ir2
            clear ir2
            obtain ⟨r0, r1⟩ := ir
            replace ir : IB _ _ _ _ := ⟨r0, r1⟩
            have it2 := it.blw hb2
            replace it := it2
            clear it2
            obtain ⟨t0, t1⟩ := it
            replace it : IB _ _ _ _ := ⟨t0, t1⟩
            clear hb2
            obtain ⟨⟨c0, c1, c2, c3, c4⟩, ⟨d0, d1, d2, d3, d4⟩⟩ := HC.out
            go_wp2_with fail
            refine (HL2.out _).mono ?_
            rintro e w2 ⟨rfl, hb2⟩
            rw [hl2]
            have HB2 := Lib.hid (Rl.below HB.out hb2)
            clear hb2 HB
            go_wp2
            go_ret
            exact ⟨by rw [HV.out]; try rfl, HE.out _ HB2.out⟩
          · rw [hl1, hl2] at hv
            rw [show byV false true = 1 from rfl] at hv
            have HV := Lib.hid hv
            clear hv
            go_enter Try.func35, Try.ntmps35
            go_wp2_with fail
            have hsix := sixbox w 4 n x ⟨s.toArray⟩ a l.length cap k2 n2 x2 ⟨s2.toArray⟩ b m.length cap2 28 58 60
            generalize ((((((w.alloc (.cells #[.int .i64 4, .int .i64 n, .int .i64 x, .string ⟨s.toArray⟩, .slice a l.length cap] 28)).alloc (.cells #[.int .i64 k2, .int .i64 n2, .int .i64 x2, .string ⟨s2.toArray⟩, .slice b m.length cap2] 28)).alloc (.cells #[.int .i64 n, .int .i64 x] 58)).alloc (.cells #[.int .i64 n2, .int .i64 x2] 58)).alloc (.cells #[.int .i64 n, .int .i64 x] 60)).alloc (.cells #[.int .i64 n2, .int .i64 x2] 60)) = W0 at *
            obtain ⟨hB, hC, hD, ip, iq, ir, it⟩ := hsix
            have HE : Hid (∀ W, Rl W0 W → Below w.heap.size w W) := Lib.hid (fun W h => hB.trans (h.b.mono hB.size))
            have HC := Lib.hid (And.intro hC hD)
            have HB := Lib.hid (Rl.refl W0)
            clear hB hC hD
            obtain ⟨⟨c0, c1, c2, c3, c4⟩, ⟨d0, d1, d2, d3, d4⟩⟩ := HC.out
            obtain ⟨p0, p1⟩ := ip
            replace ip : IB _ _ _ _ := ⟨p0, p1⟩
            obtain ⟨q0, q1⟩ := iq
            replace iq : IB _ _ _ _ := ⟨q0, q1⟩
            obtain ⟨r0, r1⟩ := ir
            replace ir : IB _ _ _ _ := ⟨r0, r1⟩
            obtain ⟨t0, t1⟩ := it
            replace it : IB _ _ _ _ := ⟨t0, t1⟩
            refine (HF1.out _).mono ?_
            rintro e w2 ⟨rfl, hb2⟩
            rw [hf1]
            have HB2 := Lib.hid (Rl.below HB.out hb2)
            replace HB := HB2
            clear HB2
            have HC2 := Lib.hid (And.intro (HC.out.1.blw hb2) (HC.out.2.blw hb2))
            replace HC := HC2
            clear HC2
            have ip2 := ip.blw hb2
            replace ip := ip2
            clear ip2
            obtain ⟨p0, p1⟩ := ip
            replace ip : IB _ _ _ _ := ⟨p0, p1⟩
            have iq2 := iq.blw hb2
            replace iq := iq2
            clear iq2
            obtain ⟨q0, q1⟩ := iq
            replace iq : IB _ _ _ _ := ⟨q0, q1⟩
            have ir2 := ir.blw hb2
            replace ir := ir2
            clear ir2
            obtain ⟨r0, r1⟩ := ir
            replace ir : IB _ _ _ _ := ⟨r0, r1⟩
            have it2 := it.blw hb2
            replace it := it2
            clear it2
            obtain ⟨t0, t1⟩ := it
            replace it : IB _ _ _ _ := ⟨t0, t1⟩
            clear hb2
            obtain ⟨⟨c0, c1, c2, c3, c4⟩, ⟨d0, d1, d2, d3, d4⟩⟩ := HC.out
            go_wp2_with fail
            refine (HF2.out _).mono ?_
            rintro e w2 ⟨rfl, hb2⟩
            rw [hf2]
            have HB2 := Lib.hid (Rl.below HB.out hb2)
            replace HB := HB2
            clear HB2
            have HC2 := Lib.hid (And.intro (HC.out.1.blw hb2) (HC.out.2.blw hb2))
            replace HC := HC2
            clear HC2
            have ip2 := ip.blw hb2
            replace ip := ip2
            clear ip2
            obtain ⟨p0, p1⟩ := ip
            replace ip : IB _ _ _ _ := ⟨p0, p1⟩
            have iq2 := iq.blw hb2
            replace iq := iq2
            clear iq2
            obtain ⟨q0, q1⟩ := iq
            replace iq : IB _ _ _ _ := ⟨q0, q1⟩
            have ir2 := ir.blw hb2
            replace ir := ir2
            clear ir2
            obtain ⟨r0, r1⟩ := ir
            replace ir : IB _ _ _ _ := ⟨r0, r1⟩
            have it2 := it.blw hb2
            replace it := it2
            clear it2
            obtain ⟨t0, t1⟩ := it
            replace it : IB _ _ _ _ := ⟨t0, t1⟩
            clear hb2
            obtain ⟨⟨c0, c1, c2, c3, c4⟩, ⟨d0, d1, d2, d3, d4⟩⟩ := HC.out
            go_wp2_with fail
            refine (HL1.out _).mono ?_
            rintro e w2 ⟨rfl, hb2⟩
            rw [hl1]
            have HB2 := Lib.hid (Rl.below HB.out hb2)
            replace HB := HB2
            clear HB2
            have HC2 := Lib.hid (And.intro (HC.out.1.blw hb2) (HC.out.2.blw hb2))
            replace HC := HC2
            clear HC2
            have ip2 := ip.blw hb2
            replace ip := ip2
            clear ip2
            obtain ⟨p0, p1⟩ := ip
            replace ip : IB _ _ _ _ := ⟨p0, p1⟩
            have iq2 := iq.blw hb2
            replace iq := iq2
            clear iq2
            obtain ⟨q0, q1⟩ := iq
            replace iq : IB _ _ _ _ := ⟨q0, q1⟩
            have ir2 := ir.blw hb2
            replace ir := ir2
            clear ir2
            obtain ⟨r0, r1⟩ := ir
            replace ir : IB _ _ _ _ := ⟨r0, r1⟩
            have it2 := it.blw hb2
            replace it := it2
            clear it2
            obtain ⟨t0, t1⟩ := it
            replace it : IB _ _ _ _ := ⟨t0, t1⟩
            clear hb2
            obtain ⟨⟨c0, c1, c2, c3, c4⟩, ⟨d0, d1, d2, d3, d4⟩⟩ := HC.out
            go_wp2_with fail
            refine (HL2.out _).mono ?_
            rintro e w2 ⟨rfl, hb2⟩
            rw [hl2]
            have HB2 := Lib.hid (Rl.below HB.out hb2)
            clear hb2 HB
            go_wp2
            go_ret
            exact ⟨by rw [HV.out]; try rfl, HE.out _ HB2.out⟩
        · rw [hl1] at hv
          rw [show ∀ r, byV true r = -1 from fun _ => rfl] at hv
          have HV := Lib.hid hv
          clear hv
          go_enter Try.func35, Try.ntmps35
          go_wp2_with fail
          have hsix := sixbox w 4 n x ⟨s.toArray⟩ a l.length cap k2 n2 x2 ⟨s2.toArray⟩ b m.length cap2 28 58 60
          generalize ((((((w.alloc (.cells #[.int .i64 4, .int .i64 n, .int .i64 x, .string ⟨s.toArray⟩, .slice a l.length cap] 28)).alloc (.cells #[.int .i64 k2, .int .i64 n2, .int .i64 x2, .string ⟨s2.toArray⟩, .slice b m.length cap2] 28)).alloc (.cells #[.int .i64 n, .int .i64 x] 58)).alloc (.cells #[.int .i64 n2, .int .i64 x2] 58)).alloc (.cells #[.int .i64 n, .int .i64 x] 60)).alloc (.cells #[.int .i64 n2, .int .i64 x2] 60)) = W0 at *
          obtain ⟨hB, hC, hD, ip, iq, ir, it⟩ := hsix
          have HE : Hid (∀ W, Rl W0 W → Below w.heap.size w W) := Lib.hid (fun W h => hB.trans (h.b.mono hB.size))
          have HC := Lib.hid (And.intro hC hD)
          have HB := Lib.hid (Rl.refl W0)
          clear hB hC hD
          obtain ⟨⟨c0, c1, c2, c3, c4⟩, ⟨d0, d1, d2, d3, d4⟩⟩ := HC.out
          obtain ⟨p0, p1⟩ := ip
          replace ip : IB _ _ _ _ := ⟨p0, p1⟩
          obtain ⟨q0, q1⟩ := iq
          replace iq : IB _ _ _ _ := ⟨q0, q1⟩
          obtain ⟨r0, r1⟩ := ir
          replace ir : IB _ _ _ _ := ⟨r0, r1⟩
          obtain ⟨t0, t1⟩ := it
          replace it : IB _ _ _ _ := ⟨t0, t1⟩
          refine (HF1.out _).mono ?_
          rintro e w2 ⟨rfl, hb2⟩
          rw [hf1]
          have HB2 := Lib.hid (Rl.below HB.out hb2)
          replace HB := HB2
          clear HB2
          have HC2 := Lib.hid (And.intro (HC.out.1.blw hb2) (HC.out.2.blw hb2))
          replace HC := HC2
          clear HC2
          have ip2 := ip.blw hb2
          replace ip := ip2
          clear ip2
          obtain ⟨p0, p1⟩ := ip
          replace ip : IB _ _ _ _ := ⟨p0, p1⟩
          have iq2 := iq.blw hb2
          replace iq := iq2
          clear iq2
          obtain ⟨q0, q1⟩ := iq
          replace iq : IB _ _ _ _ := ⟨q0, q1⟩
          have ir2 := ir.blw hb2
          replace ir := ir2
          clear ir2
          obtain ⟨r0, r1⟩ := ir
          replace ir : IB _ _ _ _ := ⟨r0, r1⟩
          have it2 := it.blw hb2
          replace it := it2
          clear it2
          obtain ⟨t0, t1⟩ := it
          replace it : IB _ _ _ _ := ⟨t0, t1⟩
          clear hb2
          obtain ⟨⟨c0, c1, c2, c3, c4⟩, ⟨d0, d1, d2, d3, d4⟩⟩ := HC.out
          go_wp2_with fail
          refine (HF2.out _).mono ?_
          rintro e w2 ⟨rfl, hb2⟩
          rw [hf2]
          have HB2 := Lib.hid (Rl.below HB.out hb2)
          replace HB := HB2
          clear HB2
          have HC2 := Lib.hid (And.intro (HC.out.1.blw hb2) (HC.out.2.blw hb2))
          replace HC := HC2
          clear HC2
          have ip2 := ip.blw hb2
          replace ip := ip2
          clear ip2
          obtain ⟨p0, p1⟩ := ip
          replace ip : IB _ _ _ _ := ⟨p0, p1⟩
          have iq2 := iq.blw hb2
          replace iq := iq2
          clear iq2
          obtain ⟨q0, q1⟩ := iq
          replace iq : IB _ _ _ _ := ⟨q0, q1⟩
          have ir2 := ir.blw hb2
          replace ir := ir2
          clear ir2
          obtain ⟨r0, r1⟩ := ir
          replace ir : IB _ _ _ _ := ⟨r0, r1⟩
          have it2 := it.blw hb2
          replace it := it2
          clear it2
          obtain ⟨t0, t1⟩ := it
          replace it : IB _ _ _ _ := ⟨t0, t1⟩
          clear hb2
          obtain ⟨⟨c0, c1, c2, c3, c4⟩, ⟨d0, d1, d2, d3, d4⟩⟩ := HC.out
          go_wp2_with fail
          refine (HL1.out _).mono ?_
          rintro e w2 ⟨rfl, hb2⟩
          rw [hl1]
          have HB2 := Lib.hid (Rl.below HB.out hb2)
          clear hb2 HB
          go_wp2
          go_ret
          exact ⟨by rw [HV.out]; try rfl, HE.out _ HB2.out⟩
  · by_cases hk6 : k = 6
    · subst hk6
      cases hf1 : decOk n x
      · have hv : numV 6 n x n2 x2 = plainV 6 n x n2 x2 := by unfold numV; simp [hf1]
        have HV := Lib.hid hv
        clear hv
        go_enter Try.func35, Try.ntmps35
        go_wp2_with fail
        have hsix := sixbox w 6 n x ⟨s.toArray⟩ a l.length cap k2 n2 x2 ⟨s2.toArray⟩ b m.length cap2 28 58 60
        generalize ((((((w.alloc (.cells #[.int .i64 6, .int .i64 n, .int .i64 x, .string ⟨s.toArray⟩, .slice a l.length cap] 28)).alloc (.cells #[.int .i64 k2, .int .i64 n2, .int .i64 x2, .string ⟨s2.toArray⟩, .slice b m.length cap2] 28)).alloc (.cells #[.int .i64 n, .int .i64 x] 58)).alloc (.cells #[.int .i64 n2, .int .i64 x2] 58)).alloc (.cells #[.int .i64 n, .int .i64 x] 60)).alloc (.cells #[.int .i64 n2, .int .i64 x2] 60)) = W0 at *
        obtain ⟨hB, hC, hD, ip, iq, ir, it⟩ := hsix
        have HE : Hid (∀ W, Rl W0 W → Below w.heap.size w W) := Lib.hid (fun W h => hB.trans (h.b.mono hB.size))
        have HC := Lib.hid (And.intro hC hD)
        have HB := Lib.hid (Rl.refl W0)
        clear hB hC hD
        obtain ⟨⟨c0, c1, c2, c3, c4⟩, ⟨d0, d1, d2, d3, d4⟩⟩ := HC.out
        obtain ⟨p0, p1⟩ := ip
        replace ip : IB _ _ _ _ := ⟨p0, p1⟩
        obtain ⟨q0, q1⟩ := iq
        replace iq : IB _ _ _ _ := ⟨q0, q1⟩
        obtain ⟨r0, r1⟩ := ir
        replace ir : IB _ _ _ _ := ⟨r0, r1⟩
        obtain ⟨t0, t1⟩ := it
        replace it : IB _ _ _ _ := ⟨t0, t1⟩
        refine (HD1.out _).mono ?_
        rintro e w2 ⟨rfl, hb2⟩
        rw [hf1]
        have HB2 := Lib.hid (Rl.below HB.out hb2)
        replace HB := HB2
        clear HB2
        have HC2 := Lib.hid (And.intro (HC.out.1.blw hb2) (HC.out.2.blw hb2))
        replace HC := HC2
        clear HC2
        have ip2 := ip.blw hb2
        replace ip := ip2
        clear ip2
        obtain ⟨p0, p1⟩ := ip
        replace ip : IB _ _ _ _ := ⟨p0, p1⟩
        have iq2 := iq.blw hb2
        replace iq := iq2
        clear iq2
        obtain ⟨q0, q1⟩ := iq
        replace iq : IB _ _ _ _ := ⟨q0, q1⟩
        have ir2 := ir.blw hb2
        replace ir := ir2
        clear ir2
        obtain ⟨r0, r1⟩ := ir
        replace ir : IB _ _ _ _ := ⟨r0, r1⟩
        have it2 := it.blw hb2
        replace it := it2
        clear it2
        obtain ⟨t0, t1⟩ := it
        replace it : IB _ _ _ _ := ⟨t0, t1⟩
        clear hb2
        obtain ⟨⟨c0, c1, c2, c3, c4⟩, ⟨d0, d1, d2, d3, d4⟩⟩ := HC.out
        go_wp2_with fail
        refine (HCI.out _).mono ?_
        rintro e w2 ⟨rfl, hb2⟩
        have HB2 := Lib.hid (Rl.below HB.out hb2)
        clear hb2 HB
        go_wp2
        go_ret
        exact ⟨by rw [HV.out]; try rfl, HE.out _ HB2.out⟩
      · cases hf2 : decOk n2 x2
        · have hv : numV 6 n x n2 x2 = plainV 6 n x n2 x2 := by unfold numV; simp [hf1, hf2]
          have HV := Lib.hid hv
          clear hv
          go_enter Try.func35, Try.ntmps35
          go_wp2_with fail
          have hsix := sixbox w 6 n x ⟨s.toArray⟩ a l.length cap k2 n2 x2 ⟨s2.toArray⟩ b m.length cap2 28 58 60
          generalize ((((((w.alloc (.cells #[.int .i64 6, .int .i64 n, .int .i64 x, .string ⟨s.toArray⟩, .slice a l.length cap] 28)).alloc (.cells #[.int .i64 k2, .int .i64 n2, .int .i64 x2, .string ⟨s2.toArray⟩, .slice b m.length cap2] 28)).alloc (.cells #[.int .i64 n, .int .i64 x] 58)).alloc (.cells #[.int .i64 n2, .int .i64 x2] 58)).alloc (.cells #[.int .i64 n, .int .i64 x] 60)).alloc (.cells #[.int .i64 n2, .int .i64 x2] 60)) = W0 at *
          obtain ⟨hB, hC, hD, ip, iq, ir, it⟩ := hsix
          have HE : Hid (∀ W, Rl W0 W → Below w.heap.size w W) := Lib.hid (fun W h => hB.trans (h.b.mono hB.size))
          have HC := Lib.hid (And.intro hC hD)
          have HB := Lib.hid (Rl.refl W0)
          clear hB hC hD
          obtain ⟨⟨c0, c1, c2, c3, c4⟩, ⟨d0, d1, d2, d3, d4⟩⟩ := HC.out
          obtain ⟨p0, p1⟩ := ip
          replace ip : IB _ _ _ _ := ⟨p0, p1⟩
          obtain ⟨q0, q1⟩ := iq
          replace iq : IB _ _ _ _ := ⟨q0, q1⟩
          obtain ⟨r0, r1⟩ := ir
          replace ir : IB _ _ _ _ := ⟨r0, r1⟩
          obtain ⟨t0, t1⟩ := it
          replace it : IB _ _ _ _ := ⟨t0, t1⟩
          refine (HD1.out _).mono ?_
          rintro e w2 ⟨rfl, hb2⟩
          rw [hf1]
          have HB2 := Lib.hid (Rl.below HB.out hb2)
          replace HB := HB2
          clear HB2
          have HC2 := Lib.hid (And.intro (HC.out.1.blw hb2) (HC.out.2.blw hb2))
          replace HC := HC2
          clear HC2
          have ip2 := ip.blw hb2
          replace ip := ip2
          clear ip2
          obtain ⟨p0, p1⟩ := ip
          replace ip : IB _ _ _ _ := ⟨p0, p1⟩
          have iq2 := iq.blw hb2
          replace iq := iq2
          clear iq2
          obtain ⟨q0, q1⟩ := iq
          replace iq : IB _ _ _ _ := ⟨q0, q1⟩
          have ir2 := ir.blw hb2
          replace ir := ir2
          clear ir2
          obtain ⟨r0, r1⟩ := ir
          replace ir : IB _ _ _ _ := ⟨r0, r1⟩
          have it2 := it.blw hb2
          replace it := it2
          clear it2
          obtain ⟨t0, t1⟩ := it
          replace it : IB _ _ _ _ := ⟨t0, t1⟩
          clear hb2
          obtain ⟨⟨c0, c1, c2, c3, c4⟩, ⟨d0, d1, d2, d3, d4⟩⟩ := HC.out
          go_wp2_with fail
          refine (HD2.out _).mono ?_
          rintro e w2 ⟨rfl, hb2⟩
          rw [hf2]
          have HB2 := Lib.hid (Rl.below HB.out hb2)
          replace HB := HB2
          clear HB2
          have HC2 := Lib.hid (And.intro (HC.out.1.blw hb2) (HC.out.2.blw hb2))
          replace HC := HC2
          clear HC2
          have ip2 := ip.blw hb2
          replace ip := ip2
          clear ip2
          obtain ⟨p0, p1⟩ := ip
          replace ip : IB _ _ _ _ := ⟨p0, p1⟩
          have iq2 := iq.blw hb2
          replace iq := iq2
          clear iq2
          obtain ⟨q0, q1⟩ := iq
          replace iq : IB _ _ _ _ := ⟨q0, q1⟩
          have ir2 := ir.blw hb2
          replace ir := ir2
          clear ir2
          obtain ⟨r0, r1⟩ := ir
          replace ir : IB _ _ _ _ := ⟨r0, r1⟩
          have it2 := it.blw hb2
          replace it := it2
          clear it2
          obtain ⟨t0, t1⟩ := it
          replace it : IB _ _ _ _ := ⟨t0, t1⟩
          clear hb2
          obtain ⟨⟨c0, c1, c2, c3, c4⟩, ⟨d0, d1, d2, d3, d4⟩⟩ := HC.out
          go_wp2_with fail
          refine (HCI.out _).mono ?_
          rintro e w2 ⟨rfl, hb2⟩
          have HB2 := Lib.hid (Rl.below HB.out hb2)
          clear hb2 HB
          go_wp2
          go_ret
          exact ⟨by rw [HV.out]; try rfl, HE.out _ HB2.out⟩
        · have hv : numV 6 n x n2 x2 = byV (lessB n x n2 x2) (lessB n2 x2 n x) := by unfold numV; simp [hf1, hf2]
          cases hl1 : lessB n x n2 x2
          · cases hl2 : lessB n2 x2 n x
            · rw [hl1, hl2] at hv
              rw [show byV false false = 0 from rfl] at hv
              have HV := Lib.hid hv
              clear hv
              go_enter Try.func35, Try.ntmps35
              go_wp2_with fail
              have hsix := sixbox w 6 n x ⟨s.toArray⟩ a l.length cap k2 n2 x2 ⟨s2.toArray⟩ b m.length cap2 28 58 60
              generalize ((((((w.alloc (.cells #[.int .i64 6, .int .i64 n, .int .i64 x, .string ⟨s.toArray⟩, .slice a l.length cap] 28)).alloc (.cells #[.int .i64 k2, .int .i64 n2, .int .i64 x2, .string ⟨s2.toArray⟩, .slice b m.length cap2] 28)).alloc (.cells #[.int .i64 n, .int .i64 x] 58)).alloc (.cells #[.int .i64 n2, .int .i64 x2] 58)).alloc (.cells #[.int .i64 n, .int .i64 x] 60)).alloc (.cells #[.int .i64 n2, .int .i64 x2] 60)) = W0 at *
              obtain ⟨hB, hC, hD, ip, iq, ir, it⟩ := hsix
              have HE : Hid (∀ W, Rl W0 W → Below w.heap.size w W) := Lib.hid (fun W h => hB.trans (h.b.mono hB.size))
              have HC := Lib.hid (And.intro hC hD)
              have HB := Lib.hid (Rl.refl W0)
              clear hB hC hD
              obtain ⟨⟨c0, c1, c2, c3, c4⟩, ⟨d0, d1, d2, d3, d4⟩⟩ := HC.out
              obtain ⟨p0, p1⟩ := ip
              replace ip : IB _ _ _ _ := ⟨p0, p1⟩
              obtain ⟨q0, q1⟩ := iq
              replace iq : IB _ _ _ _ := ⟨q0, q1⟩
              obtain ⟨r0, r1⟩ := ir
              replace ir : IB _ _ _ _ := ⟨r0, r1⟩
              obtain ⟨t0, t1⟩ := it
              replace it : IB _ _ _ _ := ⟨t0, t1⟩
              refine (HD1.out _).mono ?_
              rintro e w2 ⟨rfl, hb2⟩
              rw [hf1]
              have HB2 := Lib.hid (Rl.below HB.out hb2)
              replace HB := HB2
              clear HB2
              have HC2 := Lib.hid (And.intro (HC.out.1.blw hb2) (HC.out.2.blw hb2))
              replace HC := HC2
              clear HC2
              have ip2 := ip.blw hb2
              replace ip := ip2
              clear ip2
              obtain ⟨p0, p1⟩ := ip
              replace ip : IB _ _ _ _ := ⟨p0, p1⟩
              have iq2 := iq.blw hb2
              replace iq := iq2
              clear iq2
              obtain ⟨q0, q1⟩ := iq
              replace iq : IB _ _ _ _ := ⟨q0, q1⟩
              have ir2 := ir.blw hb2
              replace ir := ir2
              clear ir2
              obtain ⟨r0, r1⟩ := ir
              replace ir : IB _ _ _ _ := ⟨r0, r1⟩
              have it2 := it.blw hb2
              replace it := it2
              clear it2
              obtain ⟨t0, t1⟩ := it
              replace it : IB _ _ _ _ := ⟨t0, t1⟩
              clear hb2
              obtain ⟨⟨c0, c1, c2, c3, c4⟩, ⟨d0, d1, d2, d3, d4⟩⟩ := HC.out
              go_wp2_with fail
              refine (HD2.out _).mono ?_
              rintro e w2 ⟨rfl, hb2⟩
              rw [hf2]
              have HB2 := Lib.hid (Rl.below HB.out hb2)
              replace HB := HB2
              clear HB2
              have HC2 := Lib.hid (And.intro (HC.out.1.blw hb2) (HC.out.2.blw hb2))
              replace HC := HC2
              clear HC2
              have ip2 := ip.blw hb2
              replace ip := ip2
              clear ip2
              obtain ⟨p0, p1⟩ := ip
              replace ip : IB _ _ _ _ := ⟨p0, p1⟩
              have iq2 := iq.blw hb2
              replace iq := iq2
              clear iq2
              obtain ⟨q0, q1⟩ := iq
              replace iq : IB _ _ _ _ := ⟨q0, q1⟩
              have ir2 := ir.blw hb2
              replace ir := ir2
              clear ir2
              obtain ⟨r0, r1⟩ := ir
              replace ir : IB _ _ _ _ := ⟨r0, r1⟩
              have it2 := it.blw hb2
              replace it := it2
              clear it2
              obtain ⟨t0, t1⟩ := it
              replace it : IB _ _ _ _ := ⟨t0, t1⟩
              clear hb2
              obtain ⟨⟨c0, c1, c2, c3, c4⟩, ⟨d0, d1, d2, d3, d4⟩⟩ := HC.out
              go_wp2_with fail
              refine (HG1.out _).mono ?_
              rintro e w2 ⟨rfl, hb2⟩
              rw [hl1]
              have HB2 := Lib.hid (Rl.below HB.out hb2)
              replace HB := HB2
              clear HB2
              have HC2 := Lib.hid (And.intro (HC.out.1.blw hb2) (HC.out.2.blw hb2))
              replace HC := HC2
              clear HC2
              have ip2 := ip.blw hb2
              replace ip := ip2
              clear ip2
              obtain ⟨p0, p1⟩ := ip
              replace ip : IB _ _ _ _ := ⟨p0, p1⟩
              have iq2 := iq.blw hb2
              replace iq := iq2
              clear iq2
              obtain ⟨q0, q1⟩ := iq
              replace iq : IB _ _ _ _ := ⟨q0, q1⟩
              have ir2 := ir.blw hb2
              replace ir := ir2
              clear ir2
              obtain ⟨r0, r1⟩ := ir
              replace ir : IB _ _ _ _ := ⟨r0, r1⟩
              have it2 := it.blw hb2
              replace it := it2
              clear it2
              obtain ⟨t0, t1⟩ := it
              replace it : IB _ _ _ _ := ⟨t0, t1⟩
              clear hb2
              obtain ⟨⟨c0, c1, c2, c3, c4⟩, ⟨d0, d1, d2, d3, d4⟩⟩ := HC.out
              go_wp2_with fail
              refine (HG2.out _).mono ?_
              rintro e w2 ⟨rfl, hb2⟩
              rw [hl2]
              have HB2 := Lib.hid (Rl.below HB.out hb2)
              clear hb2 HB
              go_wp2
              go_ret
              exact ⟨by rw [HV.out]; try rfl, HE.out _ HB2.out⟩
            · rw [hl1, hl2] at hv
              rw [show byV false true = 1 from rfl] at hv
              have HV := Lib.hid hv
              clear hv
              go_enter Try.func35, Try.ntmps35
              go_wp2_with fail
              have hsix := sixbox w 6 n x ⟨s.toArray⟩ a l.length cap k2 n2 x2 ⟨s2.toArray⟩ b m.length cap2 28 58 60
              generalize ((((((w.alloc (.cells #[.int .i64 6, .int .i64 n, .int .i64 x, .string ⟨s.toArray⟩, .slice a l.length cap] 28)).alloc (.cells #[.int .i64 k2, .int .i64 n2, .int .i64 x2, .string ⟨s2.toArray⟩, .slice b m.length cap2] 28)).alloc (.cells #[.int .i64 n, .int .i64 x] 58)).alloc (.cells #[.int .i64 n2, .int .i64 x2] 58)).alloc (.cells #[.int .i64 n, .int .i64 x] 60)).alloc (.cells #[.int .i64 n2, .int .i64 x2] 60)) = W0 at *
              obtain ⟨hB, hC, hD, ip, iq, ir, it⟩ := hsix
              have HE : Hid (∀ W, Rl W0 W → Below w.heap.size w W) := Lib.hid (fun W h => hB.trans (h.b.mono hB.size))
              have HC := Lib.hid (And.intro hC hD)
              have HB := Lib.hid (Rl.refl W0)
              clear hB hC hD
              obtain ⟨⟨c0, c1, c2, c3, c4⟩, ⟨d0, d1, d2, d3, d4⟩⟩ := HC.out
              obtain ⟨p0, p1⟩ := ip
              replace ip : IB _ _ _ _ := ⟨p0, p1⟩
              obtain ⟨q0, q1⟩ := iq
              replace iq : IB _ _ _ _ := ⟨q0, q1⟩
              obtain ⟨r0, r1⟩ := ir
              replace ir : IB _ _ _ _ := ⟨r0, r1⟩
              obtain ⟨t0, t1⟩ := it
              replace it : IB _ _ _ _ := ⟨t0, t1⟩
              refine (HD1.out _).mono ?_
              rintro e w2 ⟨rfl, hb2⟩
              rw [hf1]
              have HB2 := Lib.hid (Rl.below HB.out hb2)
              replace HB := HB2
              clear HB2
              have HC2 := Lib.hid (And.intro (HC.out.1.blw hb2) (HC.out.2.blw hb2))
              replace HC := HC2
              clear HC2
              have ip2 := ip.blw hb2
              replace ip := ip2
              clear ip2
              obtain ⟨p0, p1⟩ := ip
              replace ip : IB _ _ _ _ := ⟨p0, p1⟩
              have iq2 := iq.blw hb2
              replace iq := iq2
              clear iq2
              obtain ⟨q0, q1⟩ := iq
              replace iq : IB _ _ _ _ := ⟨q0, q1⟩
              have ir2 := ir.blw hb2
              replace ir := ir2
              clear ir2
              obtain ⟨r0, r1⟩ := ir
              replace ir : IB _ _ _ _ := ⟨r0, r1⟩
              have it2 := it.blw hb2
              replace it := it2
              clear it2
              obtain ⟨t0, t1⟩ := it
              replace it : IB _ _ _ _ := ⟨t0, t1⟩
              clear hb2
              obtain ⟨⟨c0, c1, c2, c3, c4⟩, ⟨d0, d1, d2, d3, d4⟩⟩ := HC.out
              go_wp2_with fail
              refine (HD2.out _).mono ?_
              rintro e w2 ⟨rfl, hb2⟩
              rw [hf2]
              have HB2 := Lib.hid (Rl.below HB.out hb2)
              replace HB := HB2
              clear HB2
              have HC2 := Lib.hid (And.intro (HC.out.1.blw hb2) (HC.out.2.blw hb2))
              replace HC := HC2
              clear HC2
              have ip2 := ip.blw hb2
              replace ip := ip2
              clear ip2
              obtain ⟨p0, p1⟩ := ip
              replace ip : IB _ _ _ _ := ⟨p0, p1⟩
              have iq2 := iq.blw hb2
              replace iq := iq2
              clear iq2
              obtain ⟨q0, q1⟩ := iq
              replace iq : IB _ _ _ _ := ⟨q0, q1⟩
              have ir2 := ir.blw hb2
              replace ir := ir2
              clear ir2
              obtain ⟨r0, r1⟩ := ir
              replace ir : IB _ _ _ _ := ⟨r0, r1⟩
              have it2 := it.blw hb2
              replace it := it2
              clear it2
              obtain ⟨t0, t1⟩ := it
              replace it : IB _ _ _ _ := ⟨t0, t1⟩
              clear hb2
              obtain ⟨⟨c0, c1, c2, c3, c4⟩, ⟨d0, d1, d2, d3, d4⟩⟩ := HC.out
              go_wp2_with fail
              refine (HG1.out _).mono ?_
              rintro e w2 ⟨rfl, hb2⟩
              rw [hl1]
              have HB2 := Lib.hid (Rl.below HB.out hb2)
              replace HB := HB2
              clear HB2
              have HC2 := Lib.hid (And.intro (HC.out.1.blw hb2) (HC.out.2.blw hb2))
              replace HC := HC2
              clear HC2
              have ip2 := ip.blw hb2
              replace ip := ip2
              clear ip2
              obtain ⟨p0, p1⟩ := ip
              replace ip : IB _ _ _ _ := ⟨p0, p1⟩
              have iq2 := iq.blw hb2
              replace iq := iq2
              clear iq2
              obtain ⟨q0, q1⟩ := iq
              replace iq : IB _ _ _ _ := ⟨q0, q1⟩
              have ir2 := ir.blw hb2
              replace ir := ir2
              clear ir2
              obtain ⟨r0, r1⟩ := ir
              replace ir : IB _ _ _ _ := ⟨r0, r1⟩
              have it2 := it.blw hb2
              replace it := it2
              clear it2
              obtain ⟨t0, t1⟩ := it
              replace it : IB _ _ _ _ := ⟨t0, t1⟩
              clear hb2
              obtain ⟨⟨c0, c1, c2, c3, c4⟩, ⟨d0, d1, d2, d3, d4⟩⟩ := HC.out
              go_wp2_with fail
              refine (HG2.out _).mono ?_
              rintro e w2 ⟨rfl, hb2⟩
              rw [hl2]
              have HB2 := Lib.hid (Rl.below HB.out hb2)
              clear hb2 HB
              go_wp2
              go_ret
              exact ⟨by rw [HV.out]; try rfl, HE.out _ HB2.out⟩
          · rw [hl1] at hv
            rw [show ∀ r, byV true r = -1 from fun _ => rfl] at hv
            have HV := Lib.hid hv
            clear hv
            go_enter Try.func35, Try.ntmps35
            go_wp2_with fail
            have hsix := sixbox w 6 n x ⟨s.toArray⟩ a l.length cap k2 n2 x2 ⟨s2.toArray⟩ b m.length cap2 28 58 60
            generalize ((((((w.alloc (.cells #[.int .i64 6, .int .i64 n, .int .i64 x, .string ⟨s.toArray⟩, .slice a l.length cap] 28)).alloc (.cells #[.int .i64 k2, .int .i64 n2, .int .i64 x2, .string ⟨s2.toArray⟩, .slice b m.length cap2] 28)).alloc (.cells #[.int .i64 n, .int .i64 x] 58)).alloc (.cells #[.int .i64 n2, .int .i64 x2] 58)).alloc (.cells #[.int .i64 n, .int .i64 x] 60)).alloc (.cells #[.int .i64 n2, .int .i64 x2] 60)) = W0 at *
            obtain ⟨hB, hC, hD, ip, iq, ir, it⟩ := hsix
            have HE : Hid (∀ W, Rl W0 W → Below w.heap.size w W) := Lib.hid (fun W h => hB.trans (h.b.mono hB.size))
            have HC := Lib.hid (And.intro hC hD)
            have HB := Lib.hid (Rl.refl W0)
            clear hB hC hD
            obtain ⟨⟨c0, c1, c2, c3, c4⟩, ⟨d0, d1, d2, d3, d4⟩⟩ := HC.out
            obtain ⟨p0, p1⟩ := ip
            replace ip : IB _ _ _ _ := ⟨p0, p1⟩
            obtain ⟨q0, q1⟩ := iq
            replace iq : IB _ _ _ _ := ⟨q0, q1⟩
            obtain ⟨r0, r1⟩ := ir
            replace ir : IB _ _ _ _ := ⟨r0, r1⟩
            obtain ⟨t0, t1⟩ := it
            replace it : IB _ _ _ _ := ⟨t0, t1⟩
            refine (HD1.out _).mono ?_
            rintro e w2 ⟨rfl, hb2⟩
            rw [hf1]
            have HB2 := Lib.hid (Rl.below HB.out hb2)
            replace HB := HB2
            clear HB2
            have HC2 := Lib.hid (And.intro (HC.out.1.blw hb2) (HC.out.2.blw hb2))
            replace HC := HC2
            clear HC2
            have ip2 := ip.blw hb2
            replace ip := ip2
            clear ip2
            obtain ⟨p0, p1⟩ := ip
            replace ip : IB _ _ _ _ := ⟨p0, p1⟩
            have iq2 := iq.blw hb2
            replace iq := iq2
            clear iq2
            obtain ⟨q0, q1⟩ := iq
            replace iq : IB _ _ _ _ := ⟨q0, q1⟩
            have ir2 := ir.blw hb2
            replace ir := ir2
            clear ir2
            obtain ⟨r0, r1⟩ := ir
            replace ir : IB _ _ _ _ := ⟨r0, r1⟩
            have it2 := it.blw hb2
            replace it := it2
            clear it2
            obtain ⟨t0, t1⟩ := it
            replace it : IB _ _ _ _ := ⟨t0, t1⟩
            clear hb2
            obtain ⟨⟨c0, c1, c2, c3, c4⟩, ⟨d0, d1, d2, d3, d4⟩⟩ := HC.out
            go_wp2_with fail
            refine (HD2.out _).mono ?_
            rintro e w2 ⟨rfl, hb2⟩
            rw [hf2]
            have HB2 := Lib.hid (Rl.below HB.out hb2)
            replace HB := HB2
            clear HB2
            have HC2 := Lib.hid (And.intro (HC.out.1.blw hb2) (HC.out.2.blw hb2))
            replace HC := HC2
            clear HC2
            have ip2 := ip.blw hb2
            replace ip := ip2
            clear ip2
            obtain ⟨p0, p1⟩ := ip
            replace ip : IB _ _ _ _ := ⟨p0, p1⟩
            have iq2 := iq.blw hb2
            replace iq := iq2
            clear iq2
            obtain ⟨q0, q1⟩ := iq
            replace iq : IB _ _ _ _ := ⟨q0, q1⟩
            have ir2 := ir.blw hb2
            replace ir := ir2
            clear ir2
            obtain ⟨r0, r1⟩ := ir
            replace ir : IB _ _ _ _ := ⟨r0, r1⟩
            have it2 := it.blw hb2
            replace it := it2
            clear it2
            obtain ⟨t0, t1⟩ := it
            replace it : IB _ _ _ _ := ⟨t0, t1⟩
            clear hb2
            obtain ⟨⟨c0, c1, c2, c3, c4⟩, ⟨d0, d1, d2, d3, d4⟩⟩ := HC.out
            go_wp2_with fail
            refine (HG1.out _).mono ?_
            rintro e w2 ⟨rfl, hb2⟩
            rw [hl1]
            have HB2 := Lib.hid (Rl.below HB.out hb2)
            clear hb2 HB
            go_wp2
            go_ret
            exact ⟨by rw [HV.out]; try rfl, HE.out _ HB2.out⟩
    · have hv : numV k n x n2 x2 = plainV k n x n2 x2 := by unfold numV; simp [hk, hk6]
      have HV := Lib.hid hv
      clear hv
      go_enter Try.func35, Try.ntmps35
      go_wp2_with fail
      have hsix := sixbox w k n x ⟨s.toArray⟩ a l.length cap k2 n2 x2 ⟨s2.toArray⟩ b m.length cap2 28 58 60
      generalize ((((((w.alloc (.cells #[.int .i64 k, .int .i64 n, .int .i64 x, .string ⟨s.toArray⟩, .slice a l.length cap] 28)).alloc (.cells #[.int .i64 k2, .int .i64 n2, .int .i64 x2, .string ⟨s2.toArray⟩, .slice b m.length cap2] 28)).alloc (.cells #[.int .i64 n, .int .i64 x] 58)).alloc (.cells #[.int .i64 n2, .int .i64 x2] 58)).alloc (.cells #[.int .i64 n, .int .i64 x] 60)).alloc (.cells #[.int .i64 n2, .int .i64 x2] 60)) = W0 at *
      obtain ⟨hB, hC, hD, ip, iq, ir, it⟩ := hsix
      have HE : Hid (∀ W, Rl W0 W → Below w.heap.size w W) := Lib.hid (fun W h => hB.trans (h.b.mono hB.size))
      have HC := Lib.hid (And.intro hC hD)
      have HB := Lib.hid (Rl.refl W0)
      clear hB hC hD
      obtain ⟨⟨c0, c1, c2, c3, c4⟩, ⟨d0, d1, d2, d3, d4⟩⟩ := HC.out
      obtain ⟨p0, p1⟩ := ip
      replace ip : IB _ _ _ _ := ⟨p0, p1⟩
      obtain ⟨q0, q1⟩ := iq
      replace iq : IB _ _ _ _ := ⟨q0, q1⟩
      obtain ⟨r0, r1⟩ := ir
      replace ir : IB _ _ _ _ := ⟨r0, r1⟩
      obtain ⟨t0, t1⟩ := it
      replace it : IB _ _ _ _ := ⟨t0, t1⟩
      refine (HCI.out _).mono ?_
      rintro e w2 ⟨rfl, hb2⟩
      have HB2 := Lib.hid (Rl.below HB.out hb2)
      clear hb2 HB
      go_wp2
      go_ret
      exact ⟨by rw [HV.out]; try rfl, HE.out _ HB2.out⟩
end Go.Proofs.Ytilgncebhgplaaa
