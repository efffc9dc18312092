import Derived.Test.YtilgncebhgplaaaG10
import Derived.Test.YtilgncebhgplaaaG1
import Derived.Deep.RegionHeld3
import Derived.StillTailTactics
import Derived.Deep.RegionLaw
import Derived.Deep.AppendLies
/- l7Compare and LessVal of the model. -/
namespace Go.Proofs.Ytilgncebhgplaaa
open Go.RowKit
set_option maxRecDepth 100000
theorem ptcmp_eq (f : NumF) (k n x : Int) (s : List UInt8) (a : Option Addr) (cap : Nat) (l : List AT) (k2 n2 x2 : Int) (s2 : List UInt8) (b : Option Addr) (cap2 : Nat) (m : List AT) :
    (AT.mk k n x s a cap l).pt.cmp f (AT.mk k2 n2 x2 s2 b cap2 m).pt = orI (hdV f k n x s k2 n2 x2 s2) (PT.cmpL f (AT.ptL l) (AT.ptL m)) := rfl
theorem wf_isI {k n x : Int} {s : List UInt8} {l : List PT} (h : PT.Wf (.mk k n x s l)) : isI k ∧ isI n ∧ isI x ∧ l.length ≤ 9223372036854775807 := by
  cases h with
  | mk hk hn hx hs hl sub => exact ⟨hk, hn, hx, hl⟩
set_option maxHeartbeats 4000000 in
theorem cmp_spec (T : AT) : T.pt.Wf → ∀ (U : AT) (w : World) (N : Nat), U.pt.Wf → T.In w N → U.In w N → N ≤ w.heap.size → Calls Try.prog 30 #[T.val, U.val] w fun e w' => e = .returned (.int .i64 (T.pt.cmp numV U.pt)) ∧ Below w.heap.size w w' := by
  induction T using AT.ind with
  | h k n x s a cap l ih =>
    intro hwf U w N hwf2 hin hin2 hN
    obtain ⟨k2, n2, x2, s2, b, cap2, m⟩ := U
    obtain ⟨hk1, hn1, hx1, hll⟩ := wf_isI (l := AT.ptL l) hwf
    obtain ⟨hk2, hn2, hx2, hml⟩ := wf_isI (l := AT.ptL m) hwf2
    rw [AT.ptL_length] at hll hml
    have HNUM : Hid (∀ W : World, Calls Try.prog 35 #[.agg #[.int .i64 k, .int .i64 n, .int .i64 x, .string ⟨s.toArray⟩, .slice a l.length cap], .agg #[.int .i64 k2, .int .i64 n2, .int .i64 x2, .string ⟨s2.toArray⟩, .slice b m.length cap2]] W fun e w' => e = .returned (.int .i64 (numV k n x n2 x2)) ∧ Below W.heap.size W w') := Lib.hid (fun W => nums_spec (.mk k n x s a cap l) (.mk k2 n2 x2 s2 b cap2 m) W ⟨hn1, hx1⟩ ⟨hn2, hx2⟩)
    have hc := fun (t : AT) (ht : t ∈ l) (u : AT) (hu : u ∈ m) (w1 : World) (hb : Below w.heap.size w w1) => ih t ht (hwf.sub' t.pt (by rw [AT.ptL_eq]; exact List.mem_map_of_mem ht)) u w1 N (hwf2.sub' u.pt (by rw [AT.ptL_eq]; exact List.mem_map_of_mem hu)) ((hin.lv.sub t ht).blw hb hN) ((hin2.lv.sub u hu).blw hb hN) (Nat.le_trans hN hb.size)
    have H := Lib.hid hin.lv
    have H2 := Lib.hid hin2.lv
    have HC := Lib.hid hc
    have hsgn := sgn_num k n x n2 x2
    rw [ptcmp_eq]
    obtain ⟨tot, htot⟩ : ∃ tot, tot = orI (hdV numV k n x s k2 n2 x2 s2) (PT.cmpL numV (AT.ptL l) (AT.ptL m)) := ⟨_, rfl⟩
    rw [← htot]
    clear hc ih hin hin2 hwf hwf2 hk1 hn1 hx1 hk2 hn2 hx2
    show Calls Try.prog 30 #[.agg #[.int .i64 k, .int .i64 n, .int .i64 x, .string ⟨s.toArray⟩, .slice a l.length cap], .agg #[.int .i64 k2, .int .i64 n2, .int .i64 x2, .string ⟨s2.toArray⟩, .slice b m.length cap2]] w _
    unfold hdV at htot
    have hvc := vcbox w k n x ⟨s.toArray⟩ a l.length cap k2 n2 x2 ⟨s2.toArray⟩ b m.length cap2 28
    have hBB := two' w (.cells #[.int .i64 k, .int .i64 n, .int .i64 x, .string ⟨s.toArray⟩, .slice a l.length cap] 28) (.cells #[.int .i64 k2, .int .i64 n2, .int .i64 x2, .string ⟨s2.toArray⟩, .slice b m.length cap2] 28)
    rcases Int.lt_trichotomy k k2 with hk | hk | hk
    · have HT : Hid (tot = -1) := Lib.hid (by rw [htot, show cmpI k k2 = -1 from if_pos hk]; rfl)
      clear htot hsgn HNUM HC H H2
      go_enter Try.func30, Try.ntmps30
      go_wp2
      go_ret
      exact ⟨by rw [HT.out]; try rfl, hBB⟩
    · subst hk
      rw [cmpI_zero.2 rfl, orI_zero] at htot
      generalize numV k n x n2 x2 = nu at *
      by_cases hnu : nu = 0
      · subst hnu
        rw [orI_zero] at htot
        cases hsl : Op.bytesLess s s2
        · by_cases hse : s = s2
          · subst hse
            rw [cmpS_zero.2 rfl, orI_zero] at htot
            have HT := Lib.hid htot
            have hseq : (s == s) = true := by simp
            go_enter Try.func30, Try.ntmps30
            go_wp2_with fail
            generalize ((w.alloc (.cells #[.int .i64 k, .int .i64 n, .int .i64 x, .string ⟨s.toArray⟩, .slice a l.length cap] 28)).alloc (.cells #[.int .i64 k, .int .i64 n2, .int .i64 x2, .string ⟨s.toArray⟩, .slice b m.length cap2] 28)) = W0 at *
            have HE : Hid (∀ W, Rl W0 W → Below w.heap.size w W) := Lib.hid (fun W h => hBB.trans (h.b.mono hBB.size))
            have HVC := Lib.hid hvc
            clear hvc hBB htot hsgn
            refine (HNUM.out _).mono ?_
            rintro e w1 ⟨rfl, hb1⟩
            have HB1 := Lib.hid ((Rl.refl W0).below hb1)
            obtain ⟨⟨c0, c1, c2, c3, c4⟩, ⟨d0, d1, d2, d3, d4⟩⟩ := (And.intro (HVC.out.1.blw hb1) (HVC.out.2.blw hb1))
            clear hb1 HNUM
            go_wp2
            go_loopw [6] (fun i wr => ∃ i' : Nat, i = .int .i64 i' ∧ i' ≤ l.length ∧ i' ≤ m.length ∧ (AT.ptL l).take i' = (AT.ptL m).take i' ∧ Rl W0 wr) (fun i _ => l.length - (intOf i).toNat)
            case atStart => exact ⟨0, rfl, Nat.zero_le _, Nat.zero_le _, by simp, HB1.out⟩
            case round =>
              obtain ⟨i', rfl, hi', hi2', htk, hrl⟩ := hrel
              have HTK := Lib.hid htk
              have HRL := Lib.hid hrl
              have HBw := Lib.hid (HE.out _ hrl)
              obtain ⟨⟨c0, c1, c2, c3, c4⟩, ⟨d0, d1, d2, d3, d4⟩⟩ := (And.intro (HVC.out.1.blw hrl.b) (HVC.out.2.blw hrl.b))
              clear htk hrl
              by_cases hlt : i' < l.length
              · by_cases hlt2 : i' < m.length
                · obtain ⟨c, o, rfl, hcN, hC⟩ := H.out.cell i' hlt
                  obtain ⟨c', o', rfl, hcN2, hC2⟩ := H2.out.cell i' hlt2
                  have hC := hC.keep (HBw.out.block c (by omega))
                  have hC2 := hC2.keep (HBw.out.block c' (by omega))
                  have hcall := fun (w1 : World) (hb1 : Below wr.heap.size wr w1) => HC.out l[i'] (List.getElem_mem hlt) m[i'] (List.getElem_mem hlt2) w1 (HBw.out.trans (hb1.mono HBw.out.size))
                  have e1 : i' < (AT.ptL l).length := by rw [AT.ptL_length]; exact hlt
                  have e2 : i' < (AT.ptL m).length := by rw [AT.ptL_length]; exact hlt2
                  have hne : (AT.pt l[i']).cmp numV (AT.pt m[i']) ≠ 0 → tot = (AT.pt l[i']).cmp numV (AT.pt m[i']) := fun h => by
                    rw [HT.out, cmpL_at numV (AT.ptL l) (AT.ptL m) i' e1 e2 HTK.out numOk (by rw [ptL_get l i' hlt, ptL_get m i' hlt2]; exact h), ptL_get l i' hlt, ptL_get m i' hlt2]
                  have heq : (AT.pt l[i']).cmp numV (AT.pt m[i']) = 0 → (AT.ptL l).take (i' + 1) = (AT.ptL m).take (i' + 1) := fun h => by
                    rw [List.take_succ_eq_append_getElem e1, List.take_succ_eq_append_getElem e2, HTK.out, ptL_get l i' hlt, ptL_get m i' hlt2, (cmp_zero numOk).1 h]
                  obtain ⟨V, hV⟩ : ∃ V, V = l[i'] := ⟨_, rfl⟩
                  obtain ⟨V2, hV2⟩ : ∃ V2, V2 = m[i'] := ⟨_, rfl⟩
                  rw [← hV] at hC hcall hne heq
                  rw [← hV2] at hC2 hcall hne heq
                  have HCC := Lib.hid hcall
                  have HNE := Lib.hid hne
                  have HEQ := Lib.hid heq
                  obtain ⟨f0, f1, f2, f3, f4⟩ := hC
                  obtain ⟨g0, g1, g2, g3, g4⟩ := hC2
                  have hi0 : (0 : Int) ≤ i' := by omega
                  have hi1 : (i' : Int) < l.length := by omega
                  have hi3 : (i' : Int) < m.length := by omega
                  clear hV hV2 hcall hne heq e1 e2
                  go_wp2_with fail
                  go_still_tail 10, (by kernel_rfl)
                  go_wp2_with fail
                  refine (HCC.out _ ((Below.refl _ _).drew)).mono ?_
                  rintro e w2 ⟨rfl, hb2⟩
                  have HB2 := Lib.hid (HRL.out.drew.below hb2)
                  clear hb2
                  generalize V.pt.cmp numV V2.pt = r at *
                  by_cases hr : r = 0
                  · subst hr
                    have HTK2 := Lib.hid (HEQ.out rfl)
                    go_wp2
                    go_roundw
                    case rel => exact ⟨i' + 1, by go_num, by omega, by omega, HTK2.out, HB2.out⟩
                    case measure => simp [intOf]; omega
                  · have HR := Lib.hid (HNE.out hr)
                    have hrn : (r != 0) = true := by simpa using hr
                    go_wp2
                    go_ret
                    exact ⟨by rw [HR.out]; try rfl, HE.out _ HB2.out⟩
                · have hi2e : i' = m.length := by omega
                  have HV : Hid (tot = 1) := Lib.hid (by
                    rw [HT.out, cmpL_end numV _ _ numOk (by rw [AT.ptL_length, AT.ptL_length, Nat.min_eq_right (by omega), ← hi2e]; exact HTK.out), AT.ptL_length, AT.ptL_length]
                    unfold cmpI; rw [if_neg (by omega), if_pos (by omega)])
                  have hq1 : ¬ (l.length : Int) < m.length := by omega
                  have hq2 : (m.length : Int) < l.length := by omega
                  subst hi2e
                  have hd1 : decide ((m.length : Int) < l.length) = true := by simpa using hq2
                  go_wp2
                  go_ret
                  exact ⟨by rw [HV.out]; try rfl, HBw.out⟩
              · have hi2e : i' = l.length := by omega
                subst hi2e
                by_cases hq : l.length = m.length
                · have HV : Hid (tot = 0) := Lib.hid (by
                    rw [HT.out, cmpL_end numV _ _ numOk (by rw [AT.ptL_length, AT.ptL_length, ← hq, Nat.min_self]; exact HTK.out), AT.ptL_length, AT.ptL_length, hq]
                    exact cmpI_zero.2 rfl)
                  have hq1 : ¬ (l.length : Int) < m.length := by omega
                  have hq2 : ¬ (m.length : Int) < l.length := by omega
                  go_wp2
                  go_ret
                  exact ⟨by rw [HV.out]; try rfl, HBw.out⟩
                · have HV : Hid (tot = -1) := Lib.hid (by
                    rw [HT.out, cmpL_end numV _ _ numOk (by rw [AT.ptL_length, AT.ptL_length, Nat.min_eq_left hi2']; exact HTK.out), AT.ptL_length, AT.ptL_length]
                    exact if_pos (by omega))
                  have hq1 : (l.length : Int) < m.length := by omega
                  go_wp2
                  go_ret
                  exact ⟨by rw [HV.out]; try rfl, HBw.out⟩
          · have HT : Hid (tot = 1) := Lib.hid (by rw [htot, show cmpS s s2 = 1 by unfold cmpS; rw [hsl]; simp [hse]]; rfl)
            have hseq : (s == s2) = false := by simpa using hse
            clear htot hsgn HC H H2 hse
            go_enter Try.func30, Try.ntmps30
            go_wp2_with fail
            generalize ((w.alloc (.cells #[.int .i64 k, .int .i64 n, .int .i64 x, .string ⟨s.toArray⟩, .slice a l.length cap] 28)).alloc (.cells #[.int .i64 k, .int .i64 n2, .int .i64 x2, .string ⟨s2.toArray⟩, .slice b m.length cap2] 28)) = W0 at *
            have HE : Hid (∀ W, Rl W0 W → Below w.heap.size w W) := Lib.hid (fun W h => hBB.trans (h.b.mono hBB.size))
            have HVC := Lib.hid hvc
            clear hvc hBB
            refine (HNUM.out _).mono ?_
            rintro e w1 ⟨rfl, hb1⟩
            have HB1 := Lib.hid ((Rl.refl W0).below hb1)
            obtain ⟨⟨c0, c1, c2, c3, c4⟩, ⟨d0, d1, d2, d3, d4⟩⟩ := (And.intro (HVC.out.1.blw hb1) (HVC.out.2.blw hb1))
            clear hb1 HNUM
            go_wp2
            go_ret
            exact ⟨by rw [HT.out]; try rfl, HE.out _ HB1.out⟩
        · have HT : Hid (tot = -1) := Lib.hid (by rw [htot, show cmpS s s2 = -1 by unfold cmpS; rw [hsl]; rfl]; rfl)
          clear htot hsgn HC H H2
          go_enter Try.func30, Try.ntmps30
          go_wp2_with fail
          generalize ((w.alloc (.cells #[.int .i64 k, .int .i64 n, .int .i64 x, .string ⟨s.toArray⟩, .slice a l.length cap] 28)).alloc (.cells #[.int .i64 k, .int .i64 n2, .int .i64 x2, .string ⟨s2.toArray⟩, .slice b m.length cap2] 28)) = W0 at *
          have HE : Hid (∀ W, Rl W0 W → Below w.heap.size w W) := Lib.hid (fun W h => hBB.trans (h.b.mono hBB.size))
          have HVC := Lib.hid hvc
          clear hvc hBB
          refine (HNUM.out _).mono ?_
          rintro e w1 ⟨rfl, hb1⟩
          have HB1 := Lib.hid ((Rl.refl W0).below hb1)
          obtain ⟨⟨c0, c1, c2, c3, c4⟩, ⟨d0, d1, d2, d3, d4⟩⟩ := (And.intro (HVC.out.1.blw hb1) (HVC.out.2.blw hb1))
          clear hb1 HNUM
          go_wp2
          go_ret
          exact ⟨by rw [HT.out]; try rfl, HE.out _ HB1.out⟩
      · have HT : Hid (tot = nu) := Lib.hid (by rw [htot, orI_ne (by rw [orI_ne hnu]; exact hnu), orI_ne hnu])
        have hnn : (nu != 0) = true := by simpa using hnu
        clear htot hsgn HC H H2
        go_enter Try.func30, Try.ntmps30
        go_wp2_with fail
        generalize ((w.alloc (.cells #[.int .i64 k, .int .i64 n, .int .i64 x, .string ⟨s.toArray⟩, .slice a l.length cap] 28)).alloc (.cells #[.int .i64 k, .int .i64 n2, .int .i64 x2, .string ⟨s2.toArray⟩, .slice b m.length cap2] 28)) = W0 at *
        have HE : Hid (∀ W, Rl W0 W → Below w.heap.size w W) := Lib.hid (fun W h => hBB.trans (h.b.mono hBB.size))
        have HVC := Lib.hid hvc
        clear hvc hBB
        refine (HNUM.out _).mono ?_
        rintro e w1 ⟨rfl, hb1⟩
        have HB1 := Lib.hid ((Rl.refl W0).below hb1)
        obtain ⟨⟨c0, c1, c2, c3, c4⟩, ⟨d0, d1, d2, d3, d4⟩⟩ := (And.intro (HVC.out.1.blw hb1) (HVC.out.2.blw hb1))
        clear hb1 HNUM
        go_wp2
        go_ret
        exact ⟨by rw [HT.out]; try rfl, HE.out _ HB1.out⟩
    · have HT : Hid (tot = 1) := Lib.hid (by rw [htot, show cmpI k k2 = 1 by unfold cmpI; rw [if_neg (by omega), if_pos hk]]; rfl)
      have hk2 : ¬ k < k2 := by omega
      clear htot hsgn HNUM HC H H2
      go_enter Try.func30, Try.ntmps30
      go_wp2
      go_ret
      exact ⟨by rw [HT.out]; try rfl, hBB⟩
theorem lessval_spec (T U : AT) (w : World) (N : Nat) (hwf : T.pt.Wf) (hwf2 : U.pt.Wf) (hin : T.In w N) (hin2 : U.In w N) (hN : N ≤ w.heap.size) : Calls Try.prog 19 #[T.val, U.val] w fun e w' => e = .returned (.bool (T.pt.less U.pt)) ∧ Below w.heap.size w w' := by
  have HC := Lib.hid (fun (w1 : World) (hb : Below w.heap.size w w1) => cmp_spec T hwf U w1 N hwf2 (hin.blw hb hN) (hin2.blw hb hN) (Nat.le_trans hN hb.size))
  have hl : T.pt.less U.pt = decide (T.pt.cmp numV U.pt < 0) := rfl
  rw [hl]
  generalize T.pt.cmp numV U.pt = r at *
  clear hin hin2 hwf hwf2
  show Calls Try.prog 19 #[.agg #[.int .i64 T.k, .int .i64 T.n, .int .i64 T.x, .string ⟨T.s.toArray⟩, .slice T.a T.l.length T.cap], .agg #[.int .i64 U.k, .int .i64 U.n, .int .i64 U.x, .string ⟨U.s.toArray⟩, .slice U.a U.l.length U.cap]] w _
  go_enter Try.func19, Try.ntmps19
  go_wp2_with fail
  refine (HC.out _ (two' _ _ _)).mono ?_
  rintro e w1 ⟨rfl, hb1⟩
  have HB := Lib.hid ((two' w (.cells #[.int .i64 T.k, .int .i64 T.n, .int .i64 T.x, .string ⟨T.s.toArray⟩, .slice T.a T.l.length T.cap] 28) (.cells #[.int .i64 U.k, .int .i64 U.n, .int .i64 U.x, .string ⟨U.s.toArray⟩, .slice U.a U.l.length U.cap] 28)).trans (hb1.mono (by simp; omega)))
  clear hb1
  go_wp2
  go_ret
  exact ⟨rfl, HB.out⟩
end Go.Proofs.Ytilgncebhgplaaa
/- compareFields of the program. -/
namespace Go.Proofs.Ytilgncebhgplaaa
open Go.RowKit
set_option maxRecDepth 100000
set_option maxHeartbeats 4000000 in
theorem fieldsN (T U : AT) (w : World) (hT : isI T.n ∧ isI T.x) (hU : isI U.n ∧ isI U.x) : Calls Try.prog 36 #[T.val, U.val, .func (.func 32) #[] #[]] w fun e w' => e = .returned (.int .i64 (hdV numV T.k T.n T.x T.s U.k U.n U.x U.s)) ∧ Below w.heap.size w w' := by
  have HN0 := Lib.hid (fun W => nums_impl T U W hT hU)
  clear hT hU
  obtain ⟨k, n, x, s, a, cap, l⟩ := T
  obtain ⟨k2, n2, x2, s2, b, cap2, m⟩ := U
  have HN : Hid (∀ W : World, Calls Try.prog 32 #[.agg #[.int .i64 k, .int .i64 n, .int .i64 x, .string ⟨s.toArray⟩, .slice a l.length cap], .agg #[.int .i64 k2, .int .i64 n2, .int .i64 x2, .string ⟨s2.toArray⟩, .slice b m.length cap2]] W fun e w' => e = .returned (.int .i64 (numV k n x n2 x2)) ∧ Below W.heap.size W w') := Lib.hid HN0.out
  have hI := fun W => compare_int k k2 W
  have hS := fun W => compare_str s s2 W
  have hO := fun W g cap c0 c1 => or_int (numV k n x n2 x2) (cmpS s s2) W g cap c0 c1
  clear HN0
  show Calls Try.prog 36 #[.agg #[.int .i64 k, .int .i64 n, .int .i64 x, .string ⟨s.toArray⟩, .slice a l.length cap], .agg #[.int .i64 k2, .int .i64 n2, .int .i64 x2, .string ⟨s2.toArray⟩, .slice b m.length cap2], .func (.func 32) #[] #[]] w fun e w' => e = .returned (.int .i64 (orI (cmpI k k2) (orI (numV k n x n2 x2) (cmpS s s2)))) ∧ Below w.heap.size w w'
  have hc := vcbox w k n x ⟨s.toArray⟩ a l.length cap k2 n2 x2 ⟨s2.toArray⟩ b m.length cap2 28
  have hB := two' w (.cells #[.int .i64 k, .int .i64 n, .int .i64 x, .string ⟨s.toArray⟩, .slice a l.length cap] 28) (.cells #[.int .i64 k2, .int .i64 n2, .int .i64 x2, .string ⟨s2.toArray⟩, .slice b m.length cap2] 28)
  by_cases hk : k = k2
  · subst hk
    rw [cmpI_zero.2 rfl, orI_zero]
    generalize numV k n x n2 x2 = c1 at *
    generalize cmpS s s2 = c2 at *
    generalize orI c1 c2 = c3 at *
    clear hI
    go_enter Try.func36, Try.ntmps36
    go_wp2_with fail
    generalize ((w.alloc (.cells #[.int .i64 k, .int .i64 n, .int .i64 x, .string ⟨s.toArray⟩, .slice a l.length cap] 28)).alloc (.cells #[.int .i64 k, .int .i64 n2, .int .i64 x2, .string ⟨s2.toArray⟩, .slice b m.length cap2] 28)) = W0 at *
    have HE : Hid (∀ W, Rl W0 W → Below w.heap.size w W) := Lib.hid (fun W h => hB.trans (h.b.mono hB.size))
    obtain ⟨⟨c0, c1, c2, c3, c4⟩, ⟨d0, d1, d2, d3, d4⟩⟩ := hc
    have HK : Hid (∀ W' : World, Rl W0 W' → Rl W0 W' ∧ W0.heap.size ≤ W'.heap.size ∧ W'.cell? ⟨w.heap.size, 0, none⟩ = some (.int .i64 k) ∧ W'.cell? ⟨w.heap.size, 1, none⟩ = some (.int .i64 n) ∧ W'.cell? ⟨w.heap.size, 2, none⟩ = some (.int .i64 x) ∧ W'.cell? ⟨w.heap.size, 3, none⟩ = some (.string ⟨s.toArray⟩) ∧ W'.cell? ⟨w.heap.size, 4, none⟩ = some (.slice a l.length cap) ∧ W'.cell? ⟨w.heap.size + 1, 0, none⟩ = some (.int .i64 k) ∧ W'.cell? ⟨w.heap.size + 1, 1, none⟩ = some (.int .i64 n2) ∧ W'.cell? ⟨w.heap.size + 1, 2, none⟩ = some (.int .i64 x2) ∧ W'.cell? ⟨w.heap.size + 1, 3, none⟩ = some (.string ⟨s2.toArray⟩) ∧ W'.cell? ⟨w.heap.size + 1, 4, none⟩ = some (.slice b m.length cap2)) := Lib.hid (fun W' h => ⟨h, h.z, keep_below h.b c0, keep_below h.b c1, keep_below h.b c2, keep_below h.b c3, keep_below h.b c4, keep_below h.b d0, keep_below h.b d1, keep_below h.b d2, keep_below h.b d3, keep_below h.b d4⟩)
    have h0 := Rl.refl W0
    clear hB
    go_region_held3 (fun W' => Rl W0 W' ∧ W0.heap.size ≤ W'.heap.size ∧ W'.cell? ⟨w.heap.size, 0, none⟩ = some (.int .i64 k) ∧ W'.cell? ⟨w.heap.size, 1, none⟩ = some (.int .i64 n) ∧ W'.cell? ⟨w.heap.size, 2, none⟩ = some (.int .i64 x) ∧ W'.cell? ⟨w.heap.size, 3, none⟩ = some (.string ⟨s.toArray⟩) ∧ W'.cell? ⟨w.heap.size, 4, none⟩ = some (.slice a l.length cap) ∧ W'.cell? ⟨w.heap.size + 1, 0, none⟩ = some (.int .i64 k) ∧ W'.cell? ⟨w.heap.size + 1, 1, none⟩ = some (.int .i64 n2) ∧ W'.cell? ⟨w.heap.size + 1, 2, none⟩ = some (.int .i64 x2) ∧ W'.cell? ⟨w.heap.size + 1, 3, none⟩ = some (.string ⟨s2.toArray⟩) ∧ W'.cell? ⟨w.heap.size + 1, 4, none⟩ = some (.slice b m.length cap2)) ((refine HK.out _ ?_; repeat (first | assumption | refine Rl.drew ?_ | refine Rl.alloc ?_ _))) ((first | (go_at_call 32; go_split_ands; (with_reducible refine (HN.out _).mono ?_); rintro e w1 ⟨rfl, hb1⟩; have hr1 := Rl.below (by assumption) hb1; clear hb1) | (go_at_call 51; refine (hS _).mono ?_; rintro e w' ⟨rfl, rfl⟩) | (go_at_call 50; refine (hO _ _ _ (by simp [go_sem]) (by simp [go_sem])).mono ?_; rintro e w' ⟨rfl, rfl⟩)))
    all_goals
      go_split_ands
      go_wp2
      go_ret
      exact ⟨rfl, HE.out _ (by assumption)⟩
  · have hne : orI (cmpI k k2) (orI (numV k n x n2 x2) (cmpS s s2)) = cmpI k k2 := orI_ne (fun h => hk (cmpI_zero.1 h)) _
    rw [hne]
    have hkn : (k != k2) = true := by simpa using hk
    generalize cmpI k k2 = c1 at *
    go_enter Try.func36, Try.ntmps36
    go_wp2_with (go_at_call 37; refine (hI _).mono ?_; rintro e w' ⟨rfl, rfl⟩)
    go_ret
    exact ⟨rfl, hB⟩
set_option maxHeartbeats 4000000 in
theorem fieldsI (T U : AT) (w : World) : Calls Try.prog 36 #[T.val, U.val, .func (.func 44) #[] #[]] w fun e w' => e = .returned (.int .i64 (hdV plainV T.k T.n T.x T.s U.k U.n U.x U.s)) ∧ Below w.heap.size w w' := by
  have HN0 := Lib.hid (fun W => ints_impl T U W)
  obtain ⟨k, n, x, s, a, cap, l⟩ := T
  obtain ⟨k2, n2, x2, s2, b, cap2, m⟩ := U
  have HN : Hid (∀ W : World, Calls Try.prog 44 #[.agg #[.int .i64 k, .int .i64 n, .int .i64 x, .string ⟨s.toArray⟩, .slice a l.length cap], .agg #[.int .i64 k2, .int .i64 n2, .int .i64 x2, .string ⟨s2.toArray⟩, .slice b m.length cap2]] W fun e w' => e = .returned (.int .i64 (plainV k n x n2 x2)) ∧ Below W.heap.size W w') := Lib.hid HN0.out
  have hI := fun W => compare_int k k2 W
  have hS := fun W => compare_str s s2 W
  have hO := fun W g cap c0 c1 => or_int (plainV k n x n2 x2) (cmpS s s2) W g cap c0 c1
  clear HN0
  show Calls Try.prog 36 #[.agg #[.int .i64 k, .int .i64 n, .int .i64 x, .string ⟨s.toArray⟩, .slice a l.length cap], .agg #[.int .i64 k2, .int .i64 n2, .int .i64 x2, .string ⟨s2.toArray⟩, .slice b m.length cap2], .func (.func 44) #[] #[]] w fun e w' => e = .returned (.int .i64 (orI (cmpI k k2) (orI (plainV k n x n2 x2) (cmpS s s2)))) ∧ Below w.heap.size w w'
  have hc := vcbox w k n x ⟨s.toArray⟩ a l.length cap k2 n2 x2 ⟨s2.toArray⟩ b m.length cap2 28
  have hB := two' w (.cells #[.int .i64 k, .int .i64 n, .int .i64 x, .string ⟨s.toArray⟩, .slice a l.length cap] 28) (.cells #[.int .i64 k2, .int .i64 n2, .int .i64 x2, .string ⟨s2.toArray⟩, .slice b m.length cap2] 28)
  by_cases hk : k = k2
  · subst hk
    rw [cmpI_zero.2 rfl, orI_zero]
    generalize plainV k n x n2 x2 = c1 at *
    generalize cmpS s s2 = c2 at *
    generalize orI c1 c2 = c3 at *
    clear hI
    go_enter Try.func36, Try.ntmps36
    go_wp2_with fail
    generalize ((w.alloc (.cells #[.int .i64 k, .int .i64 n, .int .i64 x, .string ⟨s.toArray⟩, .slice a l.length cap] 28)).alloc (.cells #[.int .i64 k, .int .i64 n2, .int .i64 x2, .string ⟨s2.toArray⟩, .slice b m.length cap2] 28)) = W0 at *
    have HE : Hid (∀ W, Rl W0 W → Below w.heap.size w W) := Lib.hid (fun W h => hB.trans (h.b.mono hB.size))
    obtain ⟨⟨c0, c1, c2, c3, c4⟩, ⟨d0, d1, d2, d3, d4⟩⟩ := hc
    have HK : Hid (∀ W' : World, Rl W0 W' → Rl W0 W' ∧ W0.heap.size ≤ W'.heap.size ∧ W'.cell? ⟨w.heap.size, 0, none⟩ = some (.int .i64 k) ∧ W'.cell? ⟨w.heap.size, 1, none⟩ = some (.int .i64 n) ∧ W'.cell? ⟨w.heap.size, 2, none⟩ = some (.int .i64 x) ∧ W'.cell? ⟨w.heap.size, 3, none⟩ = some (.string ⟨s.toArray⟩) ∧ W'.cell? ⟨w.heap.size, 4, none⟩ = some (.slice a l.length cap) ∧ W'.cell? ⟨w.heap.size + 1, 0, none⟩ = some (.int .i64 k) ∧ W'.cell? ⟨w.heap.size + 1, 1, none⟩ = some (.int .i64 n2) ∧ W'.cell? ⟨w.heap.size + 1, 2, none⟩ = some (.int .i64 x2) ∧ W'.cell? ⟨w.heap.size + 1, 3, none⟩ = some (.string ⟨s2.toArray⟩) ∧ W'.cell? ⟨w.heap.size + 1, 4, none⟩ = some (.slice b m.length cap2)) := Lib.hid (fun W' h => ⟨h, h.z, keep_below h.b c0, keep_below h.b c1, keep_below h.b c2, keep_below h.b c3, keep_below h.b c4, keep_below h.b d0, keep_below h.b d1, keep_below h.b d2, keep_below h.b d3, keep_below h.b d4⟩)
    have h0 := Rl.refl W0
    clear hB
    go_region_held3 (fun W' => Rl W0 W' ∧ W0.heap.size ≤ W'.heap.size ∧ W'.cell? ⟨w.heap.size, 0, none⟩ = some (.int .i64 k) ∧ W'.cell? ⟨w.heap.size, 1, none⟩ = some (.int .i64 n) ∧ W'.cell? ⟨w.heap.size, 2, none⟩ = some (.int .i64 x) ∧ W'.cell? ⟨w.heap.size, 3, none⟩ = some (.string ⟨s.toArray⟩) ∧ W'.cell? ⟨w.heap.size, 4, none⟩ = some (.slice a l.length cap) ∧ W'.cell? ⟨w.heap.size + 1, 0, none⟩ = some (.int .i64 k) ∧ W'.cell? ⟨w.heap.size + 1, 1, none⟩ = some (.int .i64 n2) ∧ W'.cell? ⟨w.heap.size + 1, 2, none⟩ = some (.int .i64 x2) ∧ W'.cell? ⟨w.heap.size + 1, 3, none⟩ = some (.string ⟨s2.toArray⟩) ∧ W'.cell? ⟨w.heap.size + 1, 4, none⟩ = some (.slice b m.length cap2)) ((refine HK.out _ ?_; repeat (first | assumption | refine Rl.drew ?_ | refine Rl.alloc ?_ _))) ((first | (go_at_call 44; go_split_ands; (with_reducible refine (HN.out _).mono ?_); rintro e w1 ⟨rfl, hb1⟩; have hr1 := Rl.below (by assumption) hb1; clear hb1) | (go_at_call 51; refine (hS _).mono ?_; rintro e w' ⟨rfl, rfl⟩) | (go_at_call 50; refine (hO _ _ _ (by simp [go_sem]) (by simp [go_sem])).mono ?_; rintro e w' ⟨rfl, rfl⟩)))
    all_goals
      go_split_ands
      go_wp2
      go_ret
      exact ⟨rfl, HE.out _ (by assumption)⟩
  · have hne : orI (cmpI k k2) (orI (plainV k n x n2 x2) (cmpS s s2)) = cmpI k k2 := orI_ne (fun h => hk (cmpI_zero.1 h)) _
    rw [hne]
    have hkn : (k != k2) = true := by simpa using hk
    generalize cmpI k k2 = c1 at *
    go_enter Try.func36, Try.ntmps36
    go_wp2_with (go_at_call 37; refine (hI _).mono ?_; rintro e w' ⟨rfl, rfl⟩)
    go_ret
    exact ⟨rfl, hB⟩
end Go.Proofs.Ytilgncebhgplaaa
/- The program's walk over a tree: the stack of slices behind a pointer, and its step. -/
namespace Go.Proofs.Ytilgncebhgplaaa
open Go.RowKit
/-- a slice of trees: its address, its capacity, its elements -/
structure Lev where
  a : Option Addr
  cap : Nat
  l : List AT
@[reducible] def Lev.val (L : Lev) : Value := .slice L.a L.l.length L.cap
/-- In w, at block P, lies a walk whose stack (bottom first) is S and whose depth is d; its row lies in block g; the trees lie below N. -/
structure WalkAt (w : World) (N B P g cap : Nat) (S : List Lev) (d : Int) : Prop where
  rest : w.cell? ⟨P, 0, none⟩ = some (.slice (some ⟨g, 0, none⟩) S.length cap)
  deep : w.cell? ⟨P, 1, none⟩ = some (.int .i64 d)
  fr : ∀ o, w.frozen? ⟨P, o, none⟩ = false
  row : w.ownsRow B 26 1 (.slice (some ⟨g, 0, none⟩) S.length cap) S.length (S.map Lev.val)
  pB : B ≤ P
  pN : N ≤ B
  ne : P ≠ g
  lv : ∀ L ∈ S, Lv w N L.a L.cap L.l
/-- of the elder blocks at most P and g turned -/
structure Only2 (P g : Nat) (w w' : World) : Prop where
  os : w'.os = w.os
  tape : w'.tape = w.tape
  output : w'.output = w.output
  size : w.heap.size ≤ w'.heap.size
  block : ∀ k, k < w.heap.size → k ≠ P → k ≠ g → w'.heap[k]? = w.heap[k]?
theorem Only2.refl (P g : Nat) (w : World) : Only2 P g w w := ⟨rfl, rfl, rfl, Nat.le_refl _, fun _ _ _ _ => rfl⟩
theorem Only2.trans {P g : Nat} {a b c : World} (h : Only2 P g a b) (k : Only2 P g b c) : Only2 P g a c :=
  ⟨k.os.trans h.os, k.tape.trans h.tape, k.output.trans h.output, Nat.le_trans h.size k.size, fun i hi h1 h2 => (k.block i (Nat.lt_of_lt_of_le hi h.size) h1 h2).trans (h.block i hi h1 h2)⟩
theorem Only2.of_below {P g : Nat} {w w' : World} (h : Below w.heap.size w w') : Only2 P g w w' := ⟨h.os, h.tape, h.output, h.size, fun k hk _ _ => h.block k hk⟩
theorem Only2.of_onlyP {P g : Nat} {w w' : World} (h : Only P w w') : Only2 P g w w' := ⟨h.os, h.tape, h.output, h.size, fun k hk h1 _ => h.block k hk h1⟩
theorem Only2.of_onlyG {P g : Nat} {w w' : World} (h : Only g w w') : Only2 P g w w' := ⟨h.os, h.tape, h.output, h.size, fun k hk _ h2 => h.block k hk h2⟩
theorem Only2.drew {P g : Nat} {a w : World} (h : Only2 P g a w) : Only2 P g a w.drew := ⟨h.os, h.tape, h.output, h.size, h.block⟩
theorem Only2.below {P g N : Nat} {w w' : World} (h : Only2 P g w w') (hP : N ≤ P) (hg : N ≤ g) (hN : N ≤ w.heap.size) : Below N w w' :=
  ⟨h.os, h.tape, h.output, h.size, fun k hk => h.block k (by omega) (by omega) (by omega)⟩
theorem walkInfo : (Try.prog.info? 26).map (fun i => (i.zero, i.size, i.bytes)) = some (some (.slice none 0 0), 1, 24) := by kernel_rfl
theorem AT.In.kept {w w' : World} {N : Nat} {T : AT} (h : T.In w N) (hk : ∀ k, k < N → w'.heap[k]? = w.heap[k]?) : T.In w' N := by
  induction T using AT.ind with
  | h k n x s a cap l ih =>
    cases h with
    | mk hc hcell hsub =>
      refine .mk hc (fun j hj => ?_) (fun t ht => ih t ht (hsub t ht))
      obtain ⟨b, o, ha, hbN, hC⟩ := hcell j hj
      exact ⟨b, o, ha, hbN, hC.keep (hk b hbN)⟩
theorem Lv.kept {w w' : World} {N : Nat} {a : Option Addr} {cap : Nat} {l : List AT} (h : Lv w N a cap l) (hk : ∀ k, k < N → w'.heap[k]? = w.heap[k]?) : Lv w' N a cap l :=
  (AT.In.kept (T := .mk 0 0 0 [] a cap l) h.in hk).lv
theorem frozen_blk {w w' : World} {b o : Nat} (k : w'.heap[b]? = w.heap[b]?) : w'.frozen? ⟨b, o, none⟩ = w.frozen? ⟨b, o, none⟩ := by
  unfold World.frozen?; rw [k]
theorem WalkAt.kept {w w' : World} {N B P g cap : Nat} {S : List Lev} {d : Int} (h : WalkAt w N B P g cap S d) (hk : ∀ k, k = P ∨ k = g ∨ k < N → w'.heap[k]? = w.heap[k]?) : WalkAt w' N B P g cap S d where
  rest := by rw [World.cell?_of_block (w := w) (w' := w') (hk P (.inl rfl))]; exact h.rest
  deep := by rw [World.cell?_of_block (w := w) (w' := w') (hk P (.inl rfl))]; exact h.deep
  fr o := by rw [frozen_blk (hk P (.inl rfl))]; exact h.fr o
  row := own_heap h.row (fun k hg => hk k (.inr (.inl (by simp [Value.ownBlock] at hg; exact hg.symm))))
  pB := h.pB
  pN := h.pN
  ne := h.ne
  lv L hL := (h.lv L hL).kept fun k hkN => hk k (.inr (.inr hkN))
theorem WalkAt.lt {w : World} {N B P g cap : Nat} {S : List Lev} {d : Int} (h : WalkAt w N B P g cap S d) : P < w.heap.size ∧ B ≤ g ∧ g < w.heap.size :=
  ⟨cell_lt h.rest, (h.row.lt g rfl).1, (h.row.lt g rfl).2⟩
theorem WalkAt.blw {w w' : World} {N B P g cap : Nat} {S : List Lev} {d : Int} (h : WalkAt w N B P g cap S d) (hb : Below w.heap.size w w') : WalkAt w' N B P g cap S d := by
  have hl := h.lt
  have h1 := h.pB
  have h2 := h.pN
  exact h.kept fun k hk => hb.block k (by rcases hk with rfl | rfl | hk <;> omega)
theorem WalkAt.setRest {w : World} {N B P g cap : Nat} {S : List Lev} {d : Int} (h : WalkAt w N B P g cap S d) (S' : List Lev) (g' cap' : Nat) (hr : w.ownsRow B 26 1 (.slice (some ⟨g', 0, none⟩) S'.length cap') S'.length (S'.map Lev.val)) (hne : P ≠ g') (hlv : ∀ L ∈ S', Lv w N L.a L.cap L.l) :
    WalkAt (w.setCell ⟨P, 0, none⟩ (.slice (some ⟨g', 0, none⟩) S'.length cap')) N B P g' cap' S' d where
  rest := by have := h.rest; simp [go_sem, this]
  deep := by have := h.deep; simp [go_sem, this]
  fr o := by have := h.fr o; simp [go_sem, this]
  row := own_heap hr (fun k hg => Below.heap_setCell _ _ _ _ (by simp [Value.ownBlock] at hg; rw [← hg]; exact fun e => hne e.symm))
  pB := h.pB
  pN := h.pN
  ne := hne
  lv L hL := (hlv L hL).kept fun k hkN => Below.heap_setCell _ _ _ _ (by have := h.pB; have := h.pN; show k ≠ P; omega)
theorem WalkAt.setDeep {w : World} {N B P g cap : Nat} {S : List Lev} {d : Int} (h : WalkAt w N B P g cap S d) (d' : Int) : WalkAt (w.setCell ⟨P, 1, none⟩ (.int .i64 d')) N B P g cap S d' where
  rest := by have := h.rest; simp [go_sem, this]
  deep := by have := h.deep; simp [go_sem, this]
  fr o := by have := h.fr o; simp [go_sem, this]
  row := own_heap h.row (fun k hg => Below.heap_setCell _ _ _ _ (by simp [Value.ownBlock] at hg; rw [← hg]; exact fun e => h.ne e.symm))
  pB := h.pB
  pN := h.pN
  ne := h.ne
  lv L hL := (h.lv L hL).kept fun k hkN => Below.heap_setCell _ _ _ _ (by have := h.pB; have := h.pN; show k ≠ P; omega)
theorem own_sub {w : World} {B E n m cap g : Nat} {xs ys : List Value} (h : w.ownsRow B E 1 (.slice (some ⟨g, 0, none⟩) n cap) n (xs ++ ys)) (hm : m = xs.length) : w.ownsRow B E 1 (.slice (some ⟨g, 0, none⟩) m cap) m xs := by
  subst hm
  have hl := h.1
  have := own_take h (k := xs.length) (by rw [List.length_append] at hl; omega)
  rwa [List.take_left] at this
theorem cell_old {w : World} {o : Obj} {p : Addr} {v : Value} (h : w.cell? p = some v) : (w.alloc o).drew.cell? p = some v := ((vbox w o).cell (cell_lt h)).trans h
theorem cell_grown {w w1 : World} {g : Nat} {n c : Nat} {p : Addr} {v : Value} (hg : w.grownBy w1 (Value.slice (some ⟨g, 0, none⟩) n c).ownBlock) (hp : p.block ≠ g) (h : w.cell? p = some v) : w1.cell? p = some v :=
  (Only.of_grown (g := g) hg).cell hp h
theorem frozen_next {wb w1 : World} {ob : Obj} {P g n c : Nat} (hg : (wb.alloc ob).drew.grownBy w1 (Value.slice (some ⟨g, 0, none⟩) n c).ownBlock) (hP : P < wb.heap.size) (hPg : P ≠ g) (hf : ∀ o, wb.frozen? ⟨P, o, none⟩ = false) : w1.frozen? ⟨P, 0, none⟩ = false := by
  have hO : Only g wb w1 := ((Only.of_below (vbox wb ob)).drew).trans (.of_grown hg)
  rw [frozen_blk (hO.block P hP hPg)]
  exact hf 0
theorem cell_set_ne {w : World} {p q : Addr} {u v : Value} (hne : p.block ≠ q.block) (h : w.cell? q = some v) : (w.setCell p u).cell? q = some v := by
  rw [World.cell?_setCell_other _ _ _ _ (fun e => hne (by rw [e]))]; exact h
/-- what is known behind the append of a step -/
theorem step_next {w wb w1 : World} {z ob : Obj} {N B P g gg cap cap2 b o : Nat} {S1 : List Lev} {L' : Lev} {t : AT} {d : Int} (hw : WalkAt wb N B P g cap (S1 ++ [L']) d) (ho : Only2 P g (w.alloc z) wb) (hgw : g < w.heap.size) (hbN : b < N) (hC : CellsAt wb b o t) (hT : Lv wb N t.a t.cap t.l)
    (hown : w1.ownsRow B 26 1 (.slice (some ⟨gg, 0, none⟩) (S1.length + 1 + 1) cap2) (S1.length + 1 + 1) ((S1 ++ [L']).map Lev.val ++ [.slice t.a t.l.length t.cap])) {n c : Nat}
    (hgrow : (wb.alloc ob).drew.grownBy w1 (Value.slice (some ⟨g, 0, none⟩) n c).ownBlock) (hat : (Value.slice (some ⟨g, 0, none⟩) n c).ownBlock = some gg ∨ gg = wb.heap.size + 1) :
    CellsAt w1 b o t ∧ WalkAt (w1.setCell ⟨P, 0, none⟩ (.slice (some ⟨gg, 0, none⟩) (S1.length + 1 + 1) cap2)) N B P gg cap2 (S1 ++ [L', ⟨t.a, t.cap, t.l⟩]) d ∧ Only2 P g (w.alloc z) w1 ∧ (gg = g ∨ w.heap.size < gg) ∧ (∀ o, w1.frozen? ⟨P, o, none⟩ = false) := by
  have hB := hw.pB
  have hN := hw.pN
  have hl := hw.lt
  have hne := hw.ne
  have hos := ho.size
  simp at hos
  have hO : Only g wb w1 := ((Only.of_below (vbox wb ob)).drew).trans (.of_grown hgrow)
  have hk : ∀ k, k < wb.heap.size → k ≠ g → w1.heap[k]? = wb.heap[k]? := hO.block
  have hgg : gg = g ∨ wb.heap.size + 1 = gg := by
    rcases hat with h | h
    · simp [Value.ownBlock] at h; exact .inl h.symm
    · exact .inr h.symm
  have hlen : (S1 ++ [L', ⟨t.a, t.cap, t.l⟩]).length = S1.length + 1 + 1 := by simp
  have hPgg : P ≠ gg := by omega
  refine ⟨hC.keep (hk b (by omega) (by omega)), ?_, ho.trans (.of_onlyG hO), by omega, fun o => by rw [frozen_blk (hk P (by omega) (by omega))]; exact hw.fr o⟩
  rw [← hlen]
  have hr0 := hw.rest
  have hrow : w1.ownsRow B 26 1 (.slice (some ⟨gg, 0, none⟩) (S1 ++ [L', ⟨t.a, t.cap, t.l⟩]).length cap2) (S1 ++ [L', ⟨t.a, t.cap, t.l⟩]).length ((S1 ++ [L', ⟨t.a, t.cap, t.l⟩]).map Lev.val) := by
    rw [hlen]
    simpa using hown
  have hkP := hk P (by omega) (by omega)
  exact {
    rest := by
      rw [World.cell?_setCell_same (u := .slice (some ⟨g, 0, none⟩) (S1 ++ [L']).length cap)]
      rw [World.cell?_of_block (w := wb) (w' := w1) hkP]; exact hr0
    deep := by
      rw [World.cell?_setCell_other _ _ _ _ (fun e => by injection e with e1 e2; cases e2), World.cell?_of_block (w := wb) (w' := w1) hkP]
      exact hw.deep
    fr := fun o => by
      have : w1.frozen? ⟨P, o, none⟩ = false := by rw [frozen_blk hkP]; exact hw.fr o
      simp [go_sem, this]
    row := own_heap hrow (fun k hg => Below.heap_setCell _ _ _ _ (by simp [Value.ownBlock] at hg; rw [← hg]; exact fun e => hPgg e.symm))
    pB := hB
    pN := hN
    ne := hPgg
    lv := fun L2 hL2 => by
      have hk2 : ∀ k, k < N → (w1.setCell ⟨P, 0, none⟩ (.slice (some ⟨gg, 0, none⟩) (S1 ++ [L', ⟨t.a, t.cap, t.l⟩]).length cap2)).heap[k]? = wb.heap[k]? := fun k hkN =>
        (Below.heap_setCell _ _ _ _ (by show k ≠ P; omega)).trans (hk k (by omega) (by omega))
      simp only [List.mem_append, List.mem_cons, List.not_mem_nil, or_false] at hL2
      rcases hL2 with h | rfl | rfl
      · exact (hw.lv L2 (by simp [h])).kept hk2
      · exact (hw.lv L2 (by simp)).kept hk2
      · exact hT.kept hk2 }
theorem zcells {w wr : World} {P g : Nat} (h : Only2 P g (w.alloc (.cells #[.int .i64 0, .int .i64 0, .int .i64 0, .string ⟨#[]⟩, .slice none 0 0] 28)) wr) (hP : P < w.heap.size) (hg : g < w.heap.size) :
    wr.cell? ⟨w.heap.size, 0, none⟩ = some (.int .i64 0) ∧ wr.cell? ⟨w.heap.size, 1, none⟩ = some (.int .i64 0) ∧ wr.cell? ⟨w.heap.size, 2, none⟩ = some (.int .i64 0) ∧ wr.cell? ⟨w.heap.size, 3, none⟩ = some (.string ⟨#[]⟩) ∧ wr.cell? ⟨w.heap.size, 4, none⟩ = some (.slice none 0 0) ∧ (∀ o, wr.frozen? ⟨w.heap.size, o, none⟩ = false) := by
  have hk := h.block w.heap.size (by simp) (by omega) (by omega)
  refine ⟨?_, ?_, ?_, ?_, ?_, fun o => ?_⟩
  · rw [World.cell?_of_block hk]; simp [go_sem]
  · rw [World.cell?_of_block hk]; simp [go_sem]
  · rw [World.cell?_of_block hk]; simp [go_sem]
  · rw [World.cell?_of_block hk]; simp [go_sem]
  · rw [World.cell?_of_block hk]; simp [go_sem]
  · rw [frozen_blk hk]; simp [go_sem]
theorem Only2.zall {P g : Nat} {w wr : World} {o : Obj} (h : Only2 P g (w.alloc o) wr) : Only2 P g w wr := (Only2.of_below (vbox w o)).trans h
theorem Only2.setG {P g o : Nat} {u : Value} {a w : World} (h : Only2 P g a w) : Only2 P g a (w.setCell ⟨g, o, none⟩ u) := h.trans (.of_onlyG ((Only.refl g w).setCell o u))
theorem Only2.setP {P g o : Nat} {u : Value} {a w : World} (h : Only2 P g a w) : Only2 P g a (w.setCell ⟨P, o, none⟩ u) := h.trans (.of_onlyP ((Only.refl P w).setCell o u))
theorem Only2.grown {P g : Nat} {a w w' : World} {o : Obj} (h : Only2 P g a w) (hg : ((w.alloc o)).drew.grownBy w' (some g)) : Only2 P g a w' :=
  h.trans ((Only2.of_below (vbox w o)).trans ⟨hg.os, hg.tape, hg.output, hg.size, fun k hk h1 h2 => hg.block k hk (by simpa using h2)⟩)
theorem Only2.zalloc {P g : Nat} {w wr : World} {o : Obj} (h : Only P (w.alloc o) wr) : Only2 P g w wr := (Only2.of_below (vbox w o)).trans (Only2.of_onlyP h)
theorem Only2.setNew {P g B : Nat} {w wr : World} {o : Nat} {u : Value} (h : Only2 P g w wr) (hB : w.heap.size ≤ B) : Only2 P g w (wr.setCell ⟨B, o, none⟩ u) :=
  ⟨h.os, h.tape, h.output, by have := h.size; simpa [World.setCell] using this, fun k hk h1 h2 => (Below.heap_setCell _ _ _ _ (by show k ≠ B; omega)).trans (h.block k hk h1 h2)⟩
theorem Only2.zset {P g B : Nat} {w wr : World} {u0 u1 u2 u3 u4 : Value} (h : Only2 P g w wr) (hB : w.heap.size ≤ B) :
    Only2 P g w (((((wr.setCell ⟨B, 0, none⟩ u0).setCell ⟨B, 1, none⟩ u1).setCell ⟨B, 2, none⟩ u2).setCell ⟨B, 3, none⟩ u3).setCell ⟨B, 4, none⟩ u4) :=
  ((((h.setNew hB).setNew hB).setNew hB).setNew hB).setNew hB
theorem WalkAt.top {w : World} {N B P g cap : Nat} {S1 : List Lev} {d : Int} {b o cl : Nat} {t : AT} {tl : List AT} (h : WalkAt w N B P g cap (S1 ++ [⟨some ⟨b, o, none⟩, cl, t :: tl⟩]) d) :
    w.cell? ⟨P, 0, none⟩ = some (.slice (some ⟨g, 0, none⟩) (S1.length + 1) cap) ∧ w.cell? ⟨g, S1.length, none⟩ = some (.slice (some ⟨b, o, none⟩) (tl.length + 1) cl) ∧ (∀ o, w.frozen? ⟨P, o, none⟩ = false) ∧ (∀ o, w.frozen? ⟨g, o, none⟩ = false) ∧ CellsAt w b o t ∧ P < w.heap.size ∧ B ≤ g ∧ g < w.heap.size := by
  have h0 := h.rest
  have hc := h.row.cellAt S1.length (by simp)
  rw [List.length_append, List.length_singleton] at h0
  rw [List.map_append, List.getElem?_append_right (by simp)] at hc
  simp only [List.length_map, Nat.sub_self, List.map_cons, List.map_nil, List.getElem?_cons_zero] at hc
  obtain ⟨b', o', hbo, _, hC⟩ := (h.lv ⟨some ⟨b, o, none⟩, cl, t :: tl⟩ (by simp)).cell 0 (by simp)
  injection hbo with hbo
  injection hbo with e1 e2
  subst e1 e2
  exact ⟨h0, hc, h.fr, h.row.frozenAt, by simpa using hC, h.lt⟩
theorem WalkAt.setTop {w : World} {N B P g cap : Nat} {S1 : List Lev} {L : Lev} {d : Int} (h : WalkAt w N B P g cap (S1 ++ [L]) d) (L' : Lev) (hL : Lv w N L'.a L'.cap L'.l) : WalkAt (w.setCell ⟨g, S1.length, none⟩ L'.val) N B P g cap (S1 ++ [L']) d where
  rest := by
    have := h.rest
    have h2 := h.ne
    rw [World.cell?_setCell_other _ _ _ _ (fun e => h2 (by injection e with e1; exact e1.symm)), this]
    simp
  deep := by
    have := h.deep
    have h2 := h.ne
    rw [World.cell?_setCell_other _ _ _ _ (fun e => h2 (by injection e with e1; exact e1.symm)), this]
  fr o := by have := h.fr o; simp [go_sem, this]
  row := by
    have := (h.row.stored S1.length L'.val).1
    rw [List.map_append, List.map_singleton, List.set_append, if_neg (by simp)] at this
    simpa using this
  pB := h.pB
  pN := h.pN
  ne := h.ne
  lv L2 hL2 := by
    have hk : ∀ k, k < N → (w.setCell ⟨g, S1.length, none⟩ L'.val).heap[k]? = w.heap[k]? := fun k hk => Below.heap_setCell _ _ _ _ (by have := h.lt; have := h.pN; show k ≠ g; omega)
    rcases List.mem_append.1 hL2 with hm | hm
    · exact (h.lv L2 (by simp [hm])).kept hk
    · obtain rfl : L2 = L' := by simpa using hm
      exact hL.kept hk
theorem WalkAt.drew {w : World} {N B P g cap : Nat} {S : List Lev} {d : Int} (h : WalkAt w N B P g cap S d) : WalkAt w.drew N B P g cap S d := h.kept (w' := w.drew) (fun _ _ => rfl)
theorem lv_tail {w : World} {N b o cl : Nat} {t : AT} {tl : List AT} (h : Lv w N (some ⟨b, o, none⟩) cl (t :: tl)) : Lv w N (some ⟨b, o + 5, none⟩) (cl - 1) tl where
  hc := by have := h.hc; simp at this; omega
  cell j hj := by
    obtain ⟨b', o', hb, hN, hC⟩ := h.cell (j + 1) (by simpa using hj)
    injection hb with hb
    injection hb with e1 e2
    subst e1 e2
    refine ⟨b, o + 5, rfl, hN, ?_⟩
    rw [show o + 5 + j * 5 = o + (j + 1) * 5 by omega]
    simpa using hC
  sub u hu := h.sub u (by simp [hu])
theorem lv_none {w : World} {N : Nat} {a : Option Addr} : Lv w N a 0 [] := ⟨Nat.le_refl _, fun j hj => absurd hj (by simp), by simp⟩
theorem WalkAt.topLv {w : World} {N B P g cap : Nat} {S1 : List Lev} {L : Lev} {d : Int} (h : WalkAt w N B P g cap (S1 ++ [L]) d) : Lv w N L.a L.cap L.l := h.lv L (by simp)
theorem WalkAt.setNew {w : World} {N B P g cap R o : Nat} {S : List Lev} {d : Int} {u : Value} (h : WalkAt w N B P g cap S d) (h1 : R ≠ P) (h2 : R ≠ g) (h3 : N ≤ R) : WalkAt (w.setCell ⟨R, o, none⟩ u) N B P g cap S d :=
  h.kept fun k hk => Below.heap_setCell _ _ _ _ (by show k ≠ R; rcases hk with rfl | rfl | hk <;> omega)
theorem WalkAt.zset {w : World} {N B P g cap R : Nat} {S : List Lev} {d : Int} {u0 u1 u2 u3 u4 : Value} (h : WalkAt w N B P g cap S d) (h1 : R ≠ P) (h2 : R ≠ g) (h3 : N ≤ R) :
    WalkAt (((((w.setCell ⟨R, 0, none⟩ u0).setCell ⟨R, 1, none⟩ u1).setCell ⟨R, 2, none⟩ u2).setCell ⟨R, 3, none⟩ u3).setCell ⟨R, 4, none⟩ u4) N B P g cap S d :=
  ((((h.setNew h1 h2 h3).setNew h1 h2 h3).setNew h1 h2 h3).setNew h1 h2 h3).setNew h1 h2 h3
def stackLen (P : Nat) (w : World) : Nat := match w.cell? ⟨P, 0, none⟩ with | some (.slice _ n _) => n | _ => 0
theorem stackLen_set {w : World} {P : Nat} {u a : Value} {n c : Nat} {ad : Option Addr} (h : w.cell? ⟨P, 0, none⟩ = some a) (hu : u = .slice ad n c) : stackLen P (w.setCell ⟨P, 0, none⟩ u) = n := by
  subst hu
  unfold stackLen
  simp [go_sem, h]
theorem stackLen_eq {w : World} {P n c : Nat} {ad : Option Addr} (h : w.cell? ⟨P, 0, none⟩ = some (.slice ad n c)) : stackLen P w = n := by
  unfold stackLen; rw [h]
/-- what a step hands on: the next value, and the stack behind it; or that there is none -/
def NextPost (w : World) (N B P g : Nat) (S : List Lev) (e : Ending) (w' : World) : Prop :=
  (∃ (S1 E : List Lev) (L : Lev) (t : AT) (tl : List AT) (a' : Option Addr) (c' g' cap' : Nat), S = S1 ++ L :: E ∧ (∀ L' ∈ E, L'.l = []) ∧ L.l = t :: tl ∧ e = .returned (.tuple #[t.val, .bool true]) ∧
    WalkAt w' N B P g' cap' (S1 ++ [⟨a', c', tl⟩, ⟨t.a, t.cap, t.l⟩]) (S1.length + 1 : Nat) ∧ (g' = g ∨ w.heap.size ≤ g') ∧ Only2 P g w w') ∨
  ((∀ L' ∈ S, L'.l = []) ∧ e = .returned (.tuple #[(AT.leaf 0 0 0 []).val, .bool false]) ∧ Only2 P g w w')
theorem snoc_or {α : Type} (l : List α) : l = [] ∨ ∃ m x, l = m ++ [x] := by
  rcases List.eq_nil_or_concat l with h | ⟨m, x, h⟩
  · exact .inl h
  · exact .inr ⟨m, x, by simpa using h⟩
end Go.Proofs.Ytilgncebhgplaaa
