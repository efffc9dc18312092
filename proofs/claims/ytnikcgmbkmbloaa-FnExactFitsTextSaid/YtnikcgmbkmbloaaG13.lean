import Derived.Test.YtnikcgmbkmbloaaG11
import Derived.Test.YtnikcgmbkmbloaaG1
/- l7Compare and LessVal of the model. -/
namespace Go.Proofs.Ytnikcgmbkmbloaa
open Go.RowKit
set_option maxRecDepth 100000
theorem ptcmp_eq (f : NumF) (k n x : Int) (s : List UInt8) (a : Option Addr) (cap : Nat) (l : List AT) (k2 n2 x2 : Int) (s2 : List UInt8) (b : Option Addr) (cap2 : Nat) (m : List AT) :
    (AT.mk k n x s a cap l).pt.cmp f (AT.mk k2 n2 x2 s2 b cap2 m).pt = orI (hdV f k n x s k2 n2 x2 s2) (PT.cmpL f (AT.ptL l) (AT.ptL m)) := rfl
theorem wf_isI {k n x : Int} {s : List UInt8} {l : List PT} (h : PT.Wf (.mk k n x s l)) : isI k ∧ isI n ∧ isI x ∧ l.length ≤ 9223372036854775807 := by
  cases h with
  | mk hk hn hx hs hl sub => exact ⟨hk, hn, hx, hl⟩
set_option maxHeartbeats 4000000 in
theorem cmp_spec (T : AT) : T.pt.Wf → ∀ (U : AT) (w : World) (N : Nat), U.pt.Wf → T.In w N → U.In w N → N ≤ w.heap.size → Calls Try.prog 95 #[T.val, U.val] w fun e w' => e = .returned (.int .i64 (T.pt.cmp numV U.pt)) ∧ Below w.heap.size w w' := by
  induction T using AT.ind with
  | h k n x s a cap l ih =>
    intro hwf U w N hwf2 hin hin2 hN
    obtain ⟨k2, n2, x2, s2, b, cap2, m⟩ := U
    obtain ⟨hk1, hn1, hx1, hll⟩ := wf_isI (l := AT.ptL l) hwf
    obtain ⟨hk2, hn2, hx2, hml⟩ := wf_isI (l := AT.ptL m) hwf2
    rw [AT.ptL_length] at hll hml
    have HNUM : Hid (∀ W : World, Calls Try.prog 129 #[.agg #[.int .i64 k, .int .i64 n, .int .i64 x, .string ⟨s.toArray⟩, .slice a l.length cap], .agg #[.int .i64 k2, .int .i64 n2, .int .i64 x2, .string ⟨s2.toArray⟩, .slice b m.length cap2]] W fun e w' => e = .returned (.int .i64 (numV k n x n2 x2)) ∧ Below W.heap.size W w') := Lib.hid (fun W => nums_spec (.mk k n x s a cap l) (.mk k2 n2 x2 s2 b cap2 m) W ⟨hn1, hx1⟩ ⟨hn2, hx2⟩)
    have hc := fun (t : AT) (ht : t ∈ l) (u : AT) (hu : u ∈ m) (w1 : World) (hb : Below w.heap.size w w1) => ih t ht (hwf.sub' t.pt (by rw [AT.ptL_eq]; exact List.mem_map_of_mem ht)) u w1 N (hwf2.sub' u.pt (by rw [AT.ptL_eq]; exact List.mem_map_of_mem hu)) ((hin.lv.sub t ht).blw hb hN) ((hin2.lv.sub u hu).blw hb hN) (Nat.le_trans hN hb.size)
    have H := Lib.hid hin.lv
    have H2 := Lib.hid hin2.lv
    have HC := Lib.hid hc
    have hsgn := sgn_num k n x n2 x2
    rw [ptcmp_eq]
    obtain ⟨tot, htot⟩ : ∃ tot, tot = orI (hdV numV k n x s k2 n2 x2 s2) (PT.cmpL numV (AT.ptL l) (AT.ptL m)) := ⟨_, rfl⟩
    rw [← htot]
    clear hc ih hin hin2 hwf hwf2 hk1 hn1 hx1 hk2 hn2 hx2
    show Calls Try.prog 95 #[.agg #[.int .i64 k, .int .i64 n, .int .i64 x, .string ⟨s.toArray⟩, .slice a l.length cap], .agg #[.int .i64 k2, .int .i64 n2, .int .i64 x2, .string ⟨s2.toArray⟩, .slice b m.length cap2]] w _
    unfold hdV at htot
    have hvc := vcbox w k n x ⟨s.toArray⟩ a l.length cap k2 n2 x2 ⟨s2.toArray⟩ b m.length cap2 26
    have hBB := two' w (.cells #[.int .i64 k, .int .i64 n, .int .i64 x, .string ⟨s.toArray⟩, .slice a l.length cap] 26) (.cells #[.int .i64 k2, .int .i64 n2, .int .i64 x2, .string ⟨s2.toArray⟩, .slice b m.length cap2] 26)
    rcases Int.lt_trichotomy k k2 with hk | hk | hk
    · have HT : Hid (tot = -1) := Lib.hid (by rw [htot, show cmpI k k2 = -1 from if_pos hk]; rfl)
      clear htot hsgn HNUM HC H H2
      go_enter Try.func95, Try.ntmps95
      go_wp2
      go_ret
      exact ⟨by rw [HT.out]; try rfl, hBB⟩
    · subst hk
      rw [cmpI_zero.2 rfl, orI_zero] at htot
      generalize numV k n x n2 x2 = nu at *
      by_cases hnu : nu = 0
      · subst hnu
        rw [orI_zero] at htot
        cases hsl : Op.bytesLess s s2
        · by_cases hse : s = s2
          · subst hse
            rw [cmpS_zero.2 rfl, orI_zero] at htot
            have HT := Lib.hid htot
            have hseq : (s == s) = true := by simp
            go_enter Try.func95, Try.ntmps95
            go_wp2_with fail
            generalize ((w.alloc (.cells #[.int .i64 k, .int .i64 n, .int .i64 x, .string ⟨s.toArray⟩, .slice a l.length cap] 26)).alloc (.cells #[.int .i64 k, .int .i64 n2, .int .i64 x2, .string ⟨s.toArray⟩, .slice b m.length cap2] 26)) = W0 at *
            have HE : Hid (∀ W, Rl W0 W → Below w.heap.size w W) := Lib.hid (fun W h => hBB.trans (h.b.mono hBB.size))
            have HVC := Lib.hid hvc
            clear hvc hBB htot hsgn
            refine (HNUM.out _).mono ?_
            rintro e w1 ⟨rfl, hb1⟩
            have HB1 := Lib.hid ((Rl.refl W0).below hb1)
            obtain ⟨⟨c0, c1, c2, c3, c4⟩, ⟨d0, d1, d2, d3, d4⟩⟩ := (And.intro (HVC.out.1.blw hb1) (HVC.out.2.blw hb1))
            clear hb1 HNUM
            go_wp2
            go_loopw [6] (fun i wr => ∃ i' : Nat, i = .int .i64 i' ∧ i' ≤ l.length ∧ i' ≤ m.length ∧ (AT.ptL l).take i' = (AT.ptL m).take i' ∧ Rl W0 wr) (fun i _ => l.length - (intOf i).toNat)
            case atStart => exact ⟨0, rfl, Nat.zero_le _, Nat.zero_le _, by simp, HB1.out⟩
            case round =>
              obtain ⟨i', rfl, hi', hi2', htk, hrl⟩ := hrel
              have HTK := Lib.hid htk
              have HRL := Lib.hid hrl
              have HBw := Lib.hid (HE.out _ hrl)
              obtain ⟨⟨c0, c1, c2, c3, c4⟩, ⟨d0, d1, d2, d3, d4⟩⟩ := (And.intro (HVC.out.1.blw hrl.b) (HVC.out.2.blw hrl.b))
              clear htk hrl
              by_cases hlt : i' < l.length
              · by_cases hlt2 : i' < m.length
                · obtain ⟨c, o, rfl, hcN, hC⟩ := H.out.cell i' hlt
                  obtain ⟨c', o', rfl, hcN2, hC2⟩ := H2.out.cell i' hlt2
                  have hC := hC.keep (HBw.out.block c (by omega))
                  have hC2 := hC2.keep (HBw.out.block c' (by omega))
                  have hcall := fun (w1 : World) (hb1 : Below wr.heap.size wr w1) => HC.out l[i'] (List.getElem_mem hlt) m[i'] (List.getElem_mem hlt2) w1 (HBw.out.trans (hb1.mono HBw.out.size))
                  have e1 : i' < (AT.ptL l).length := by rw [AT.ptL_length]; exact hlt
                  have e2 : i' < (AT.ptL m).length := by rw [AT.ptL_length]; exact hlt2
                  have hne : (AT.pt l[i']).cmp numV (AT.pt m[i']) ≠ 0 → tot = (AT.pt l[i']).cmp numV (AT.pt m[i']) := fun h => by
                    rw [HT.out, cmpL_at numV (AT.ptL l) (AT.ptL m) i' e1 e2 HTK.out numOk (by rw [ptL_get l i' hlt, ptL_get m i' hlt2]; exact h), ptL_get l i' hlt, ptL_get m i' hlt2]
                  have heq : (AT.pt l[i']).cmp numV (AT.pt m[i']) = 0 → (AT.ptL l).take (i' + 1) = (AT.ptL m).take (i' + 1) := fun h => by
                    rw [List.take_succ_eq_append_getElem e1, List.take_succ_eq_append_getElem e2, HTK.out, ptL_get l i' hlt, ptL_get m i' hlt2, (cmp_zero numOk).1 h]
                  obtain ⟨V, hV⟩ : ∃ V, V = l[i'] := ⟨_, rfl⟩
                  obtain ⟨V2, hV2⟩ : ∃ V2, V2 = m[i'] := ⟨_, rfl⟩
                  rw [← hV] at hC hcall hne heq
                  rw [← hV2] at hC2 hcall hne heq
                  have HCC := Lib.hid hcall
                  have HNE := Lib.hid hne
                  have HEQ := Lib.hid heq
                  obtain ⟨f0, f1, f2, f3, f4⟩ := hC
                  obtain ⟨g0, g1, g2, g3, g4⟩ := hC2
                  have hi0 : (0 : Int) ≤ i' := by omega
                  have hi1 : (i' : Int) < l.length := by omega
                  have hi3 : (i' : Int) < m.length := by omega
                  clear hV hV2 hcall hne heq e1 e2
                  go_wp2_with fail
                  go_still_tail 10, (by kernel_rfl)
                  go_wp2_with fail
                  refine (HCC.out _ ((Below.refl _ _).drew)).mono ?_
                  rintro e w2 ⟨rfl, hb2⟩
                  have HB2 := Lib.hid (HRL.out.drew.below hb2)
                  clear hb2
                  generalize V.pt.cmp numV V2.pt = r at *
                  by_cases hr : r = 0
                  · subst hr
                    have HTK2 := Lib.hid (HEQ.out rfl)
                    go_wp2
                    go_roundw
                    case rel => exact ⟨i' + 1, by go_num, by omega, by omega, HTK2.out, HB2.out⟩
                    case measure => simp [intOf]; omega
                  · have HR := Lib.hid (HNE.out hr)
                    have hrn : (r != 0) = true := by simpa using hr
                    go_wp2
                    go_ret
                    exact ⟨by rw [HR.out]; try rfl, HE.out _ HB2.out⟩
                · have hi2e : i' = m.length := by omega
                  have HV : Hid (tot = 1) := Lib.hid (by
                    rw [HT.out, cmpL_end numV _ _ numOk (by rw [AT.ptL_length, AT.ptL_length, Nat.min_eq_right (by omega), ← hi2e]; exact HTK.out), AT.ptL_length, AT.ptL_length]
                    unfold cmpI; rw [if_neg (by omega), if_pos (by omega)])
                  have hq1 : ¬ (l.length : Int) < m.length := by omega
                  have hq2 : (m.length : Int) < l.length := by omega
                  subst hi2e
                  have hd1 : decide ((m.length : Int) < l.length) = true := by simpa using hq2
                  go_wp2
                  go_ret
                  exact ⟨by rw [HV.out]; try rfl, HBw.out⟩
              · have hi2e : i' = l.length := by omega
                subst hi2e
                by_cases hq : l.length = m.length
                · have HV : Hid (tot = 0) := Lib.hid (by
                    rw [HT.out, cmpL_end numV _ _ numOk (by rw [AT.ptL_length, AT.ptL_length, ← hq, Nat.min_self]; exact HTK.out), AT.ptL_length, AT.ptL_length, hq]
                    exact cmpI_zero.2 rfl)
                  have hq1 : ¬ (l.length : Int) < m.length := by omega
                  have hq2 : ¬ (m.length : Int) < l.length := by omega
                  go_wp2
                  go_ret
                  exact ⟨by rw [HV.out]; try rfl, HBw.out⟩
                · have HV : Hid (tot = -1) := Lib.hid (by
                    rw [HT.out, cmpL_end numV _ _ numOk (by rw [AT.ptL_length, AT.ptL_length, Nat.min_eq_left hi2']; exact HTK.out), AT.ptL_length, AT.ptL_length]
                    exact if_pos (by omega))
                  have hq1 : (l.length : Int) < m.length := by omega
                  go_wp2
                  go_ret
                  exact ⟨by rw [HV.out]; try rfl, HBw.out⟩
          · have HT : Hid (tot = 1) := Lib.hid (by rw [htot, show cmpS s s2 = 1 by unfold cmpS; rw [hsl]; simp [hse]]; rfl)
            have hseq : (s == s2) = false := by simpa using hse
            clear htot hsgn HC H H2 hse
            go_enter Try.func95, Try.ntmps95
            go_wp2_with fail
            generalize ((w.alloc (.cells #[.int .i64 k, .int .i64 n, .int .i64 x, .string ⟨s.toArray⟩, .slice a l.length cap] 26)).alloc (.cells #[.int .i64 k, .int .i64 n2, .int .i64 x2, .string ⟨s2.toArray⟩, .slice b m.length cap2] 26)) = W0 at *
            have HE : Hid (∀ W, Rl W0 W → Below w.heap.size w W) := Lib.hid (fun W h => hBB.trans (h.b.mono hBB.size))
            have HVC := Lib.hid hvc
            clear hvc hBB
            refine (HNUM.out _).mono ?_
            rintro e w1 ⟨rfl, hb1⟩
            have HB1 := Lib.hid ((Rl.refl W0).below hb1)
            obtain ⟨⟨c0, c1, c2, c3, c4⟩, ⟨d0, d1, d2, d3, d4⟩⟩ := (And.intro (HVC.out.1.blw hb1) (HVC.out.2.blw hb1))
            clear hb1 HNUM
            go_wp2
            go_ret
            exact ⟨by rw [HT.out]; try rfl, HE.out _ HB1.out⟩
        · have HT : Hid (tot = -1) := Lib.hid (by rw [htot, show cmpS s s2 = -1 by unfold cmpS; rw [hsl]; rfl]; rfl)
          clear htot hsgn HC H H2
          go_enter Try.func95, Try.ntmps95
          go_wp2_with fail
          generalize ((w.alloc (.cells #[.int .i64 k, .int .i64 n, .int .i64 x, .string ⟨s.toArray⟩, .slice a l.length cap] 26)).alloc (.cells #[.int .i64 k, .int .i64 n2, .int .i64 x2, .string ⟨s2.toArray⟩, .slice b m.length cap2] 26)) = W0 at *
          have HE : Hid (∀ W, Rl W0 W → Below w.heap.size w W) := Lib.hid (fun W h => hBB.trans (h.b.mono hBB.size))
          have HVC := Lib.hid hvc
          clear hvc hBB
          refine (HNUM.out _).mono ?_
          rintro e w1 ⟨rfl, hb1⟩
          have HB1 := Lib.hid ((Rl.refl W0).below hb1)
          obtain ⟨⟨c0, c1, c2, c3, c4⟩, ⟨d0, d1, d2, d3, d4⟩⟩ := (And.intro (HVC.out.1.blw hb1) (HVC.out.2.blw hb1))
          clear hb1 HNUM
          go_wp2
          go_ret
          exact ⟨by rw [HT.out]; try rfl, HE.out _ HB1.out⟩
      · have HT : Hid (tot = nu) := Lib.hid (by rw [htot, orI_ne (by rw [orI_ne hnu]; exact hnu), orI_ne hnu])
        have hnn : (nu != 0) = true := by simpa using hnu
        clear htot hsgn HC H H2
        go_enter Try.func95, Try.ntmps95
        go_wp2_with fail
        generalize ((w.alloc (.cells #[.int .i64 k, .int .i64 n, .int .i64 x, .string ⟨s.toArray⟩, .slice a l.length cap] 26)).alloc (.cells #[.int .i64 k, .int .i64 n2, .int .i64 x2, .string ⟨s2.toArray⟩, .slice b m.length cap2] 26)) = W0 at *
        have HE : Hid (∀ W, Rl W0 W → Below w.heap.size w W) := Lib.hid (fun W h => hBB.trans (h.b.mono hBB.size))
        have HVC := Lib.hid hvc
        clear hvc hBB
        refine (HNUM.out _).mono ?_
        rintro e w1 ⟨rfl, hb1⟩
        have HB1 := Lib.hid ((Rl.refl W0).below hb1)
        obtain ⟨⟨c0, c1, c2, c3, c4⟩, ⟨d0, d1, d2, d3, d4⟩⟩ := (And.intro (HVC.out.1.blw hb1) (HVC.out.2.blw hb1))
        clear hb1 HNUM
        go_wp2
        go_ret
        exact ⟨by rw [HT.out]; try rfl, HE.out _ HB1.out⟩
    · have HT : Hid (tot = 1) := Lib.hid (by rw [htot, show cmpI k k2 = 1 by unfold cmpI; rw [if_neg (by omega), if_pos hk]]; rfl)
      have hk2 : ¬ k < k2 := by omega
      clear htot hsgn HNUM HC H H2
      go_enter Try.func95, Try.ntmps95
      go_wp2
      go_ret
      exact ⟨by rw [HT.out]; try rfl, hBB⟩
theorem lessval_spec (T U : AT) (w : World) (N : Nat) (hwf : T.pt.Wf) (hwf2 : U.pt.Wf) (hin : T.In w N) (hin2 : U.In w N) (hN : N ≤ w.heap.size) : Calls Try.prog 58 #[T.val, U.val] w fun e w' => e = .returned (.bool (T.pt.less U.pt)) ∧ Below w.heap.size w w' := by
  have HC := Lib.hid (fun (w1 : World) (hb : Below w.heap.size w w1) => cmp_spec T hwf U w1 N hwf2 (hin.blw hb hN) (hin2.blw hb hN) (Nat.le_trans hN hb.size))
  have hl : T.pt.less U.pt = decide (T.pt.cmp numV U.pt < 0) := rfl
  rw [hl]
  generalize T.pt.cmp numV U.pt = r at *
  clear hin hin2 hwf hwf2
  show Calls Try.prog 58 #[.agg #[.int .i64 T.k, .int .i64 T.n, .int .i64 T.x, .string ⟨T.s.toArray⟩, .slice T.a T.l.length T.cap], .agg #[.int .i64 U.k, .int .i64 U.n, .int .i64 U.x, .string ⟨U.s.toArray⟩, .slice U.a U.l.length U.cap]] w _
  go_enter Try.func58, Try.ntmps58
  go_wp2_with fail
  refine (HC.out _ (two' _ _ _)).mono ?_
  rintro e w1 ⟨rfl, hb1⟩
  have HB := Lib.hid ((two' w (.cells #[.int .i64 T.k, .int .i64 T.n, .int .i64 T.x, .string ⟨T.s.toArray⟩, .slice T.a T.l.length T.cap] 26) (.cells #[.int .i64 U.k, .int .i64 U.n, .int .i64 U.x, .string ⟨U.s.toArray⟩, .slice U.a U.l.length U.cap] 26)).trans (hb1.mono (by simp; omega)))
  clear hb1
  go_wp2
  go_ret
  exact ⟨rfl, HB.out⟩
end Go.Proofs.Ytnikcgmbkmbloaa
