import Derived.Test.YtnikcgmbkmbloaaG26
import Derived.Test.YtnikcgmbkmbloaaG27
/- FitsText of the model. -/
namespace Go.Proofs.Ytnikcgmbkmbloaa
open Go.RowKit
set_option maxRecDepth 100000
theorem fitBL_take (l : List PT) (i : Nat) (h : i < l.length) : PT.fitBL (l.take (i + 1)) = (PT.fitBL (l.take i) && l[i].fitB) := by
  induction l generalizing i with
  | nil => cases h
  | cons t l ih =>
    cases i with
    | zero => simp [PT.fitBL]
    | succ i =>
      simp only [List.take_succ_cons, PT.fitBL, List.getElem_cons_succ]
      rw [ih i (by simpa using h), Bool.and_assoc]
theorem fitBL_false (l : List PT) (i : Nat) (h : i < l.length) (hf : l[i].fitB = false) : PT.fitBL l = false := by
  induction l generalizing i with
  | nil => cases h
  | cons t l ih =>
    cases i with
    | zero => simp only [List.getElem_cons_zero] at hf; simp [PT.fitBL, hf]
    | succ i =>
      simp only [List.getElem_cons_succ] at hf
      simp only [PT.fitBL, ih i (by simpa using h) hf, Bool.and_false]
set_option maxHeartbeats 2000000 in
theorem hasn_spec (T : AT) (w : World) (N : Nat) (hwf : T.pt.Wf) (hin : T.In w N) (hsz : T.pt.sz ≤ 1048576) (hN : N ≤ w.heap.size) : Calls Try.prog 112 #[T.val] w fun e w' => e = .returned (.bool (hasN T)) ∧ Below w.heap.size w w' := by
  have HNC := Lib.hid (fun (w1 : World) (hb : Below w.heap.size w w1) => names_spec T w1 N (hin.blw hb hN) hsz (Nat.le_trans hN hb.size))
  have HOC := Lib.hid (fun (w1 : World) (hb : Below w.heap.size w w1) => once_spec T w1 N hwf (hin.blw hb hN) hsz (Nat.le_trans hN hb.size))
  have hnl : T.pt.names.length ≤ 1048576 := by have h1 := len_le_sz T; rw [← names_pt, AT.ptL_length]; unfold AT.names; split <;> simp [evens_length]; omega
  have htv : hasN T = (T.pt.names.all (fun u => u.kd == 7) && onceV T.pt.names) := rfl
  obtain ⟨ov, hov⟩ : ∃ ov, ov = onceV T.pt.names := ⟨_, rfl⟩
  rw [← hov] at htv HOC
  obtain ⟨tot, htot⟩ : ∃ tot, tot = hasN T := ⟨_, rfl⟩
  rw [← htot] at htv ⊢
  clear hin hsz hwf htot hov
  generalize T.pt.names = p at *
  have HTV := Lib.hid htv
  clear htv
  show Calls Try.prog 112 #[.agg #[.int .i64 T.k, .int .i64 T.n, .int .i64 T.x, .string ⟨T.s.toArray⟩, .slice T.a T.l.length T.cap]] w _
  go_enter Try.func112, Try.ntmps112
  go_wp2_with fail
  have hb0 := vbox w (.cells #[.int .i64 T.k, .int .i64 T.n, .int .i64 T.x, .string ⟨T.s.toArray⟩, .slice T.a T.l.length T.cap] 26)
  refine (HNC.out _ hb0).mono ?_
  rintro e w1 ⟨a1, cap1, ns, hpt, rfl, hown, hnd, hb1⟩
  have HB1 := Lib.hid (hb0.trans (hb1.mono hb0.size))
  have HBX := Lib.hid (box5 w T.k T.n T.x ⟨T.s.toArray⟩ T.a T.l.length T.cap 26 (by simpa using hb1))
  have HLV := Lib.hid hown.lv
  have HTV2 : Hid (tot = ((AT.ptL ns).all (fun u => u.kd == 7) && ov)) := Lib.hid (by rw [HTV.out, hpt])
  have hnl2 : ns.length ≤ 1048576 := by rw [← hpt, AT.ptL_length] at hnl; exact hnl
  clear hb1 hb0 hown hnd HNC hpt hnl HTV
  go_wp2_with fail
  go_loopw [4] (fun i wr => ∃ q : Nat, i = .int .i64 q ∧ q ≤ ns.length ∧ Hid (((AT.ptL ns).take q).all (fun u => u.kd == 7) = true) ∧ Hid (Below w1.heap.size w1 wr)) (fun i _ => ns.length - (intOf i).toNat)
  case atStart => exact ⟨0, rfl, Nat.zero_le _, Lib.hid (by simp), Lib.hid (Below.refl _ _)⟩
  case round =>
    obtain ⟨q, rfl, hq, HA, HB⟩ := hrel
    by_cases hlt : q < ns.length
    · obtain ⟨b, o, rfl, hbN, hC⟩ := HLV.out.cell q hlt
      have hC := hC.keep (HB.out.block b hbN)
      have hst := all_take (AT.ptL ns) q (by rw [AT.ptL_length]; exact hlt)
      rw [ptL_get ns q hlt] at hst
      obtain ⟨V, hV⟩ : ∃ V, V = ns[q] := ⟨_, rfl⟩
      rw [← hV] at hC hst
      have hkd : V.pt.kd = V.k := by cases V; rfl
      rw [hkd] at hst
      have HST := Lib.hid hst
      have HALL : Hid (V.k ≠ 7 → tot = false) := Lib.hid (fun h => by
        rw [HTV2.out]
        have : (AT.ptL ns).all (fun u => u.kd == 7) = false := by
          rw [List.all_eq_false]
          refine ⟨V.pt, by rw [AT.ptL_eq, hV]; exact List.mem_map_of_mem (List.getElem_mem hlt), ?_⟩
          rw [hkd]; simpa using h
        rw [this]; rfl)
      obtain ⟨c0, c1, c2, c3, c4⟩ := hC
      have hlt' : (q : Int) < ns.length := by omega
      have hw2 : IntKind.i64.wrap (q : Int) = (q : Int) := IntWalk.i64_in _ (by omega)
      clear hV hst hkd
      by_cases h7 : V.k = 7
      · have hk7 : (V.k != 7) = false := by simp [h7]
        have HA2 : Hid (((AT.ptL ns).take (q + 1)).all (fun u => u.kd == 7) = true) := Lib.hid (by rw [HST.out, HA.out, h7]; rfl)
        clear h7 HALL HST
        go_wp2
        go_roundw
        case rel => exact ⟨q + 1, by go_num, by omega, HA2, HB⟩
        case measure => simp [intOf]; omega
      · have hk7 : (V.k != 7) = true := by simpa using h7
        have HF := Lib.hid (HALL.out h7)
        clear h7 HALL HST
        go_wp2
        go_ret
        exact ⟨by rw [HF.out]; rfl, HB1.out.trans (HB.out.mono HB1.out.size)⟩
    · have hnl3 : ¬ (q : Int) < ns.length := by omega
      have HALL : Hid (tot = ov) := Lib.hid (by
        have h1 := HA.out
        rw [List.take_of_length_le (by rw [AT.ptL_length]; omega)] at h1
        rw [HTV2.out, h1, Bool.true_and])
      obtain ⟨c0, c1, c2, c3, c4⟩ := HBX.out
      replace c0 := keep_below HB.out c0
      replace c1 := keep_below HB.out c1
      replace c2 := keep_below HB.out c2
      replace c3 := keep_below HB.out c3
      replace c4 := keep_below HB.out c4
      have HBr := Lib.hid (HB1.out.trans (HB.out.mono HB1.out.size))
      go_wp2_with fail
      refine (HOC.out _ HBr.out).mono ?_
      rintro e w3 ⟨rfl, hb3⟩
      go_wp2
      go_ret
      exact ⟨by rw [HALL.out]; try rfl, HBr.out.trans (hb3.mono HBr.out.size)⟩
set_option maxHeartbeats 4000000 in
theorem l11fits_spec (T : AT) : GoodT T → ∀ (w : World) (N : Nat), T.In w N → N ≤ w.heap.size → Calls Try.prog 75 #[T.val] w fun e w' => e = .returned (.bool T.pt.fitB) ∧ Below w.heap.size w w' := by
  induction T using AT.ind with
  | h k n x s a cap l ih =>
    intro hg w N hin hN
    have hll : l.length ≤ 9223372036854775807 := hg.nums.2.2.2.2.2
    have HHN := Lib.hid (fun (w1 : World) (hb : Below w.heap.size w w1) => hasn_spec (.mk k n x s a cap l) w1 N hg.1 (hin.blw hb hN) hg.2 (Nat.le_trans hN hb.size))
    have hc := fun (t : AT) (ht : t ∈ l) (w1 : World) (hb : Below w.heap.size w w1) => ih t ht (hg.sub ht) w1 N ((hin.lv.sub t ht).blw hb hN) (Nat.le_trans hN hb.size)
    have H := Lib.hid hin.lv
    have HC := Lib.hid hc
    have hok : (AT.mk k n x s a cap l).pt.fitB = (fitN (.mk k n x s a cap l) && PT.fitBL (AT.ptL l)) := fit_eq _
    have HOK := Lib.hid hok
    have HFN : Hid (fitN (.mk k n x s a cap l) = (kText k && hasN (.mk k n x s a cap l))) := Lib.hid rfl
    have HNN : Hid (k ≠ 10 → hasN (.mk k n x s a cap l) = true) := Lib.hid (fun hk => by
      have hn : (AT.mk k n x s a cap l).pt.names = [] := by show (if k = 10 then _ else []) = _; rw [if_neg hk]
      unfold hasN; rw [hn, onceV_eq]; rfl)
    generalize hasN (.mk k n x s a cap l) = hv at *
    generalize fitN (.mk k n x s a cap l) = fv at *
    clear hc ih hin hg hok
    show Calls Try.prog 75 #[.agg #[.int .i64 k, .int .i64 n, .int .i64 x, .string ⟨s.toArray⟩, .slice a l.length cap]] w _
    go_enter Try.func75, Try.ntmps75
    go_wp2
    go_loopw [3] (fun i wr => ∃ i' : Nat, i = .int .i64 i' ∧ i' ≤ l.length ∧ PT.fitBL ((AT.ptL l).take i') = true ∧ Below (w.heap.size + 1) (w.alloc (.cells #[.int .i64 k, .int .i64 n, .int .i64 x, .string ⟨s.toArray⟩, .slice a l.length cap] 26)) wr) (fun i _ => l.length - (intOf i).toNat)
    case atStart => exact ⟨0, rfl, Nat.zero_le _, by simp [PT.fitBL], Below.refl _ _⟩
    case round =>
      obtain ⟨i', rfl, hi', hsm, hb⟩ := hrel
      have hbl := hb.block w.heap.size (by omega)
      obtain ⟨f0, f1, f2, f3, f4, -⟩ := vold hbl
      have hBw : Below w.heap.size w wr := (vbox _ _).trans (hb.mono (by omega))
      have HSM := Lib.hid hsm
      have HB := Lib.hid hb
      clear hsm hb hbl
      by_cases hlt : i' < l.length
      · obtain ⟨c, o, rfl, hcN, hC⟩ := H.out.cell i' hlt
        have hC := hC.keep (hBw.block c (by omega))
        have hc := fun (w1 : World) (hb1 : Below wr.heap.size wr w1) => HC.out l[i'] (List.getElem_mem hlt) w1 (hBw.trans (hb1.mono hBw.size))
        have HCC := Lib.hid hc
        have e1 : i' < (AT.ptL l).length := by rw [AT.ptL_length]; exact hlt
        have hst := fitBL_take (AT.ptL l) i' e1
        have hst2 := fitBL_false (AT.ptL l) i' e1
        rw [ptL_get l i' hlt] at hst hst2
        obtain ⟨V, hV⟩ : ∃ V, V = l[i'] := ⟨_, rfl⟩
        rw [← hV] at hC HCC hst hst2
        have HST := Lib.hid hst
        have HST2 := Lib.hid hst2
        obtain ⟨c0, c1, c2, c3, c4⟩ := hC
        have HBw := Lib.hid hBw
        have hi0 : (0 : Int) ≤ i' := by omega
        have hi1 : (i' : Int) < l.length := by omega
        clear hV hst hst2 hc e1 hBw
        go_wp2_with fail
        refine (HCC.out _ (Below.refl _ _)).mono ?_
        rintro e w2 ⟨rfl, hb2⟩
        have HB2 := Lib.hid hb2
        have hz := HBw.out.size
        clear hb2
        cases hv1 : V.pt.fitB
        · have HV := Lib.hid hv1
          clear hv1
          go_wp2
          go_ret
          exact ⟨by rw [HOK.out, HST2.out HV.out, Bool.and_false]; rfl, HBw.out.trans (HB2.out.mono hz)⟩
        · have HV := Lib.hid hv1
          clear hv1
          go_wp2
          go_roundw
          case rel => exact ⟨i' + 1, by go_num, by omega, by rw [HST.out, HSM.out, HV.out]; rfl, HB.out.trans (HB2.out.mono (by have := HB.out.size; simp at this; omega))⟩
          case measure => simp [intOf]; omega
      · have hi2 : i' = l.length := by omega
        subst hi2
        have HBw := Lib.hid hBw
        clear hBw
        have hT : PT.fitBL (AT.ptL l) = true := by
          have := HSM.out
          rw [List.take_of_length_le (by simp)] at this
          exact this
        have HR : Hid ((AT.mk k n x s a cap l).pt.fitB = (kText k && hv)) := Lib.hid (by rw [HOK.out, hT, Bool.and_true, HFN.out])
        clear HB HSM HOK hT H HC HFN
        by_cases h1 : k = 1
        · subst h1; have hv1 := Lib.hid (HNN.out (by decide)); go_wp2; go_ret; exact ⟨by rw [HR.out, hv1.out]; rfl, HBw.out⟩
        by_cases h2 : k = 2
        · subst h2; have hv1 := Lib.hid (HNN.out (by decide)); go_wp2; go_ret; exact ⟨by rw [HR.out, hv1.out]; rfl, HBw.out⟩
        by_cases h3 : k = 3
        · subst h3; have hv1 := Lib.hid (HNN.out (by decide)); go_wp2; go_ret; exact ⟨by rw [HR.out, hv1.out]; rfl, HBw.out⟩
        by_cases h6 : k = 6
        · subst h6; have hv1 := Lib.hid (HNN.out (by decide)); go_wp2; go_ret; exact ⟨by rw [HR.out, hv1.out]; rfl, HBw.out⟩
        by_cases h7 : k = 7
        · subst h7; have hv1 := Lib.hid (HNN.out (by decide)); go_wp2; go_ret; exact ⟨by rw [HR.out, hv1.out]; rfl, HBw.out⟩
        by_cases h9 : k = 9
        · subst h9; have hv1 := Lib.hid (HNN.out (by decide)); go_wp2; go_ret; exact ⟨by rw [HR.out, hv1.out]; rfl, HBw.out⟩
        have e1 : (k == 1) = false := by simpa using h1
        have e2 : (k == 2) = false := by simpa using h2
        have e3 : (k == 3) = false := by simpa using h3
        have e6 : (k == 6) = false := by simpa using h6
        have e7 : (k == 7) = false := by simpa using h7
        have e9 : (k == 9) = false := by simpa using h9
        by_cases h10 : k = 10
        · subst h10
          clear h1 h2 h3 h6 h7 h9 HNN
          go_wp2_with fail
          refine (HHN.out _ HBw.out).mono ?_
          rintro e w3 ⟨rfl, hb3⟩
          go_wp2
          go_ret
          exact ⟨by rw [HR.out]; cases hv <;> rfl, HBw.out.trans (hb3.mono HBw.out.size)⟩
        · have e10 : (k == 10) = false := by simpa using h10
          have HK : Hid (kText k = false) := Lib.hid (by unfold kText; simp [h1, h2, h3, h6, h7, h9, h10])
          clear h1 h2 h3 h6 h7 h9 h10 HNN
          go_wp2
          go_ret
          exact ⟨by rw [HR.out, HK.out]; rfl, HBw.out⟩
theorem fits_spec (T : AT) (w : World) (N : Nat) (hg : GoodT T) (hin : T.In w N) (hN : N ≤ w.heap.size) : Calls Try.prog 35 #[T.val] w fun e w' => e = .returned (.bool (T.pt.ok && T.pt.fitB)) ∧ Below w.heap.size w w' := by
  have HV := Lib.hid (fun (w1 : World) (hb : Below w.heap.size w w1) => valok_spec T hg w1 N (hin.blw hb hN) (Nat.le_trans hN hb.size))
  have HF := Lib.hid (fun (w1 : World) (hb : Below w.heap.size w w1) => l11fits_spec T hg w1 N (hin.blw hb hN) (Nat.le_trans hN hb.size))
  clear hg hin hN
  generalize T.pt.ok = vo at *
  generalize T.pt.fitB = fo at *
  have hb0 := vbox w (.cells #[.int .i64 T.k, .int .i64 T.n, .int .i64 T.x, .string ⟨T.s.toArray⟩, .slice T.a T.l.length T.cap] 26)
  show Calls Try.prog 35 #[.agg #[.int .i64 T.k, .int .i64 T.n, .int .i64 T.x, .string ⟨T.s.toArray⟩, .slice T.a T.l.length T.cap]] w _
  go_enter Try.func35, Try.ntmps35
  go_wp2_with fail
  refine (HV.out _ hb0).mono ?_
  rintro e w1 ⟨rfl, hb1⟩
  obtain ⟨c0, c1, c2, c3, c4⟩ := box5 w T.k T.n T.x ⟨T.s.toArray⟩ T.a T.l.length T.cap 26 (by simpa using hb1)
  have HB1 := Lib.hid (hb0.trans (hb1.mono hb0.size))
  clear hb1 hb0
  cases vo with
  | false =>
    go_wp2
    go_ret
    exact ⟨rfl, HB1.out⟩
  | true =>
    go_wp2_with fail
    refine (HF.out _ HB1.out).mono ?_
    rintro e w2 ⟨rfl, hb2⟩
    go_wp2
    go_ret
    exact ⟨rfl, HB1.out.trans (hb2.mono HB1.out.size)⟩
end Go.Proofs.Ytnikcgmbkmbloaa
