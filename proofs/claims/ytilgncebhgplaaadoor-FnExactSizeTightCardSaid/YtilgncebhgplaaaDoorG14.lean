import Derived.Test.YtilgncebhgplaaaDoorG6
import Derived.Test.YtilgncebhgplaaaDoorG10
import Derived.Test.YtilgncebhgplaaaDoorG9
import Derived.Test.YtilgncebhgplaaaDoorG13
import Derived.Test.YtilgncebhgplaaaDoorG2
import Derived.Test.YtilgncebhgplaaaDoorG3
import Derived.Deep.RegionHeld3
/- PackTight of the model: the bytes of a tree in a row of one's own. -/
namespace Go.Proofs.YtilgncebhgplaaaDoor
open Go.RowKit
set_option maxRecDepth 100000
theorem tightL_take (l : List PT) (i : Nat) (h : i < l.length) : PT.tightL hdFor (l.take (i + 1)) = PT.tightL hdFor (l.take i) ++ (l[i]).tight hdFor := by
  induction l generalizing i with
  | nil => simp at h
  | cons t l ih =>
    cases i with
    | zero => simp [PT.tightL]
    | succ i =>
      have := ih i (by simpa using h)
      simp only [List.take_succ_cons, PT.tightL, List.getElem_cons_succ, this, List.append_assoc]
theorem tightL_take_le (l : List PT) (i : Nat) : (PT.tightL hdFor (l.take i)).length ≤ (PT.tightL hdFor l).length := by
  induction l generalizing i with
  | nil => simp [PT.tightL]
  | cons t l ih =>
    cases i with
    | zero => simp [PT.tightL]
    | succ i =>
      have := ih i
      simp only [List.take_succ_cons, PT.tightL, List.length_append]
      omega
theorem l13all_any (a : Option Addr) (cap : Nat) (l : List AT) (w : World) (B N : Nat) (H : Lv w N a cap l) (hN : N ≤ B) (hB : B ≤ w.heap.size) (hll : l.length ≤ 1048576)
    (HC : ∀ t ∈ l, ∀ w1, Below B w w1 → Calls Tryd.prog 14 #[t.val] w1 (Fresh w1 (t.pt.tight hdFor))) (v : Value) (b : List UInt8) (hv : Row w B v b) (hsz : b.length + (PT.tightL hdFor (AT.ptL l)).length ≤ 1099511627776) :
    Calls Tryd.prog 41 #[v, .slice a l.length cap] w fun e w' => ∃ v', e = .returned v' ∧ Row w' B v' (b ++ PT.tightL hdFor (AT.ptL l)) ∧ Below B w w' := by
  have HH := Lib.hid H
  have HHC := Lib.hid HC
  have HV := Lib.hid hv
  have HZ := Lib.hid hsz
  obtain ⟨g0, c0, rfl, _⟩ := hv.shape
  clear H HC hv hsz
  go_enter Tryd.func41, Tryd.ntmps41
  go_wp2
  go_loopw [0, 5] (fun u i wr => ∃ (i' n g c : Nat), u = .slice (some ⟨g, 0, none⟩) n c ∧ i = .int .i64 i' ∧ i' ≤ l.length ∧ Hid (n = (b ++ PT.tightL hdFor ((AT.ptL l).take i')).length ∧ Row wr B u (b ++ PT.tightL hdFor ((AT.ptL l).take i'))) ∧ Below B w wr) (fun _ i _ => l.length - (intOf i).toNat)
  case atStart => exact ⟨0, _, _, _, rfl, rfl, Nat.zero_le _, Lib.hid ⟨by simp [PT.tightL], by simpa [PT.tightL] using HV.out⟩, Below.refl _ _⟩
  case round =>
    obtain ⟨i', n, g, c, rfl, rfl, hi', HR, hb⟩ := hrel
    have HB := Lib.hid hb
    by_cases hlt : i' < l.length
    · obtain ⟨bb, o, rfl, hbN, hC⟩ := HH.out.cell i' hlt
      have hC := hC.keep (hb.block bb (by omega))
      have hc := HHC.out l[i'] (List.getElem_mem hlt) wr hb
      have hst := tightL_take (AT.ptL l) i' (by rw [AT.ptL_length]; exact hlt)
      rw [ptL_get l i' hlt] at hst
      have hle := tightL_take_le (AT.ptL l) (i' + 1)
      rw [hst] at hle
      rw [List.length_append] at hle
      have HST := Lib.hid hst
      have hzz := HZ.out
      have HLE := Lib.hid (show (b ++ PT.tightL hdFor ((AT.ptL l).take i')).length + ((l[i']).pt.tight hdFor).length ≤ 1099511627776 by rw [List.length_append]; omega)
      obtain ⟨T, hT⟩ : ∃ T, T = l[i'] := ⟨_, rfl⟩
      rw [← hT] at hC hc HST HLE
      have HCC := Lib.hid hc
      obtain ⟨c0, c1, c2, c3, c4⟩ := hC
      clear hT hst hc hle hzz hb
      go_wp2_with fail
      refine (HCC.out).mono ?_
      intro e w2 hpost
      obtain ⟨u, rfl, hu, hb2⟩ := fresh_row hpost
      have hb02 := HB.out.trans (hb2.mono (Nat.le_trans hB HB.out.size))
      obtain ⟨hn, hrow⟩ := HR.out
      have hrow2 := hrow.blw hb2
      obtain ⟨v3, w3, hrun, ho3, hg3⟩ := append_slc w2 B _ u _ _ 33 hrow2.2 (slc_sl hu.sl) HLE.out (Nat.le_trans hB hb02.size)
      have hrow3 := hg3.row hrow2.1 hrow2.2 ho3
      have hb03 := hb02.trans (hg3.blw (Nat.le_trans hB hb02.size) hrow2.2)
      rw [List.append_assoc, ← HST.out] at hrow3
      obtain ⟨g3, c3, e3, _⟩ := hrow3.shape
      obtain ⟨n3, hn3⟩ : ∃ n3, n3 = (b ++ PT.tightL hdFor ((AT.ptL l).take (i' + 1))).length := ⟨_, rfl⟩
      rw [← hn3] at e3
      have HN3 := Lib.hid hn3
      clear hn3
      subst e3
      obtain ⟨gu, cu, eu, _⟩ := hu.shape
      obtain ⟨nu, hnu⟩ : ∃ nu, nu = (T.pt.tight hdFor).length := ⟨_, rfl⟩
      rw [← hnu] at eu
      subst eu
      have HR3 := Lib.hid hrow3
      have HB3 := Lib.hid hb03
      have HRUN := Lib.hid hrun
      clear hpost hu hb2 hb02 hrow hrow2 ho3 hg3 hrow3 hb03 hrun hn hnu
      go_wp2_with (refine wpList_append_run rfl _ _ _ _ rfl HRUN.out ?_)
      go_roundw
      case rel => exact ⟨i' + 1, _, _, _, rfl, by go_num, by omega, Lib.hid ⟨HN3.out, HR3.out⟩, HB3.out⟩
      case measure => simp [intOf]; omega
    · obtain rfl : i' = l.length := by omega
      have hr := HR.out
      rw [List.take_of_length_le (by rw [AT.ptL_length]; exact Nat.le_refl _)] at hr
      have HRR := Lib.hid hr
      clear hb hr HR
      go_wp2
      go_ret
      exact ⟨_, rfl, HRR.out.2, HB.out⟩

theorem hd1_1 (n x : Int) (s : List UInt8) (len : Nat) : hd1 1 n x s len = hdB ⟨7, 22, 0⟩ := by simp [hd1]
theorem hd1_2 (n x : Int) (s : List UInt8) (len : Nat) : hd1 2 n x s len = hdB ⟨7, if n = 1 then 21 else 20, 0⟩ := by simp [hd1]
theorem hd1_3 (n x : Int) (s : List UInt8) (len : Nat) : hd1 3 n x s len = if -1000000000000000 ≤ n ∧ n ≤ 1000000000000000 then hdB (if n < 0 then hdFor 1 (-1 - n) else hdFor 0 n) else [] := by simp [hd1]
theorem hd1_4 (n x : Int) (s : List UInt8) (len : Nat) : hd1 4 n x s len = hdB ⟨7, fltBits n x, 4⟩ := by simp [hd1]
theorem hd1_5 (n x : Int) (s : List UInt8) (len : Nat) : hd1 5 n x s len = if 0 ≤ n ∧ n ≤ 2 then hdB ⟨7, 32 + n, 1⟩ else [] := by simp [hd1]
theorem hd1_7 (n x : Int) (s : List UInt8) (len : Nat) : hd1 7 n x s len = hdB (hdFor 3 s.length) ++ s := by simp [hd1]
theorem hd1_8 (n x : Int) (s : List UInt8) (len : Nat) : hd1 8 n x s len = hdB (hdFor 2 s.length) ++ s := by simp [hd1]
theorem hd1_9 (n x : Int) (s : List UInt8) (len : Nat) : hd1 9 n x s len = hdB (hdFor 4 len) := by simp [hd1]
theorem hd1_10 (n x : Int) (s : List UInt8) (len : Nat) : hd1 10 n x s len = hdB (hdFor 5 (len / 2 : Nat)) := by simp [hd1]
theorem hd1_11 (n x : Int) (s : List UInt8) (len : Nat) : hd1 11 n x s len = if 0 ≤ n ∧ n ≤ 1000000000000000 then hdB (hdFor 6 n) else [] := by simp [hd1]
theorem hd1_no {k n x : Int} {s : List UInt8} {len : Nat} (h : (k < 1 ∨ 11 < k) ∨ k = 6) : hd1 k n x s len = [] := by
  unfold hd1
  rw [if_neg (by omega)]; rw [if_neg (by omega)]; rw [if_neg (by omega)]; rw [if_neg (by omega)]; rw [if_neg (by omega)]; rw [if_neg (by omega)]; rw [if_neg (by omega)]; rw [if_neg (by omega)]; rw [if_neg (by omega)]; rw [if_neg (by omega)]
theorem kinds (k : Int) : ((k < 1 ∨ 11 < k) ∨ k = 6) ∨ k = 1 ∨ k = 2 ∨ k = 3 ∨ k = 4 ∨ k = 5 ∨ k = 7 ∨ k = 8 ∨ k = 9 ∨ k = 10 ∨ k = 11 := by omega

/-- a head's bytes behind no bytes -/
theorem puthead_none (h : Hd) (W : World) (b cap : Nat) : Calls Tryd.prog 37 #[.slice (some ⟨b, 0, none⟩) 0 cap, .agg #[.int .i64 h.k, .int .i64 h.n, .int .i64 h.w]] W fun e w' => ∃ v, e = .returned v ∧ Row w' W.heap.size v (hdB h) ∧ Below W.heap.size W w' :=
  (puthead_spec W (.slice (some ⟨b, 0, none⟩) 0 cap) [] h ⟨b, 0, cap, rfl, fun j u hu => by simp [bv] at hu⟩ (by simp)).mono fun e w' hp => fresh_row (by simpa using hp)
theorem row_empty (w : World) : Row (w.alloc (.cells #[] 5)) w.heap.size (.slice (some ⟨w.heap.size, 0, none⟩) 0 0) [] :=
  ⟨fun e => (by cases e), by simpa [bv] using World.ownsRow_made (e := 5) (size := 1) w #[] 0 (Nat.le_refl _) (by decide) rfl⟩
theorem row_fresh {w W : World} {v : Value} {E R : List UInt8} (h : Row W w.heap.size v E) (hb : Below w.heap.size w W) (e : R = E) : Fresh w R (.returned v) W := by
  subst e
  exact ⟨v, rfl, h.1, h.2, hb⟩
set_option maxHeartbeats 4000000 in
theorem packtight_spec (T : AT) : T.pt.Wf → T.pt.sz ≤ 1048576 → ∀ (w : World) (N : Nat), T.In w N → N ≤ w.heap.size → Calls Tryd.prog 14 #[T.val] w (Fresh w (T.pt.tight hdFor)) := by
  induction T using AT.ind with
  | h k n x s a cap l ih =>
    intro hwf hsz w N hin hN
    have e1 : (AT.mk k n x s a cap l).pt.sz = s.length + (l.length + PT.szL (AT.ptL l)) := by simp [AT.pt, PT.sz]
    have hll : l.length ≤ 1048576 := by omega
    have hsl : s.length ≤ 1048576 := by omega
    have hr : inW n ∧ inW x := by
      cases hwf with
      | mk _ h2 h3 _ _ _ => exact ⟨h2, h3⟩
    obtain ⟨hnw, hxw⟩ := hr
    have htl := tightL_le (AT.ptL l) (fun t _ => tight_le t)
    rw [AT.ptL_length] at htl
    have e2 : (AT.mk k n x s a cap l).pt.tight hdFor = hd1 k n x s l.length ++ (if opn1 k n = true then PT.tightL hdFor (AT.ptL l) else []) := by
      have := tight_split k n x s (AT.ptL l)
      rw [AT.ptL_length] at this
      exact this
    have hc := fun (t : AT) (ht : t ∈ l) (w1 : World) (hb : Below w.heap.size w w1) => ih t ht (hwf.sub' t.pt (by rw [AT.ptL_eq]; exact List.mem_map_of_mem ht)) (by have := szL_ge ht; omega) w1 N (((hin.lv.sub t ht).blw hb hN)) (Nat.le_trans hN hb.size)
    have HALL := Lib.hid (fun (W : World) (B : Nat) (hwB : w.heap.size ≤ B) (hb : Below w.heap.size w W) (hB : B ≤ W.heap.size) (v : Value) (b : List UInt8) (hv : Row W B v b) (hb9 : b.length ≤ 9) =>
      l13all_any a cap l W B N (hin.blw hb hN).lv (Nat.le_trans hN hwB) hB hll (fun t ht w1 h1 => hc t ht w1 (hb.trans (h1.mono hwB))) v b hv (by omega))
    obtain ⟨R, hR⟩ : ∃ R, R = (AT.mk k n x s a cap l).pt.tight hdFor := ⟨_, rfl⟩
    rw [← hR]
    rw [e2] at hR
    have HR := Lib.hid hR
    clear hR hc ih hin hwf e1 e2 hsz htl hN
    show Calls Tryd.prog 14 #[.agg #[.int .i64 k, .int .i64 n, .int .i64 x, .string ⟨s.toArray⟩, .slice a l.length cap]] w _
    obtain ⟨S, hS⟩ : ∃ S : ByteArray, S = ⟨s.toArray⟩ := ⟨_, rfl⟩
    rw [← hS]
    have HS0 := Lib.hid hS
    clear hS
    go_enter Tryd.func14, Tryd.ntmps14
    (go_upto_region 2 with fail)
    have hvb := vbox w (.cells #[.int .i64 k, .int .i64 n, .int .i64 x, .string S, .slice a l.length cap] 29)
    have hre := (row_empty (w.alloc (.cells #[.int .i64 k, .int .i64 n, .int .i64 x, .string S, .slice a l.length cap] 29))).base (B' := w.heap.size) (by simp)
    have hb2 : Below w.heap.size w ((w.alloc (.cells #[.int .i64 k, .int .i64 n, .int .i64 x, .string S, .slice a l.length cap] 29)).alloc (.cells #[] 5)) := ((Below.refl _ _).alloc (Nat.le_refl _) _).alloc (by simp) _
    have hbc : CellsAt ((w.alloc (.cells #[.int .i64 k, .int .i64 n, .int .i64 x, .string S, .slice a l.length cap] 29)).alloc (.cells #[] 5)) w.heap.size 0 (.mk k n x s a cap l) := by
      rw [HS0.out]
      refine ⟨?_, ?_, ?_, ?_, ?_⟩ <;> simp [go_sem, AT.k, AT.n, AT.x, AT.s, AT.a, AT.l, AT.cap]
    rw [show (w.alloc (.cells #[.int .i64 k, .int .i64 n, .int .i64 x, .string S, .slice a l.length cap] 29)).heap.size = w.heap.size + 1 by simp] at hre
    generalize ((w.alloc (.cells #[.int .i64 k, .int .i64 n, .int .i64 x, .string S, .slice a l.length cap] 29)).alloc (.cells #[] 5)) = W at *
    have HB2 := Lib.hid hb2
    have HRE := Lib.hid hre
    have HBC := Lib.hid hbc
    clear hvb hb2 hre hbc
    have hin := fun (v lo hi : Int) (h : lo ≤ v) (h' : v ≤ hi) => in_yes v lo hi
    clear hin
    rcases kinds k with hk | rfl | rfl | rfl | rfl | rfl | rfl | rfl | rfl | rfl | rfl
    · obtain ⟨c0, c1, c2, c3, c4⟩ := HBC.out
      simp only [AT.k, AT.n, AT.x, AT.s, AT.a, AT.l, AT.cap] at c0 c1 c2 c3 c4
      have q1 : (k == 1) = false := by rw [beq_eq_false_iff_ne]; omega
      have q2 : (k == 2) = false := by rw [beq_eq_false_iff_ne]; omega
      have q3 : (k == 3) = false := by rw [beq_eq_false_iff_ne]; omega
      have q4 : (k == 4) = false := by rw [beq_eq_false_iff_ne]; omega
      have q5 : (k == 5) = false := by rw [beq_eq_false_iff_ne]; omega
      have q7 : (k == 7) = false := by rw [beq_eq_false_iff_ne]; omega
      have q8 : (k == 8) = false := by rw [beq_eq_false_iff_ne]; omega
      have q9 : (k == 9) = false := by rw [beq_eq_false_iff_ne]; omega
      have q10 : (k == 10) = false := by rw [beq_eq_false_iff_ne]; omega
      have q11 : (k == 11) = false := by rw [beq_eq_false_iff_ne]; omega
      have HF := Lib.hid (row_fresh HRE.out HB2.out (show R = [] by rw [HR.out, hd1_no hk, opn1_no (by omega) (by omega) (by omega)]; rfl))
      clear hk
      go_wp2
      go_ret
      exact HF.out
    · obtain ⟨c0, c1, c2, c3, c4⟩ := HBC.out
      simp only [AT.k, AT.n, AT.x, AT.s, AT.a, AT.l, AT.cap] at c0 c1 c2 c3 c4
      go_wp2_with fail
      refine (puthead_none ⟨7, 22, 0⟩ _ _ _).mono ?_
      rintro e w1 ⟨v, rfl, hv, hb⟩
      have HF := Lib.hid (row_fresh (hv.base HB2.out.size) (HB2.out.trans (hb.mono HB2.out.size)) (show R = _ by rw [HR.out, hd1_1, opn1_no (by decide) (by decide) (by decide)]; simp))
      clear hv hb
      go_wp2
      go_ret
      exact HF.out
    · obtain ⟨c0, c1, c2, c3, c4⟩ := HBC.out
      simp only [AT.k, AT.n, AT.x, AT.s, AT.a, AT.l, AT.cap] at c0 c1 c2 c3 c4
      by_cases hn1 : n = 1
      · subst hn1
        go_wp2_with fail
        refine (puthead_none ⟨7, 21, 0⟩ _ _ _).mono ?_
        rintro e w1 ⟨v, rfl, hv, hb⟩
        have HF := Lib.hid (row_fresh (hv.base HB2.out.size) (HB2.out.trans (hb.mono HB2.out.size)) (show R = _ by rw [HR.out, hd1_2, opn1_no (by decide) (by decide) (by decide)]; simp))
        clear hv hb
        go_wp2
        go_ret
        exact HF.out
      · have q : (n == 1) = false := by rw [beq_eq_false_iff_ne]; exact hn1
        have HN1 := Lib.hid hn1
        clear hn1
        go_wp2_with fail
        refine (puthead_none ⟨7, 20, 0⟩ _ _ _).mono ?_
        rintro e w1 ⟨v, rfl, hv, hb⟩
        have HF := Lib.hid (row_fresh (hv.base HB2.out.size) (HB2.out.trans (hb.mono HB2.out.size)) (show R = _ by rw [HR.out, hd1_2, if_neg HN1.out, opn1_no (by decide) (by decide) (by decide)]; simp))
        clear hv hb
        go_wp2
        go_ret
        exact HF.out
    · obtain ⟨c0, c1, c2, c3, c4⟩ := HBC.out
      simp only [AT.k, AT.n, AT.x, AT.s, AT.a, AT.l, AT.cap] at c0 c1 c2 c3 c4
      by_cases hr : -1000000000000000 ≤ n ∧ n ≤ 1000000000000000
      · have hr2 := hr
        obtain ⟨r1, r2⟩ := hr2
        have ci := fun W => in_yes n (-1000000000000000) 1000000000000000 W r1 r2
        have HRR := Lib.hid hr
        clear hr
        by_cases hn0 : n < 0
        · have HN := Lib.hid hn0
          have hw1 : IntKind.i64.wrap (-1 - n) = -1 - n := IntWalk.i64_in _ (by omega)
          obtain ⟨hh, ehh⟩ : ∃ hh, hh = hdFor 1 (-1 - n) := ⟨_, rfl⟩
          have ch := fun W => headfor_spec 1 (-1 - n) W
          rw [← ehh] at ch
          have EH := Lib.hid ehh
          clear ehh
          go_wp2_with (go_at_call 38; refine (ci _).mono ?_; rintro e w' ⟨rfl, rfl⟩)
          refine (ch _).mono ?_
          rintro e w0 ⟨rfl, hb0⟩
          clear ch ci
          go_wp2_with fail
          refine (puthead_none hh _ _ _).mono ?_
          rintro e w1 ⟨v, rfl, hv, hb⟩
          have hb1 := hb0.trans (hb.mono hb0.size)
          have HF := Lib.hid (row_fresh (hv.base (Nat.le_trans HB2.out.size hb0.size)) (HB2.out.trans (hb1.mono HB2.out.size)) (show R = _ by rw [HR.out, hd1_3, if_pos HRR.out, if_pos HN.out, EH.out, opn1_no (by decide) (by decide) (by decide)]; simp))
          clear hv hb hb0 hb1
          go_wp2
          go_ret
          exact HF.out
        · have HN := Lib.hid hn0
          obtain ⟨hh, ehh⟩ : ∃ hh, hh = hdFor 0 n := ⟨_, rfl⟩
          have ch := fun W => headfor_spec 0 n W
          rw [← ehh] at ch
          have EH := Lib.hid ehh
          clear ehh
          go_wp2_with (go_at_call 38; refine (ci _).mono ?_; rintro e w' ⟨rfl, rfl⟩)
          refine (ch _).mono ?_
          rintro e w0 ⟨rfl, hb0⟩
          clear ch ci
          go_wp2_with fail
          refine (puthead_none hh _ _ _).mono ?_
          rintro e w1 ⟨v, rfl, hv, hb⟩
          have hb1 := hb0.trans (hb.mono hb0.size)
          have HF := Lib.hid (row_fresh (hv.base (Nat.le_trans HB2.out.size hb0.size)) (HB2.out.trans (hb1.mono HB2.out.size)) (show R = _ by rw [HR.out, hd1_3, if_pos HRR.out, if_neg (Int.not_lt.2 HN.out), EH.out, opn1_no (by decide) (by decide) (by decide)]; simp))
          clear hv hb hb0 hb1
          go_wp2
          go_ret
          exact HF.out
      · have ci := fun W => in_no n (-1000000000000000) 1000000000000000 W (by omega)
        have HF := Lib.hid (row_fresh HRE.out HB2.out (show R = [] by rw [HR.out, hd1_3, if_neg hr, opn1_no (by decide) (by decide) (by decide)]; rfl))
        clear hr
        go_wp2_with (go_at_call 38; refine (ci _).mono ?_; rintro e w' ⟨rfl, rfl⟩)
        go_ret
        exact HF.out
    · obtain ⟨c0, c1, c2, c3, c4⟩ := HBC.out
      simp only [AT.k, AT.n, AT.x, AT.s, AT.a, AT.l, AT.cap] at c0 c1 c2 c3 c4
      have cf := fun W => fltbits_spec n x W hnw hxw
      go_wp2_with fail
      refine (cf _).mono ?_
      rintro e w0 ⟨rfl, hb0⟩
      clear cf
      go_wp2_with fail
      refine (puthead_none ⟨7, fltBits n x, 4⟩ _ _ _).mono ?_
      rintro e w1 ⟨v, rfl, hv, hb⟩
      have hb1 := hb0.trans (hb.mono hb0.size)
      have HF := Lib.hid (row_fresh (hv.base (Nat.le_trans HB2.out.size hb0.size)) (HB2.out.trans (hb1.mono HB2.out.size)) (show R = _ by rw [HR.out, hd1_4, opn1_no (by decide) (by decide) (by decide)]; simp))
      clear hv hb hb0 hb1
      go_wp2
      go_ret
      exact HF.out
    · obtain ⟨c0, c1, c2, c3, c4⟩ := HBC.out
      simp only [AT.k, AT.n, AT.x, AT.s, AT.a, AT.l, AT.cap] at c0 c1 c2 c3 c4
      by_cases hr : 0 ≤ n ∧ n ≤ 2
      · have hr2 := hr
        obtain ⟨r1, r2⟩ := hr2
        have ci := fun W => in_yes n 0 2 W r1 r2
        have HRR := Lib.hid hr
        have hw1 : IntKind.i64.wrap (32 + n) = 32 + n := IntWalk.i64_in _ (by omega)
        clear hr
        go_wp2_with (go_at_call 38; refine (ci _).mono ?_; rintro e w' ⟨rfl, rfl⟩)
        refine (puthead_none ⟨7, 32 + n, 1⟩ _ _ _).mono ?_
        rintro e w1 ⟨v, rfl, hv, hb⟩
        have HF := Lib.hid (row_fresh (hv.base HB2.out.size) (HB2.out.trans (hb.mono HB2.out.size)) (show R = _ by rw [HR.out, hd1_5, if_pos HRR.out, opn1_no (by decide) (by decide) (by decide)]; simp))
        clear hv hb
        go_wp2
        go_ret
        exact HF.out
      · have ci := fun W => in_no n 0 2 W (by omega)
        have HF := Lib.hid (row_fresh HRE.out HB2.out (show R = [] by rw [HR.out, hd1_5, if_neg hr, opn1_no (by decide) (by decide) (by decide)]; rfl))
        clear hr
        go_wp2_with (go_at_call 38; refine (ci _).mono ?_; rintro e w' ⟨rfl, rfl⟩)
        go_ret
        exact HF.out
    · obtain ⟨c0, c1, c2, c3, c4⟩ := HBC.out
      simp only [AT.k, AT.n, AT.x, AT.s, AT.a, AT.l, AT.cap] at c0 c1 c2 c3 c4
      rw [Nat.zero_add] at c3
      obtain ⟨hh, ehh⟩ : ∃ hh, hh = hdFor 3 s.length := ⟨_, rfl⟩
      have h9 : (hdB hh).length ≤ 9 := by rw [ehh]; exact hdFor_le _ _
      have hsS : S.size = s.length := by rw [HS0.out]; simp [ByteArray.size]
      have ch := fun W => headfor_spec 3 s.length W
      rw [← ehh] at ch
      have CH := Lib.hid ch
      have CP := Lib.hid (fun (W : World) (b cap : Nat) => puthead_none hh W b cap)
      have EH := Lib.hid ehh
      rw [← HS0.out] at c3
      have HSS := Lib.hid (fun (W' : World) (hb : Below W.heap.size W W') => (⟨hb, keep_below hb c3⟩ : Below W.heap.size W W' ∧ W'.cell? ⟨w.heap.size, 3, none⟩ = some (.string S)))
      have hbr := Below.refl W.heap.size W
      have hw1 : w.heap.size ≤ W.heap.size := HB2.out.size
      obtain ⟨ne, hne⟩ : ∃ ne, ne = (hdB hh ++ s).length := ⟨_, rfl⟩
      have HNE := Lib.hid hne
      clear hne
      clear ehh ch c1 c2 c4
      go_wp2_with fail
      go_region_held3 (fun W' => Below W.heap.size W W' ∧ W'.cell? ⟨w.heap.size, 3, none⟩ = some (.string S)) ((refine HSS.out _ ?_; first | with_reducible assumption | with_reducible exact Below.drew (by with_reducible assumption))) ((first | (go_at_call 39; go_split_ands; refine (CH.out _).mono ?_; rintro e wa ⟨rfl, ba⟩; have bba := below_grow (by with_reducible assumption) ba) | (go_at_call 37; go_split_ands; refine (CP.out _ _ _).mono ?_; rintro e wb ⟨vb, rfl, rb0, bb⟩; have bbb := below_grow (by with_reducible assumption) bb; have rb := rb0.base ((by with_reducible assumption : Below W.heap.size W _).size); clear rb0; obtain ⟨gb, cb, rfl, _⟩ := rb.shape) | (refine step_append_strR (by rfl) _ _ (by rfl) W.heap.size _ (hdB hh) s (by rfl) (by rw [← HS0.out]; rfl) (by first | with_reducible assumption | assumption | exact Row.drew (by with_reducible assumption) | exact Row.drew (by assumption)) (by omega) ((by with_reducible assumption : Below W.heap.size W _).size) ne HNE.out ?_; intro g9 c9 w9 r9 b9 _; have bb9 := (by first | with_reducible assumption | with_reducible exact Below.drew (by with_reducible assumption) : Below W.heap.size W _).trans b9)))
      all_goals
        have HF := Lib.hid (row_fresh (r9.base hw1) (HB2.out.trans (bb9.mono hw1)) (show R = hdB hh ++ s by rw [HR.out, hd1_7, EH.out, opn1_no (by decide) (by decide) (by decide)]; simp))
        clear r9 b9 bb9
        go_wp2
        go_ret
        exact HF.out
    · obtain ⟨c0, c1, c2, c3, c4⟩ := HBC.out
      simp only [AT.k, AT.n, AT.x, AT.s, AT.a, AT.l, AT.cap] at c0 c1 c2 c3 c4
      rw [Nat.zero_add] at c3
      obtain ⟨hh, ehh⟩ : ∃ hh, hh = hdFor 2 s.length := ⟨_, rfl⟩
      have h9 : (hdB hh).length ≤ 9 := by rw [ehh]; exact hdFor_le _ _
      have hsS : S.size = s.length := by rw [HS0.out]; simp [ByteArray.size]
      have ch := fun W => headfor_spec 2 s.length W
      rw [← ehh] at ch
      have CH := Lib.hid ch
      have CP := Lib.hid (fun (W : World) (b cap : Nat) => puthead_none hh W b cap)
      have EH := Lib.hid ehh
      rw [← HS0.out] at c3
      have HSS := Lib.hid (fun (W' : World) (hb : Below W.heap.size W W') => (⟨hb, keep_below hb c3⟩ : Below W.heap.size W W' ∧ W'.cell? ⟨w.heap.size, 3, none⟩ = some (.string S)))
      have hbr := Below.refl W.heap.size W
      have hw1 : w.heap.size ≤ W.heap.size := HB2.out.size
      obtain ⟨ne, hne⟩ : ∃ ne, ne = (hdB hh ++ s).length := ⟨_, rfl⟩
      have HNE := Lib.hid hne
      clear hne
      clear ehh ch c1 c2 c4
      go_wp2_with fail
      go_region_held3 (fun W' => Below W.heap.size W W' ∧ W'.cell? ⟨w.heap.size, 3, none⟩ = some (.string S)) ((refine HSS.out _ ?_; first | with_reducible assumption | with_reducible exact Below.drew (by with_reducible assumption))) ((first | (go_at_call 39; go_split_ands; refine (CH.out _).mono ?_; rintro e wa ⟨rfl, ba⟩; have bba := below_grow (by with_reducible assumption) ba) | (go_at_call 37; go_split_ands; refine (CP.out _ _ _).mono ?_; rintro e wb ⟨vb, rfl, rb0, bb⟩; have bbb := below_grow (by with_reducible assumption) bb; have rb := rb0.base ((by with_reducible assumption : Below W.heap.size W _).size); clear rb0; obtain ⟨gb, cb, rfl, _⟩ := rb.shape) | (refine step_append_strR (by rfl) _ _ (by rfl) W.heap.size _ (hdB hh) s (by rfl) (by rw [← HS0.out]; rfl) (by first | with_reducible assumption | assumption | exact Row.drew (by with_reducible assumption) | exact Row.drew (by assumption)) (by omega) ((by with_reducible assumption : Below W.heap.size W _).size) ne HNE.out ?_; intro g9 c9 w9 r9 b9 _; have bb9 := (by first | with_reducible assumption | with_reducible exact Below.drew (by with_reducible assumption) : Below W.heap.size W _).trans b9)))
      all_goals
        have HF := Lib.hid (row_fresh (r9.base hw1) (HB2.out.trans (bb9.mono hw1)) (show R = hdB hh ++ s by rw [HR.out, hd1_8, EH.out, opn1_no (by decide) (by decide) (by decide)]; simp))
        clear r9 b9 bb9
        go_wp2
        go_ret
        exact HF.out
    · obtain ⟨c0, c1, c2, c3, c4⟩ := HBC.out
      simp only [AT.k, AT.n, AT.x, AT.s, AT.a, AT.l, AT.cap] at c0 c1 c2 c3 c4
      rw [Nat.zero_add] at c4
      obtain ⟨hh, ehh⟩ : ∃ hh, hh = hdFor 4 l.length := ⟨_, rfl⟩
      have h9 : (hdB hh).length ≤ 9 := by rw [ehh]; exact hdFor_le _ _
      have ch := fun W => headfor_spec 4 l.length W
      rw [← ehh] at ch
      have CH := Lib.hid ch
      have CP := Lib.hid (fun (W : World) (b cap : Nat) => puthead_none hh W b cap)
      have EH := Lib.hid ehh
      have HSS := Lib.hid (fun (W' : World) (hb : Below W.heap.size W W') => (⟨hb, keep_below hb c4⟩ : Below W.heap.size W W' ∧ W'.cell? ⟨w.heap.size, 4, none⟩ = some (.slice a l.length cap)))
      have hbr := Below.refl W.heap.size W
      have hw1 : w.heap.size ≤ W.heap.size := HB2.out.size
      have HALL2 := Lib.hid (fun (W' : World) (hb : Below W.heap.size W W') (v : Value) (hv : Row W' W.heap.size v (hdB hh)) => HALL.out W' W.heap.size hw1 (HB2.out.trans (hb.mono hw1)) hb.size v (hdB hh) hv h9)
      clear ehh ch c1 c2 c3 h9
      go_wp2_with fail
      go_region_held3 (fun W' => Below W.heap.size W W' ∧ W'.cell? ⟨w.heap.size, 4, none⟩ = some (.slice a l.length cap)) ((refine HSS.out _ ?_; first | with_reducible assumption | with_reducible exact Below.drew (by with_reducible assumption))) ((first | (go_at_call 39; go_split_ands; refine (CH.out _).mono ?_; rintro e wa ⟨rfl, ba⟩; have bba := below_grow (by with_reducible assumption) ba) | (go_at_call 37; go_split_ands; refine (CP.out _ _ _).mono ?_; rintro e wb ⟨vb, rfl, rb0, bb⟩; have bbb := below_grow (by with_reducible assumption) bb; have rb := rb0.base ((by with_reducible assumption : Below W.heap.size W _).size); clear rb0) | (go_at_call 41; go_split_ands; refine (HALL2.out _ (by first | with_reducible assumption | with_reducible exact Below.drew (by with_reducible assumption)) _ (by first | with_reducible assumption | with_reducible exact Row.drew (by with_reducible assumption))).mono ?_; rintro e w9 ⟨v9, rfl, r9, b9⟩; have bb9 := (by first | with_reducible assumption | with_reducible exact Below.drew (by with_reducible assumption) : Below W.heap.size W _).trans b9)))
      all_goals
        have HF := Lib.hid (row_fresh (r9.base hw1) (HB2.out.trans (bb9.mono hw1)) (show R = hdB hh ++ PT.tightL hdFor (AT.ptL l) by rw [HR.out, hd1_9, EH.out, opn1_9]; simp))
        clear r9 b9 bb9
        go_wp2
        go_ret
        exact HF.out
    · obtain ⟨c0, c1, c2, c3, c4⟩ := HBC.out
      simp only [AT.k, AT.n, AT.x, AT.s, AT.a, AT.l, AT.cap] at c0 c1 c2 c3 c4
      rw [Nat.zero_add] at c4
      obtain ⟨h2, eh2⟩ : ∃ h2, h2 = l.length / 2 := ⟨_, rfl⟩
      have w64 : wrap64 ((l.length : Int) / 2) = (h2 : Int) := by unfold wrap64; omega
      have w65 : IntKind.i64.wrap ((l.length : Int) / 2) = (h2 : Int) := by rw [IntKind.wrap_i64]; omega
      have EH2 := Lib.hid eh2
      clear eh2
      obtain ⟨hh, ehh⟩ : ∃ hh, hh = hdFor 5 (h2 : Int) := ⟨_, rfl⟩
      have h9 : (hdB hh).length ≤ 9 := by rw [ehh]; exact hdFor_le _ _
      have ch := fun W => headfor_spec 5 (h2 : Int) W
      rw [← ehh] at ch
      have CH := Lib.hid ch
      have CP := Lib.hid (fun (W : World) (b cap : Nat) => puthead_none hh W b cap)
      have EH := Lib.hid ehh
      have HSS := Lib.hid (fun (W' : World) (hb : Below W.heap.size W W') => (⟨hb, keep_below hb c4⟩ : Below W.heap.size W W' ∧ W'.cell? ⟨w.heap.size, 4, none⟩ = some (.slice a l.length cap)))
      have hbr := Below.refl W.heap.size W
      have hw1 : w.heap.size ≤ W.heap.size := HB2.out.size
      have HALL2 := Lib.hid (fun (W' : World) (hb : Below W.heap.size W W') (v : Value) (hv : Row W' W.heap.size v (hdB hh)) => HALL.out W' W.heap.size hw1 (HB2.out.trans (hb.mono hw1)) hb.size v (hdB hh) hv h9)
      clear ehh ch c1 c2 c3 h9
      go_wp2_with fail
      go_region_held3 (fun W' => Below W.heap.size W W' ∧ W'.cell? ⟨w.heap.size, 4, none⟩ = some (.slice a l.length cap)) ((refine HSS.out _ ?_; first | with_reducible assumption | with_reducible exact Below.drew (by with_reducible assumption))) ((first | (go_at_call 39; go_split_ands; refine (CH.out _).mono ?_; rintro e wa ⟨rfl, ba⟩; have bba := below_grow (by with_reducible assumption) ba) | (go_at_call 37; go_split_ands; refine (CP.out _ _ _).mono ?_; rintro e wb ⟨vb, rfl, rb0, bb⟩; have bbb := below_grow (by with_reducible assumption) bb; have rb := rb0.base ((by with_reducible assumption : Below W.heap.size W _).size); clear rb0) | (go_at_call 41; go_split_ands; refine (HALL2.out _ (by first | with_reducible assumption | with_reducible exact Below.drew (by with_reducible assumption)) _ (by first | with_reducible assumption | with_reducible exact Row.drew (by with_reducible assumption))).mono ?_; rintro e w9 ⟨v9, rfl, r9, b9⟩; have bb9 := (by first | with_reducible assumption | with_reducible exact Below.drew (by with_reducible assumption) : Below W.heap.size W _).trans b9)))
      all_goals
        have HF := Lib.hid (row_fresh (r9.base hw1) (HB2.out.trans (bb9.mono hw1)) (show R = hdB hh ++ PT.tightL hdFor (AT.ptL l) by rw [HR.out, hd1_10, ← EH2.out, EH.out, opn1_10]; simp))
        clear r9 b9 bb9
        go_wp2
        go_ret
        exact HF.out
    · obtain ⟨c0, c1, c2, c3, c4⟩ := HBC.out
      simp only [AT.k, AT.n, AT.x, AT.s, AT.a, AT.l, AT.cap] at c0 c1 c2 c3 c4
      rw [Nat.zero_add] at c4 c1
      by_cases hr : 0 ≤ n ∧ n ≤ 1000000000000000
      case neg =>
        have ci := fun W => in_no n 0 1000000000000000 W (by omega)
        have HF := Lib.hid (row_fresh HRE.out HB2.out (show R = [] by rw [HR.out, hd1_11, if_neg hr, opn1_11, decide_eq_false hr]; rfl))
        clear hr
        go_wp2_with (go_at_call 38; refine (ci _).mono ?_; rintro e w' ⟨rfl, rfl⟩)
        go_ret
        exact HF.out
      have hr2 := hr
      obtain ⟨r1, r2⟩ := hr2
      have ci := fun W => in_yes n 0 1000000000000000 W r1 r2
      have HRR := Lib.hid hr
      clear hr
      go_wp2_with (go_at_call 38; refine (ci _).mono ?_; rintro e w' ⟨rfl, rfl⟩)
      clear ci
      obtain ⟨hh, ehh⟩ : ∃ hh, hh = hdFor 6 n := ⟨_, rfl⟩
      have h9 : (hdB hh).length ≤ 9 := by rw [ehh]; exact hdFor_le _ _
      have ch := fun W => headfor_spec 6 n W
      rw [← ehh] at ch
      have CH := Lib.hid ch
      have CP := Lib.hid (fun (W : World) (b cap : Nat) => puthead_none hh W b cap)
      have EH := Lib.hid ehh
      have HSS := Lib.hid (fun (W' : World) (hb : Below W.heap.size W W') => (⟨hb, keep_below hb c1, keep_below hb c4⟩ : Below W.heap.size W W' ∧ W'.cell? ⟨w.heap.size, 1, none⟩ = some (.int .i64 n) ∧ W'.cell? ⟨w.heap.size, 4, none⟩ = some (.slice a l.length cap)))
      have hbr := Below.refl W.heap.size W
      have hw1 : w.heap.size ≤ W.heap.size := HB2.out.size
      have HALL2 := Lib.hid (fun (W' : World) (hb : Below W.heap.size W W') (v : Value) (hv : Row W' W.heap.size v (hdB hh)) => HALL.out W' W.heap.size hw1 (HB2.out.trans (hb.mono hw1)) hb.size v (hdB hh) hv h9)
      clear ehh ch c2 c3 h9
      go_region_held3 (fun W' => Below W.heap.size W W' ∧ W'.cell? ⟨w.heap.size, 1, none⟩ = some (.int .i64 n) ∧ W'.cell? ⟨w.heap.size, 4, none⟩ = some (.slice a l.length cap)) ((refine HSS.out _ ?_; first | with_reducible assumption | with_reducible exact Below.drew (by with_reducible assumption))) ((first | (go_at_call 39; go_split_ands; refine (CH.out _).mono ?_; rintro e wa ⟨rfl, ba⟩; have bba := below_grow (by with_reducible assumption) ba) | (go_at_call 37; go_split_ands; refine (CP.out _ _ _).mono ?_; rintro e wb ⟨vb, rfl, rb0, bb⟩; have bbb := below_grow (by with_reducible assumption) bb; have rb := rb0.base ((by with_reducible assumption : Below W.heap.size W _).size); clear rb0) | (go_at_call 41; go_split_ands; refine (HALL2.out _ (by first | with_reducible assumption | with_reducible exact Below.drew (by with_reducible assumption)) _ (by first | with_reducible assumption | with_reducible exact Row.drew (by with_reducible assumption))).mono ?_; rintro e w9 ⟨v9, rfl, r9, b9⟩; have bb9 := (by first | with_reducible assumption | with_reducible exact Below.drew (by with_reducible assumption) : Below W.heap.size W _).trans b9)))
      all_goals
        have HF := Lib.hid (row_fresh (r9.base hw1) (HB2.out.trans (bb9.mono hw1)) (show R = hdB hh ++ PT.tightL hdFor (AT.ptL l) by rw [HR.out, hd1_11, if_pos HRR.out, EH.out, opn1_11, decide_eq_true HRR.out]; simp))
        clear r9 b9 bb9
        go_wp2
        go_ret
        exact HF.out
end Go.Proofs.YtilgncebhgplaaaDoor
