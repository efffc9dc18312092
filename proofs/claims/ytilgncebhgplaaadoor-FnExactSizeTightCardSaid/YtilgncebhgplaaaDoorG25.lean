import Derived.Test.YtilgncebhgplaaaDoorG23
import Derived.Test.YtilgncebhgplaaaDoorG24
/- FitsTight, WriteTight and SizeTight of both sides. By gen_fittight.py. -/
namespace Go.Proofs.YtilgncebhgplaaaDoor
open Go.RowKit
set_option linter.unusedVariables false
set_option maxRecDepth 100000
def PT.fitC (T : PT) : Bool := T.ok && T.fit13
theorem own_len {w : World} {B E n m c : Nat} {a : Option Addr} {xs : List Value} (h : w.ownsRow B E 1 (.slice a n c) m xs) : n = m := by
  rcases h.2 with ⟨h, h2⟩ | ⟨g, cap, cur, h, _⟩
  · injection h with _ h3 _; omega
  · injection h
theorem fitstight_spec (T : AT) (w : World) (N : Nat) (hg : GoodT T) (hin : T.In w N) (hN : N ≤ w.heap.size) : Calls Tryd.prog 10 #[T.val] w fun e w' => e = .returned (.bool T.pt.fitC) ∧ Below w.heap.size w w' := by
  have HV := Lib.hid (fun (w1 : World) (hb : Below w.heap.size w w1) => valok_spec T hg w1 N (hin.blw hb hN) (Nat.le_trans hN hb.size))
  have HF := Lib.hid (fun (w1 : World) (hb : Below w.heap.size w w1) => l13fits_spec T hg w1 N (hin.blw hb hN) (Nat.le_trans hN hb.size))
  have e : T.pt.fitC = (T.pt.ok && T.pt.fit13) := rfl
  rw [e]
  clear hg hin hN e
  generalize T.pt.ok = vo at *
  generalize T.pt.fit13 = fo at *
  have hb0 := vbox w (.cells #[.int .i64 T.k, .int .i64 T.n, .int .i64 T.x, .string ⟨T.s.toArray⟩, .slice T.a T.l.length T.cap] 29)
  show Calls Tryd.prog 10 #[.agg #[.int .i64 T.k, .int .i64 T.n, .int .i64 T.x, .string ⟨T.s.toArray⟩, .slice T.a T.l.length T.cap]] w _
  go_enter Tryd.func10, Tryd.ntmps10
  go_wp2_with fail
  refine (HV.out _ hb0).mono ?_
  rintro e w1 ⟨rfl, hb1⟩
  obtain ⟨c0, c1, c2, c3, c4⟩ := box5 w T.k T.n T.x ⟨T.s.toArray⟩ T.a T.l.length T.cap 29 (by simpa using hb1)
  have HB1 := Lib.hid (hb0.trans (hb1.mono hb0.size))
  clear hb1 hb0
  cases vo with
  | false =>
    go_wp2
    go_ret
    exact ⟨rfl, HB1.out⟩
  | true =>
    go_wp2_with fail
    refine (HF.out _ HB1.out).mono ?_
    rintro e w2 ⟨rfl, hb2⟩
    go_wp2
    go_ret
    exact ⟨rfl, HB1.out.trans (hb2.mono HB1.out.size)⟩
set_option maxHeartbeats 1000000 in
theorem fitstight_impl (T : AT) (w : World) (N : Nat) (hg : GoodT T) (hin : T.In w N) (hN : N ≤ w.heap.size) (hz : Tz w) : Calls Tryd.prog 12 #[T.val] w fun e w' => e = .returned (.bool T.pt.fitC) ∧ Below w.heap.size w w' := by
  have HV := Lib.hid (fun (w1 : World) (hb : Below w.heap.size w w1) => valok_impl T w1 N (hin.blw hb hN) (Nat.le_trans hN hb.size) hg)
  have HK := Lib.hid (fun (w1 : World) (hb : Below w.heap.size w w1) => has6_impl T w1 N (hin.blw hb hN) (Nat.le_trans hN hb.size) hg.2)
  have hgl := hz.lt
  have CT := Lib.hid (fun (W : World) (hb : Below w.heap.size w W) => tw_tree T (TW.new W N (Nat.le_trans hN hb.size)) (hin.blw (hb.trans ((below_box W _).mono hb.size)) hN) (hz.below (hb.trans ((below_box W _).mono hb.size))) (Nat.lt_of_lt_of_le hgl hb.size) hg.1 hg.2)
  have HNEW := Lib.hid (fun (W : World) (hb : Below w.heap.size w W) => TW.new W N (Nat.le_trans hN hb.size))
  have HR0 : Hid (T.pt.ok = false → T.pt.fitC = false) := Lib.hid (fun h => by unfold PT.fitC; rw [h]; rfl)
  have HR1 : Hid (T.pt.has6 = true → T.pt.fitC = false) := Lib.hid (fun h => by unfold PT.fitC; rw [fit_has6 _ h, Bool.and_false])
  have HR2 : Hid (T.pt.ok = true → T.pt.has6 = false → T.pt.fitC = !T.pt.dis) := Lib.hid (fun h h6 => by unfold PT.fitC; rw [h, fit_dis _ h h6 hg.2]; rfl)
  obtain ⟨R, hR⟩ : ∃ R, R = T.pt.fitC := ⟨_, rfl⟩
  rw [← hR] at HR0 HR1 HR2 ⊢
  clear hg hin hN hz hgl hR
  generalize T.pt.ok = vo at *
  generalize T.pt.has6 = h6 at *
  generalize T.pt.dis = di at *
  have hb0 := vbox w (.cells #[.int .i64 T.k, .int .i64 T.n, .int .i64 T.x, .string ⟨T.s.toArray⟩, .slice T.a T.l.length T.cap] 29)
  show Calls Tryd.prog 12 #[.agg #[.int .i64 T.k, .int .i64 T.n, .int .i64 T.x, .string ⟨T.s.toArray⟩, .slice T.a T.l.length T.cap]] w _
  go_enter Tryd.func12, Tryd.ntmps12
  go_wp2_with fail
  refine (HV.out _ hb0).mono ?_
  rintro e w1 ⟨rfl, hb1⟩
  obtain ⟨c0, c1, c2, c3, c4⟩ := box5 w T.k T.n T.x ⟨T.s.toArray⟩ T.a T.l.length T.cap 29 (by simpa using hb1)
  have HB1 := Lib.hid (hb0.trans (hb1.mono hb0.size))
  clear hb1 hb0
  cases vo with
  | false =>
    have HQ := Lib.hid (HR0.out (by trivial))
    go_wp2
    go_ret
    exact ⟨by rw [HQ.out]; rfl, HB1.out⟩
  | true =>
    go_wp2_with fail
    refine (HK.out _ HB1.out).mono ?_
    rintro e w2 ⟨rfl, hb2⟩
    have HB2 := Lib.hid (HB1.out.trans (hb2.mono HB1.out.size))
    replace c0 := keep_below hb2 c0
    replace c1 := keep_below hb2 c1
    replace c2 := keep_below hb2 c2
    replace c3 := keep_below hb2 c3
    replace c4 := keep_below hb2 c4
    clear hb2
    cases h6 with
    | true =>
      have HQ := Lib.hid (HR1.out (by trivial))
      go_wp2
      go_ret
      exact ⟨by rw [HQ.out]; rfl, HB2.out⟩
    | false =>
      have HQ := Lib.hid (HR2.out (by trivial) (by trivial))
      have ct := CT.out w2 HB2.out
      have ht0 := HNEW.out w2 HB2.out
      clear HV HK CT HNEW HR0 HR1 HR2
      (go_upto_region 4 with fail)
      have hbn := below_box w2 (.cells #[.slice none 0 0, .slice none 0 0, .bool false] 46)
      replace c0 := keep_below hbn c0
      replace c1 := keep_below hbn c1
      replace c2 := keep_below hbn c2
      replace c3 := keep_below hbn c3
      replace c4 := keep_below hbn c4
      generalize (w2.alloc (.cells #[.slice none 0 0, .slice none 0 0, .bool false] 46)) = W3 at *
      have HT0 := Lib.hid ht0
      have HBN := Lib.hid (HB2.out.trans (hbn.mono HB2.out.size))
      clear ht0 hbn
      go_wp2_with fail
      refine Calls.mono (by exact ct) ?_
      rintro e w4 ⟨rfl, va, vn, vc, ua, un, uc, tw4, st4⟩
      have HB4 := Lib.hid (HBN.out.trans ((st4.below HT0.out).mono HB2.out.size))
      have p2 := tw4.c2
      clear ct tw4 st4 c0 c1 c2 c3 c4
      go_wp2
      go_ret
      exact ⟨by rw [HQ.out]; rfl, HB4.out⟩
theorem row_empty_b (w : World) : (w.alloc (.cells #[] 5)).ownsRow w.heap.size 5 1 (.slice (some ⟨w.heap.size, 0, none⟩) 0 0) ([] : List UInt8).length (bv []) := (row_empty w).2
/-- what WriteTight answers -/
theorem writetight_spec (T : AT) (w : World) (N : Nat) (hg : GoodT T) (hin : T.In w N) (hN : N ≤ w.heap.size) : Calls Tryd.prog 20 #[T.val] w (FreshB w (if T.pt.fitC = true then T.pt.tight hdFor else [])) := by
  have HF := Lib.hid (fun (w1 : World) (hb : Below w.heap.size w w1) => fitstight_spec T w1 N hg (hin.blw hb hN) (Nat.le_trans hN hb.size))
  have HP := Lib.hid (fun (w1 : World) (hb : Below w.heap.size w w1) => packspec_b T hg.1 hg.2 w1 N (hin.blw hb hN) (Nat.le_trans hN hb.size))
  clear hg hin hN
  obtain ⟨R, hR⟩ : ∃ R, R = (if T.pt.fitC = true then T.pt.tight hdFor else []) := ⟨_, rfl⟩
  rw [← hR]
  have HRF := Lib.hid hR
  clear hR
  generalize T.pt.fitC = fo at *
  generalize T.pt.tight hdFor = L at *
  have hb0 := vbox w (.cells #[.int .i64 T.k, .int .i64 T.n, .int .i64 T.x, .string ⟨T.s.toArray⟩, .slice T.a T.l.length T.cap] 29)
  show Calls Tryd.prog 20 #[.agg #[.int .i64 T.k, .int .i64 T.n, .int .i64 T.x, .string ⟨T.s.toArray⟩, .slice T.a T.l.length T.cap]] w _
  go_enter Tryd.func20, Tryd.ntmps20
  go_wp2_with fail
  refine (HF.out _ hb0).mono ?_
  rintro e w1 ⟨rfl, hb1⟩
  obtain ⟨c0, c1, c2, c3, c4⟩ := box5 w T.k T.n T.x ⟨T.s.toArray⟩ T.a T.l.length T.cap 29 (by simpa using hb1)
  have HB1 := Lib.hid (hb0.trans (hb1.mono hb0.size))
  clear hb1 hb0
  cases fo with
  | false =>
    have HE := Lib.hid (own_base' (row_empty_b w1) HB1.out.size)
    have HRE : Hid (R = []) := Lib.hid (by rw [HRF.out]; rfl)
    go_wp2
    go_ret
    exact ⟨_, _, _, rfl, by rw [HRE.out]; exact HE.out, HB1.out.trans ((vbox w1 _).mono HB1.out.size)⟩
  | true =>
    go_wp2_with fail
    refine (HP.out _ HB1.out).mono ?_
    rintro e w2 ⟨a2, n2, c2', rfl, ho2, hb2⟩
    have HO := Lib.hid (own_base' ho2 HB1.out.size)
    have HB2 := Lib.hid (HB1.out.trans (hb2.mono HB1.out.size))
    have HRE : Hid (R = L) := Lib.hid (by rw [HRF.out]; rfl)
    clear ho2 hb2
    go_wp2
    go_ret
    exact ⟨a2, n2, c2', rfl, by rw [HRE.out]; exact HO.out, HB2.out⟩
theorem sizetight_spec (T : AT) (w : World) (N : Nat) (hg : GoodT T) (hin : T.In w N) (hN : N ≤ w.heap.size) : Calls Tryd.prog 27 #[T.val] w fun e w' => e = .returned (.int .i64 (if T.pt.fitC = true then T.pt.tight hdFor else []).length) ∧ Below w.heap.size w w' := by
  have HW := Lib.hid (fun (w1 : World) (hb : Below w.heap.size w w1) => writetight_spec T w1 N hg (hin.blw hb hN) (Nat.le_trans hN hb.size))
  clear hg hin hN
  generalize (if T.pt.fitC = true then T.pt.tight hdFor else []) = L at *
  have hb0 := vbox w (.cells #[.int .i64 T.k, .int .i64 T.n, .int .i64 T.x, .string ⟨T.s.toArray⟩, .slice T.a T.l.length T.cap] 29)
  show Calls Tryd.prog 27 #[.agg #[.int .i64 T.k, .int .i64 T.n, .int .i64 T.x, .string ⟨T.s.toArray⟩, .slice T.a T.l.length T.cap]] w _
  go_enter Tryd.func27, Tryd.ntmps27
  go_wp2_with fail
  refine (HW.out _ hb0).mono ?_
  rintro e w1 ⟨a1, n1, c1, rfl, ho1, hb1⟩
  have HN1 := Lib.hid (own_len ho1)
  have HB1 := Lib.hid (hb0.trans (hb1.mono hb0.size))
  clear hb1 hb0 ho1
  go_wp2
  go_ret
  exact ⟨by rw [← HN1.out]; rfl, HB1.out⟩
/-- what WriteTight answers -/
theorem writetight_impl (T : AT) (w : World) (N : Nat) (hg : GoodT T) (hin : T.In w N) (hN : N ≤ w.heap.size) (hz : Tz w) : Calls Tryd.prog 21 #[T.val] w (FreshB w (if T.pt.fitC = true then T.pt.tight hdFor else [])) := by
  have HF := Lib.hid (fun (w1 : World) (hb : Below w.heap.size w w1) => fitstight_impl T w1 N hg (hin.blw hb hN) (Nat.le_trans hN hb.size) (hz.below hb))
  have HP := Lib.hid (fun (w1 : World) (hb : Below w.heap.size w w1) => packtight_impl T w1 N (hin.blw hb hN) (Nat.le_trans hN hb.size) (hz.below hb) hg.1 hg.2)
  clear hg hin hN hz
  obtain ⟨R, hR⟩ : ∃ R, R = (if T.pt.fitC = true then T.pt.tight hdFor else []) := ⟨_, rfl⟩
  rw [← hR]
  have HRF := Lib.hid hR
  clear hR
  generalize T.pt.fitC = fo at *
  generalize T.pt.tight hdFor = L at *
  have hb0 := vbox w (.cells #[.int .i64 T.k, .int .i64 T.n, .int .i64 T.x, .string ⟨T.s.toArray⟩, .slice T.a T.l.length T.cap] 29)
  show Calls Tryd.prog 21 #[.agg #[.int .i64 T.k, .int .i64 T.n, .int .i64 T.x, .string ⟨T.s.toArray⟩, .slice T.a T.l.length T.cap]] w _
  go_enter Tryd.func21, Tryd.ntmps21
  go_wp2_with fail
  refine (HF.out _ hb0).mono ?_
  rintro e w1 ⟨rfl, hb1⟩
  obtain ⟨c0, c1, c2, c3, c4⟩ := box5 w T.k T.n T.x ⟨T.s.toArray⟩ T.a T.l.length T.cap 29 (by simpa using hb1)
  have HB1 := Lib.hid (hb0.trans (hb1.mono hb0.size))
  clear hb1 hb0
  cases fo with
  | false =>
    have HE := Lib.hid (own_base' (row_empty_b w1) HB1.out.size)
    have HRE : Hid (R = []) := Lib.hid (by rw [HRF.out]; rfl)
    go_wp2
    go_ret
    exact ⟨_, _, _, rfl, by rw [HRE.out]; exact HE.out, HB1.out.trans ((vbox w1 _).mono HB1.out.size)⟩
  | true =>
    go_wp2_with fail
    refine (HP.out _ HB1.out).mono ?_
    rintro e w2 ⟨a2, n2, c2', rfl, ho2, hb2⟩
    have HO := Lib.hid (own_base' ho2 HB1.out.size)
    have HB2 := Lib.hid (HB1.out.trans (hb2.mono HB1.out.size))
    have HRE : Hid (R = L) := Lib.hid (by rw [HRF.out]; rfl)
    clear ho2 hb2
    go_wp2
    go_ret
    exact ⟨a2, n2, c2', rfl, by rw [HRE.out]; exact HO.out, HB2.out⟩
theorem sizetight_impl (T : AT) (w : World) (N : Nat) (hg : GoodT T) (hin : T.In w N) (hN : N ≤ w.heap.size) (hz : Tz w) : Calls Tryd.prog 28 #[T.val] w fun e w' => e = .returned (.int .i64 (if T.pt.fitC = true then T.pt.tight hdFor else []).length) ∧ Below w.heap.size w w' := by
  have HW := Lib.hid (fun (w1 : World) (hb : Below w.heap.size w w1) => writetight_impl T w1 N hg (hin.blw hb hN) (Nat.le_trans hN hb.size) (hz.below hb))
  clear hg hin hN hz
  generalize (if T.pt.fitC = true then T.pt.tight hdFor else []) = L at *
  have hb0 := vbox w (.cells #[.int .i64 T.k, .int .i64 T.n, .int .i64 T.x, .string ⟨T.s.toArray⟩, .slice T.a T.l.length T.cap] 29)
  show Calls Tryd.prog 28 #[.agg #[.int .i64 T.k, .int .i64 T.n, .int .i64 T.x, .string ⟨T.s.toArray⟩, .slice T.a T.l.length T.cap]] w _
  go_enter Tryd.func28, Tryd.ntmps28
  go_wp2_with fail
  refine (HW.out _ hb0).mono ?_
  rintro e w1 ⟨a1, n1, c1, rfl, ho1, hb1⟩
  have HN1 := Lib.hid (own_len ho1)
  have HB1 := Lib.hid (hb0.trans (hb1.mono hb0.size))
  clear hb1 hb0 ho1
  go_wp2
  go_ret
  exact ⟨by rw [← HN1.out]; rfl, HB1.out⟩
end Go.Proofs.YtilgncebhgplaaaDoor
