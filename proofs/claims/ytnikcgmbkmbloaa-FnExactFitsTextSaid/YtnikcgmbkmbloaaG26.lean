import Derived.Test.YtnikcgmbkmbloaaG15
import Derived.Test.YtnikcgmbkmbloaaG20
import Derived.Test.YtnikcgmbkmbloaaG25
/- FitsText of the program. -/
namespace Go.Proofs.Ytnikcgmbkmbloaa
open Go.RowKit
set_option maxRecDepth 100000
theorem onceL_nodup (l : List PT) : onceL l = true ↔ l.Nodup := by
  induction l with
  | nil => simp [onceL]
  | cons t l ih =>
    rw [onceL, Bool.and_eq_true, ih, List.nodup_cons, List.all_eq_true]
    constructor
    · rintro ⟨h1, h2⟩
      refine ⟨fun hm => ?_, h2⟩
      have := h1 t hm
      rw [ptsame_refl] at this
      cases this
    · rintro ⟨h1, h2⟩
      refine ⟨fun u hu => ?_, h2⟩
      cases hs : t.same u with
      | false => rfl
      | true => exact absurd (ptsame_true hs ▸ hu) h1
theorem onceV_eq (l : List PT) : onceV l = onceL l := by
  cases h : onceL l with
  | true => exact onceV_true ((onceL_nodup l).1 h)
  | false => exact onceV_false fun hn => by rw [(onceL_nodup l).2 hn] at h; cases h
/-- the kinds of the text format -/
def kText (k : Int) : Bool := decide (k = 1 ∨ k = 2 ∨ k = 3 ∨ k = 6 ∨ k = 7 ∨ k = 9 ∨ k = 10)
/-- the names are texts and all different -/
noncomputable def hasN (t : AT) : Bool := t.pt.names.all (fun u => u.kd == 7) && onceV t.pt.names
noncomputable def fitN (t : AT) : Bool := kText t.k && hasN t
theorem fitN_eq (t : AT) : fitN t = fitK t.k (AT.ptL t.l) := by
  obtain ⟨k, n, x, s, a, cap, l⟩ := t
  have hn : (AT.mk k n x s a cap l).pt.names = if k = 10 then evens (AT.ptL l) else [] := rfl
  unfold fitN hasN fitK kText
  rw [hn, onceV_eq]
  simp only [AT.k, AT.l]
  by_cases hk : k = 10
  · subst hk; simp
  · simp only [hk, if_false, decide_false, Bool.false_and, Bool.or_false, or_false, List.all_nil, onceL, Bool.and_true]
    first | rfl | exact decide_eq_decide.2 Iff.rfl | (congr 1)
theorem fit_eq (t : AT) : t.pt.fitB = (fitN t && PT.fitBL (AT.ptL t.l)) := by
  rw [fitN_eq]
  obtain ⟨k, n, x, s, a, cap, l⟩ := t
  show (PT.fitBL (AT.ptL l) && fitK k (AT.ptL l)) = _
  exact Bool.and_comm _ _
def fitS (S : List Lev) : Bool := S.all fun L => PT.fitBL (AT.ptL L.l)
theorem fitS_append (S R : List Lev) : fitS (S ++ R) = (fitS S && fitS R) := by simp [fitS, List.all_append]
theorem fitS_empty (S : List Lev) (h : ∀ L ∈ S, L.l = []) : fitS S = true := by
  rw [fitS, List.all_eq_true]
  intro L hL
  rw [h L hL]; rfl
theorem fitS_step (S1 E : List Lev) (L : Lev) (t : AT) (tl : List AT) (a c) (hE : ∀ L ∈ E, L.l = []) (hl : L.l = t :: tl) : fitS (S1 ++ L :: E) = (fitN t && fitS (S1 ++ [Lev.mk a c tl, Lev.mk t.a t.cap t.l])) := by
  rw [fitS_append, fitS_append]
  have h1 : fitS (L :: E) = (PT.fitBL (AT.ptL L.l) && fitS E) := rfl
  have h2 : fitS [Lev.mk a c tl, Lev.mk t.a t.cap t.l] = (PT.fitBL (AT.ptL tl) && (PT.fitBL (AT.ptL t.l) && true)) := rfl
  rw [h1, h2, fitS_empty E hE, hl]
  simp only [AT.ptL, PT.fitBL, fit_eq, Bool.and_true]
  cases fitS S1 <;> cases fitN t <;> cases PT.fitBL (AT.ptL t.l) <;> cases PT.fitBL (AT.ptL tl) <;> rfl
theorem head_in {wr : World} {B P g cap : Nat} {S1 : List Lev} {d : Int} {t : AT} {L : Lev} (h : WalkAt wr B B P g cap (S1 ++ [L, Lev.mk t.a t.cap t.l]) d) : t.In wr B := by
  have := h.lv (Lev.mk t.a t.cap t.l) (by simp)
  obtain ⟨k, n, x, s, a, c, l⟩ := t
  exact this.in
def HeadF (w wr : World) (B P : Nat) (tot : Bool) (X : Nat) : Prop :=
  ∃ (g cap : Nat) (S : List Lev) (d : Int) (t : AT), WalkAt wr B B P g cap S d ∧ CellsAt wr X 0 t ∧ t.In wr B ∧ (X ≠ P ∧ X ≠ g ∧ B ≤ X) ∧ (w.heap.size ≤ B ∧ Below w.heap.size w wr) ∧ ((fitN t && fitS S) = tot ∧ GoodT t ∧ GoodS S ∧ lr S ≤ 4194304)
theorem tkind_impl (k : Int) (w : World) : Calls Try.prog 79 #[.int .i64 k] w fun e w' => e = .returned (.bool (kText k)) ∧ Below w.heap.size w w' := by
  have hb := Below.refl w.heap.size w
  by_cases h1 : k = 1
  · subst h1; go_enter Try.func79, Try.ntmps79; go_wp2; go_ret; exact ⟨rfl, hb⟩
  by_cases h2 : k = 2
  · subst h2; go_enter Try.func79, Try.ntmps79; go_wp2; go_ret; exact ⟨rfl, hb⟩
  by_cases h3 : k = 3
  · subst h3; go_enter Try.func79, Try.ntmps79; go_wp2; go_ret; exact ⟨rfl, hb⟩
  by_cases h6 : k = 6
  · subst h6; go_enter Try.func79, Try.ntmps79; go_wp2; go_ret; exact ⟨rfl, hb⟩
  by_cases h7 : k = 7
  · subst h7; go_enter Try.func79, Try.ntmps79; go_wp2; go_ret; exact ⟨rfl, hb⟩
  by_cases h9 : k = 9
  · subst h9; go_enter Try.func79, Try.ntmps79; go_wp2; go_ret; exact ⟨rfl, hb⟩
  by_cases h10 : k = 10
  · subst h10; go_enter Try.func79, Try.ntmps79; go_wp2; go_ret; exact ⟨rfl, hb⟩
  have hv : kText k = false := by unfold kText; simp [h1, h2, h3, h6, h7, h9, h10]
  rw [hv]
  have e1 : (k == 1) = false := by simpa using h1
  have e2 : (k == 2) = false := by simpa using h2
  have e3 : (k == 3) = false := by simpa using h3
  have e6 : (k == 6) = false := by simpa using h6
  have e7 : (k == 7) = false := by simpa using h7
  have e9 : (k == 9) = false := by simpa using h9
  have e10 : (k == 10) = false := by simpa using h10
  clear h1 h2 h3 h6 h7 h9 h10
  go_enter Try.func79, Try.ntmps79
  go_wp2
  go_ret
  exact ⟨rfl, hb⟩
theorem all_take (l : List PT) (i : Nat) (h : i < l.length) : (l.take (i + 1)).all (fun u => u.kd == 7) = ((l.take i).all (fun u => u.kd == 7) && (l[i]).kd == 7) := by
  rw [List.take_succ_eq_append_getElem h, List.all_append]; simp
set_option maxHeartbeats 2000000 in
theorem hasn_impl (T : AT) (w : World) (N : Nat) (hwf : T.pt.Wf) (hin : T.In w N) (hsz : T.pt.sz ≤ 1048576) (hN : N ≤ w.heap.size) : Calls Try.prog 80 #[T.val] w fun e w' => e = .returned (.bool (hasN T)) ∧ Below w.heap.size w w' := by
  have HNC := Lib.hid (fun (w1 : World) (hb : Below w.heap.size w w1) => names_implG T w1 N (hin.blw hb hN) (by have := len_le_sz T; omega) (Nat.le_trans hN hb.size))
  have HOC := Lib.hid (fun (w1 : World) (hb : Below w.heap.size w w1) => once_impl T w1 N hwf (hin.blw hb hN) hsz (Nat.le_trans hN hb.size))
  have hnl : T.names.length ≤ 1048576 := by have h1 := len_le_sz T; unfold AT.names; split <;> simp [evens_length]; omega
  have htv : hasN T = ((AT.ptL T.names).all (fun u => u.kd == 7) && onceV T.pt.names) := by unfold hasN; rw [names_pt]
  obtain ⟨ov, hov⟩ : ∃ ov, ov = onceV T.pt.names := ⟨_, rfl⟩
  rw [← hov] at htv HOC
  obtain ⟨tot, htot⟩ : ∃ tot, tot = hasN T := ⟨_, rfl⟩
  rw [← htot] at htv ⊢
  have HTV := Lib.hid htv
  clear hin hsz hwf htot htv hov
  show Calls Try.prog 80 #[.agg #[.int .i64 T.k, .int .i64 T.n, .int .i64 T.x, .string ⟨T.s.toArray⟩, .slice T.a T.l.length T.cap]] w _
  go_enter Try.func80, Try.ntmps80
  go_wp2_with fail
  have hb0 := vbox w (.cells #[.int .i64 T.k, .int .i64 T.n, .int .i64 T.x, .string ⟨T.s.toArray⟩, .slice T.a T.l.length T.cap] 26)
  refine (HNC.out _ hb0).mono ?_
  rintro e w1 ⟨g, cap1, rfl, hrow, hb1⟩
  have HB1 := Lib.hid (hb0.trans (hb1.mono hb0.size))
  have HBX := Lib.hid (box5 w T.k T.n T.x ⟨T.s.toArray⟩ T.a T.l.length T.cap 26 (by simpa using hb1))
  have HLV := Lib.hid (hrow.lv (by have := hb1.size; have := hb0.size; omega))
  have hcap := own_cap hrow.row
  clear hb1 hb0 hrow HNC
  generalize T.names = ns at *
  go_wp2_with fail
  go_loopw [8] (fun i wr => ∃ q : Nat, i = .int .i64 q ∧ q ≤ ns.length ∧ Hid (((AT.ptL ns).take q).all (fun u => u.kd == 7) = true) ∧ Hid (Below w1.heap.size w1 wr)) (fun i _ => ns.length - (intOf i).toNat)
  case atStart => exact ⟨0, rfl, Nat.zero_le _, Lib.hid (by simp), Lib.hid (Below.refl _ _)⟩
  case round =>
    obtain ⟨q, rfl, hq, HA, HB⟩ := hrel
    by_cases hlt : q < ns.length
    · obtain ⟨b, o, hbo, hbN, hC⟩ := HLV.out.cell q hlt
      injection hbo with hbo
      injection hbo with e1 e2
      subst e1 e2
      have hC := hC.keep (HB.out.block g hbN)
      have hst := all_take (AT.ptL ns) q (by rw [AT.ptL_length]; exact hlt)
      rw [ptL_get ns q hlt] at hst
      obtain ⟨V, hV⟩ : ∃ V, V = ns[q] := ⟨_, rfl⟩
      rw [← hV] at hC hst
      have hkd : V.pt.kd = V.k := by cases V; rfl
      rw [hkd] at hst
      have HST := Lib.hid hst
      have HALL : Hid (V.k ≠ 7 → tot = false) := Lib.hid (fun h => by
        rw [HTV.out]
        have : (AT.ptL ns).all (fun u => u.kd == 7) = false := by
          rw [List.all_eq_false]
          refine ⟨V.pt, by rw [AT.ptL_eq, hV]; exact List.mem_map_of_mem (List.getElem_mem hlt), ?_⟩
          rw [hkd]; simpa using h
        rw [this]; rfl)
      obtain ⟨c0, c1, c2, c3, c4⟩ := hC
      simp only [Nat.zero_add] at c0 c1 c2 c3 c4
      have hlt' : (q : Int) < ns.length := by omega
      have hw2 : IntKind.i64.wrap (q : Int) = (q : Int) := IntWalk.i64_in _ (by omega)
      clear hV hst hkd
      by_cases h7 : V.k = 7
      · have hk7 : (V.k != 7) = false := by simp [h7]
        have HB3 := Lib.hid (HB.out.trans ((vbox wr (.cells #[.int .i64 V.k, .int .i64 V.n, .int .i64 V.x, .string ⟨V.s.toArray⟩, .slice V.a V.l.length V.cap] 26)).mono HB.out.size))
        have HA2 : Hid (((AT.ptL ns).take (q + 1)).all (fun u => u.kd == 7) = true) := Lib.hid (by rw [HST.out, HA.out, h7]; rfl)
        clear h7 HALL HST
        go_wp2
        go_roundw
        case rel => exact ⟨q + 1, by go_num, by omega, HA2, HB3⟩
        case measure => simp [intOf]; omega
      · have hk7 : (V.k != 7) = true := by simpa using h7
        have HF := Lib.hid (HALL.out h7)
        clear h7 HALL HST
        go_wp2
        go_ret
        exact ⟨by rw [HF.out]; rfl, HB1.out.trans ((HB.out.trans ((vbox wr (.cells #[.int .i64 V.k, .int .i64 V.n, .int .i64 V.x, .string ⟨V.s.toArray⟩, .slice V.a V.l.length V.cap] 26)).mono HB.out.size)).mono HB1.out.size)⟩
    · have hnl3 : ¬ (q : Int) < ns.length := by omega
      have HALL : Hid (tot = ov) := Lib.hid (by
        have h1 := HA.out
        rw [List.take_of_length_le (by rw [AT.ptL_length]; omega)] at h1
        rw [HTV.out, h1, Bool.true_and])
      obtain ⟨c0, c1, c2, c3, c4⟩ := HBX.out
      replace c0 := keep_below HB.out c0
      replace c1 := keep_below HB.out c1
      replace c2 := keep_below HB.out c2
      replace c3 := keep_below HB.out c3
      replace c4 := keep_below HB.out c4
      have HBr := Lib.hid (HB1.out.trans (HB.out.mono HB1.out.size))
      go_wp2_with fail
      refine (HOC.out _ HBr.out).mono ?_
      rintro e w3 ⟨rfl, hb3⟩
      go_wp2
      go_ret
      exact ⟨by rw [HALL.out]; try rfl, HBr.out.trans (hb3.mono HBr.out.size)⟩
set_option maxHeartbeats 4000000 in
set_option maxRecDepth 100000 in
theorem fits_impl (T : AT) (w : World) (N : Nat) (hin : T.In w N) (hN : N ≤ w.heap.size) (hg : GoodT T) :
    Calls Try.prog 36 #[T.val] w fun e w' => e = .returned (.bool (T.pt.ok && T.pt.fitB)) ∧ Below w.heap.size w w' := by
  have hcb : T.pt.cnt ≤ 1048577 := by have := cnt_le_sz T.pt; have := hg.2; omega
  have HWO := Lib.hid (walkof_head T w N hin hN)
  have HLR : Hid (∀ b, lr [Lev.mk (some ⟨b, 0, none⟩) 1 [T]] ≤ 4194304) := Lib.hid (fun b => by rw [lr_one]; omega)
  have HG : Hid (∀ b, GoodS [Lev.mk (some ⟨b, 0, none⟩) 1 [T]]) := Lib.hid (fun b L hL u hu => by
    obtain rfl : L = _ := List.mem_singleton.1 hL
    obtain rfl : u = T := List.mem_singleton.1 hu
    exact hg)
  have hs0 : ∀ b, fitS [Lev.mk (some ⟨b, 0, none⟩) 1 [T]] = T.pt.fitB := fun b => by simp [fitS, AT.ptL, PT.fitBL]
  have HS0 := Lib.hid hs0
  obtain ⟨tot, htot⟩ : ∃ tot, tot = T.pt.fitB := ⟨_, rfl⟩
  rw [← htot] at HS0 ⊢
  have HVO := Lib.hid (fun (W : World) (hb : Below w.heap.size w W) => valok_impl T W N (hin.blw hb hN) (Nat.le_trans hN hb.size) hg)
  obtain ⟨vo, hvo⟩ : ∃ vo, vo = T.pt.ok := ⟨_, rfl⟩
  rw [← hvo] at HVO ⊢
  clear hvo
  obtain ⟨res, hres⟩ : ∃ res, res = (vo && tot) := ⟨_, rfl⟩
  rw [← hres]
  have HRES := Lib.hid hres
  clear hres
  clear hcb hin hs0 htot hg
  obtain ⟨k, n, x, s, a, cap, l⟩ := T
  show Calls Try.prog 36 #[.agg #[.int .i64 k, .int .i64 n, .int .i64 x, .string ⟨s.toArray⟩, .slice a l.length cap]] w _
  go_enter Try.func36, Try.ntmps36
  go_wp2_with fail
  have hbv0 := vbox w (.cells #[.int .i64 k, .int .i64 n, .int .i64 x, .string ⟨s.toArray⟩, .slice a l.length cap] 26)
  refine (HVO.out _ hbv0).mono ?_
  rintro e w0 ⟨rfl, hbv⟩
  obtain ⟨c0, c1, c2, c3, c4⟩ := box5 w k n x ⟨s.toArray⟩ a l.length cap 26 (by simpa using hbv)
  have hw0 : Below w.heap.size w w0 := hbv0.trans (hbv.mono hbv0.size)
  clear hbv hbv0 HVO
  cases vo with
  | false =>
    go_wp2
    go_ret
    exact ⟨by rw [HRES.out]; rfl, hw0⟩
  | true =>
  have hrt : tot = res := by rw [HRES.out]; rfl
  subst hrt
  clear HRES
  go_wp2_with fail
  refine (HWO.out _ hw0).mono ?_
  rintro e w1 ⟨P, g, b, B, rfl, hw1, hB, hb1, hbw⟩
  have hBw : w.heap.size ≤ B := Nat.le_trans hw0.size hB
  have HW1 := Lib.hid hw1
  have HBW := Lib.hid hbw
  clear hw1 hb1 hbw hB c0 c1 c2 c3 c4
  go_wp2_with fail
  refine (next_head HW1.out hBw HBW.out (by simp)).mono ?_
  rintro e w2 (⟨S1, E, L, t, tl, a', c', g', cap', hS, hE, hL, rfl, hw2, hg2, ho2, hb2⟩ | ⟨hS, -⟩)
  case inr => exact absurd (hS _ (List.mem_singleton.2 rfl)) (by simp)
  have hhead : HeadF w (w2.alloc (.cells #[.int .i64 t.k, .int .i64 t.n, .int .i64 t.x, .string ⟨t.s.toArray⟩, .slice t.a t.l.length t.cap] 26)) B P tot w2.heap.size := by
    have hl := hw2.lt
    have hp := hw2.pB
    have hgs := HG.out b
    rw [hS] at hgs
    refine ⟨g', cap', _, _, t, hw2.blw (vbox _ _), ?_, head_in (hw2.blw (vbox _ _)), ⟨by omega, by omega, by omega⟩, ⟨hBw, hb2.alloc hb2.size _⟩, ?_, (hgs.step a' c' hL).1, (hgs.step a' c' hL).2, ?_⟩
    · refine ⟨?_, ?_, ?_, ?_, ?_⟩ <;> simp [go_sem]
    · rw [← fitS_step S1 E L t tl a' c' hE hL, ← hS]; exact HS0.out _
    · have := lr_step S1 E L t tl a' c' hE hL
      rw [← hS] at this
      exact Nat.le_trans this (HLR.out b)
  have HHEAD := Lib.hid hhead
  clear hS hE hL hw2 hg2 ho2 hb2 hhead HLR HS0 HG HWO HW1
  go_wp2_with fail
  obtain ⟨M, hM1, hM0⟩ := leftM_ex P
  have HM1 := Lib.hid hM1
  have HM0 := Lib.hid hM0
  clear hM1 hM0
  go_loopw [4, 5] (fun x more wr => ∃ bo : Bool, more = .bool bo ∧ ((bo = true ∧ ∃ X : Nat, x = .pointer (some ⟨X, 0, none⟩) ∧ HeadF w wr B P tot X) ∨ (bo = false ∧ tot = true ∧ Below w.heap.size w wr))) (fun _ m wr => M m wr)
  case atStart => exact ⟨true, rfl, .inl ⟨rfl, _, rfl, HHEAD.out⟩⟩
  case round =>
    obtain ⟨bo, rfl, ⟨rfl, X, rfl, hh⟩ | ⟨rfl, hcC, hbf⟩⟩ := hrel
    · obtain ⟨g, cap, S, d, t, hw, hx, hin, hX, ⟨hB, hb⟩, ⟨hok, hgt, hgs, hl⟩⟩ := hh
      obtain ⟨c0, c1, c2, c3, c4⟩ := hx
      have HX := Lib.hid hX
      have HW := Lib.hid hw
      have HWR := Lib.hid hb
      have HGS := Lib.hid hgs
      have HL := Lib.hid hl
      have HCK := Lib.hid (fun W => tkind_impl t.k W)
      have HCN := Lib.hid (fun (W : World) (hbW : Below wr.heap.size wr W) => hasn_impl t W B hgt.1 (hin.blw hbW (Nat.le_of_lt (Nat.lt_of_le_of_lt hw.pB (cell_lt hw.rest)))) hgt.2 (Nat.le_trans (Nat.le_of_lt (Nat.lt_of_le_of_lt hw.pB (cell_lt hw.rest))) hbW.size))
      have HTT := Lib.hid hok
      have hfn : Hid (fitN t = (kText t.k && hasN t)) := Lib.hid rfl
      clear hok hw hX hb hgs hl hin hgt
      obtain ⟨b1, hb1e⟩ : ∃ b1, b1 = kText t.k := ⟨_, rfl⟩
      obtain ⟨b2, hb2e⟩ : ∃ b2, b2 = hasN t := ⟨_, rfl⟩
      rw [← hb1e] at HCK hfn
      rw [← hb2e] at HCN hfn
      clear hb1e hb2e
      go_wp2_with fail
      refine (HCK.out _).mono ?_
      rintro e w4 ⟨rfl, hb4⟩
      have HB4 := Lib.hid hb4
      replace c0 := keep_below hb4 c0
      replace c1 := keep_below hb4 c1
      replace c2 := keep_below hb4 c2
      replace c3 := keep_below hb4 c3
      replace c4 := keep_below hb4 c4
      clear hb4
      cases b1 with
      | false =>
        have HT2 : Hid (tot = false) := Lib.hid (by rw [← HTT.out, hfn.out]; rfl)
        go_wp2
        go_ret
        exact ⟨by rw [HT2.out]; rfl, HWR.out.trans (HB4.out.mono HWR.out.size)⟩
      | true =>
      go_wp2_with fail
      refine (HCN.out _ HB4.out).mono ?_
      rintro e w7 ⟨rfl, hb7⟩
      have HB6 := Lib.hid (HB4.out.trans (hb7.mono HB4.out.size))
      have HBF := Lib.hid (HWR.out.trans (HB6.out.mono HWR.out.size))
      replace c0 := keep_below hb7 c0
      replace c1 := keep_below hb7 c1
      replace c2 := keep_below hb7 c2
      replace c3 := keep_below hb7 c3
      replace c4 := keep_below hb7 c4
      clear hb7 HCN HCK
      cases b2 with
      | false =>
        have HT2 : Hid (tot = false) := Lib.hid (by rw [← HTT.out, hfn.out]; rfl)
        go_wp2
        go_ret
        exact ⟨by rw [HT2.out]; rfl, HBF.out⟩
      | true =>
      have HT : Hid ((true && fitS S) = tot) := Lib.hid (by rw [← HTT.out, hfn.out]; rfl)
      clear HTT hfn
      have hT2 : fitS S = tot := by rw [← HT.out, Bool.true_and]
      have HT2 := Lib.hid hT2
      have hwx := HW.out.blw HB6.out
      have HWX := Lib.hid hwx
      clear HT hT2 hwx
      go_wp2_with fail
      have HWN := Lib.hid (HWX.out.blw (vbox _ (.cells #[.int .i64 t.k, .int .i64 t.n, .int .i64 t.x, .string ⟨t.s.toArray⟩, .slice t.a t.l.length t.cap] 26)))
      refine (next_head (w := w) HWN.out hB (HBF.out.alloc HBF.out.size _) (by have := HL.out; simp only [lr] at this; omega)).mono ?_
      have hl6 := HWX.out.lt
      have hp6 := HWX.out.pB
      have hBR := HBF.out
      rintro e w8 (⟨S1', E', L', t2, tl', a1', c1', g1', cap1', hS, hE, hL, rfl, hw2, hg2, ho2, hb2⟩ | ⟨hS, rfl, ho, hb2⟩)
      · have hblk := ho2.block w7.heap.size (by simp) (by omega) (by omega)
        obtain ⟨d0, d1, d2, d3, d4, df⟩ := vold hblk
        simp only [World.size_alloc] at hg2
        have hXX : w7.heap.size ≠ P ∧ w7.heap.size ≠ g1' ∧ B ≤ w7.heap.size := ⟨by omega, by omega, by omega⟩
        have hwx := setW (o := 4) (u := .slice t2.a t2.l.length t2.cap) (setW (o := 3) (u := .string ⟨t2.s.toArray⟩) (setW (o := 2) (u := .int .i64 t2.x) (setW (o := 1) (u := .int .i64 t2.n) (setW (o := 0) (u := .int .i64 t2.k) hw2 hXX) hXX) hXX) hXX) hXX
        have hww : w.heap.size ≤ w7.heap.size := hBR.size
        have hbx := bset (bset (bset (bset (bset hb2 hww (o := 0) (u := .int .i64 t2.k)) hww (o := 1) (u := .int .i64 t2.n)) hww (o := 2) (u := .int .i64 t2.x)) hww (o := 3) (u := .string ⟨t2.s.toArray⟩)) hww (o := 4) (u := .slice t2.a t2.l.length t2.cap)
        have hgs := HGS.out
        have hok2 := HT2.out
        have hlr := HL.out
        have hms : M (.bool true) (((((w8.setCell ⟨w7.heap.size, 0, none⟩ (.int .i64 t2.k)).setCell ⟨w7.heap.size, 1, none⟩ (.int .i64 t2.n)).setCell ⟨w7.heap.size, 2, none⟩ (.int .i64 t2.x)).setCell ⟨w7.heap.size, 3, none⟩ (.string ⟨t2.s.toArray⟩)).setCell ⟨w7.heap.size, 4, none⟩ (.slice t2.a t2.l.length t2.cap)) < M (.bool true) wr := by
          rw [HM1.out _ _ _ _ _ _ _ hwx, HM1.out _ _ _ _ _ _ _ HW.out, hS, remN_step S1' E' L' t2 tl' a1' c1' hE hL]
          omega
        rw [hS] at hgs hok2
        have hhead : HeadF w (((((w8.setCell ⟨w7.heap.size, 0, none⟩ (.int .i64 t2.k)).setCell ⟨w7.heap.size, 1, none⟩ (.int .i64 t2.n)).setCell ⟨w7.heap.size, 2, none⟩ (.int .i64 t2.x)).setCell ⟨w7.heap.size, 3, none⟩ (.string ⟨t2.s.toArray⟩)).setCell ⟨w7.heap.size, 4, none⟩ (.slice t2.a t2.l.length t2.cap)) B P tot w7.heap.size := by
          refine ⟨g1', cap1', _, _, t2, hwx, ?_, head_in hwx, hXX, ⟨hB, hbx⟩, ?_, (hgs.step a1' c1' hL).1, (hgs.step a1' c1' hL).2, ?_⟩
          · refine ⟨?_, ?_, ?_, ?_, ?_⟩ <;> simp [go_sem, d0, d1, d2, d3, d4]
          · rw [← fitS_step S1' E' L' t2 tl' a1' c1' hE hL]; exact hok2
          · have := lr_step S1' E' L' t2 tl' a1' c1' hE hL
            rw [← hS] at this
            exact Nat.le_trans this hlr
        have HMS := Lib.hid hms
        have HHEAD2 := Lib.hid hhead
        clear hS hE hL hw2 hg2 ho2 hb2 hwx hms hhead hXX hblk hl6 hp6 hbx hgs hok2 hlr hBR
        go_wp2
        go_roundw
        case rel => exact ⟨true, rfl, .inl ⟨rfl, _, rfl, HHEAD2.out⟩⟩
        case measure => exact HMS.out
      · have hblk := ho.block w7.heap.size (by simp) (by omega) (by omega)
        obtain ⟨d0, d1, d2, d3, d4, df⟩ := vold hblk
        have hT : tot = true := by rw [← HT2.out]; exact fitS_empty _ hS
        have HTT := Lib.hid hT
        have hww : w.heap.size ≤ w7.heap.size := hBR.size
        have HBX := Lib.hid (bset (bset (bset (bset (bset hb2 hww (o := 0) (u := .int .i64 0)) hww (o := 1) (u := .int .i64 0)) hww (o := 2) (u := .int .i64 0)) hww (o := 3) (u := .string ⟨#[]⟩)) hww (o := 4) (u := .slice none 0 0))
        have HMS : Hid (∀ w9 : World, M (.bool false) w9 < M (.bool true) wr) := Lib.hid (fun w9 => by rw [HM0.out, HM1.out _ _ _ _ _ _ _ HW.out]; omega)
        clear hS ho hb2 hblk hl6 hp6 hww hBR hT
        go_wp2
        go_roundw
        case rel => exact ⟨false, rfl, .inr ⟨rfl, HTT.out, HBX.out⟩⟩
        case measure => exact HMS.out _
    · have HBF := Lib.hid hbf
      have HCC := Lib.hid hcC
      clear hbf hcC
      go_wp2
      go_ret
      exact ⟨by rw [HCC.out]; rfl, HBF.out⟩
end Go.Proofs.Ytnikcgmbkmbloaa
