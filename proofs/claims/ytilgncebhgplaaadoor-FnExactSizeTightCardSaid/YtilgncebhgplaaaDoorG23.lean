import Derived.Test.YtilgncebhgplaaaDoorG20
import Derived.Test.YtilgncebhgplaaaDoorG18
import Derived.Test.YtilgncebhgplaaaDoorG22
import Derived.Test.YtilgncebhgplaaaDoorG21
import Derived.Deep.LoopGhost
/- FitsTight of the model. -/
namespace Go.Proofs.YtilgncebhgplaaaDoor
open Go.RowKit
set_option linter.unusedVariables false
set_option maxRecDepth 100000
theorem fit13L_take (l : List PT) (i : Nat) (h : i < l.length) : PT.fit13L (l.take (i + 1)) = (PT.fit13L (l.take i) && (l[i]).fit13) := by
  induction l generalizing i with
  | nil => simp at h
  | cons t l ih =>
    cases i with
    | zero => simp [PT.fit13L]
    | succ i =>
      have := ih i (by simpa using h)
      simp only [List.take_succ_cons, PT.fit13L, List.getElem_cons_succ, this, Bool.and_assoc]
theorem fit13L_false (l : List PT) (i : Nat) (h : i < l.length) (hf : (l[i]).fit13 = false) : PT.fit13L l = false := by
  induction l generalizing i with
  | nil => simp at h
  | cons t l ih =>
    cases i with
    | zero =>
      simp only [List.getElem_cons_zero] at hf
      rw [PT.fit13L, hf, Bool.false_and]
    | succ i =>
      rw [PT.fit13L, ih i (by simpa using h) (by simpa using hf), Bool.and_false]
theorem ord_step (l : List PT) (j : Nat) (h : j + 2 < l.length) : ordN (l.drop j) = (bltB ((l[j]).tight hdFor) ((l[j + 2]).tight hdFor) && ordN (l.drop (j + 2))) := by
  rw [List.drop_eq_getElem_cons (show j < l.length by omega), List.drop_eq_getElem_cons (show j + 1 < l.length by omega), List.drop_eq_getElem_cons (show j + 1 + 1 < l.length by omega), ordN]
theorem ord_end (l : List PT) (j : Nat) (h : l.length ≤ j + 2) : ordN (l.drop j) = true := by
  have hl : (l.drop j).length ≤ 2 := by rw [List.length_drop]; omega
  generalize l.drop j = m at hl
  rcases m with _ | ⟨t, _ | ⟨u, _ | ⟨v, m⟩⟩⟩
  · rfl
  · rfl
  · rfl
  · simp at hl
theorem fit13_eq (t : AT) : t.pt.fit13 = (PT.fit13L (AT.ptL t.l) && (!decide (t.k = 10) || ordN (AT.ptL t.l)) && !decide (t.k = 6)) := by
  obtain ⟨k, n, x, s, a, cap, l⟩ := t
  show PT.fit13 (.mk k n x s (AT.ptL l)) = _
  rw [PT.fit13]
  rfl
set_option maxHeartbeats 4000000 in
theorem l13fits_spec (T : AT) : GoodT T → ∀ (w : World) (N : Nat), T.In w N → N ≤ w.heap.size → Calls Tryd.prog 31 #[T.val] w fun e w' => e = .returned (.bool T.pt.fit13) ∧ Below w.heap.size w w' := by
  induction T using AT.ind with
  | h k n x s a cap l ih =>
    intro hg w N hin hN
    have hll : l.length ≤ 1048576 := by have := hg.2; simp only [AT.pt, PT.sz, AT.ptL_length] at this; omega
    have hc := fun (t : AT) (ht : t ∈ l) (w1 : World) (hb : Below w.heap.size w w1) => ih t ht (hg.sub ht) w1 N ((hin.lv.sub t ht).blw hb hN) (Nat.le_trans hN hb.size)
    have HLT := Lib.hid (fun (t u : AT) (ht : t ∈ l) (hu : u ∈ l) (w1 : World) (hb : Below w.heap.size w w1) => lesstight_spec t u w1 N ((hin.lv.sub t ht).blw hb hN) ((hin.lv.sub u hu).blw hb hN) (Nat.le_trans hN hb.size) (hg.sub ht).1 (hg.sub hu).1 (hg.sub ht).2 (hg.sub hu).2)
    have H := Lib.hid hin.lv
    have HC := Lib.hid hc
    have hok : (AT.mk k n x s a cap l).pt.fit13 = (PT.fit13L (AT.ptL l) && (!decide (k = 10) || ordN (AT.ptL l)) && !decide (k = 6)) := fit13_eq _
    have HOK := Lib.hid hok
    clear hc ih hin hg hok
    show Calls Tryd.prog 31 #[.agg #[.int .i64 k, .int .i64 n, .int .i64 x, .string ⟨s.toArray⟩, .slice a l.length cap]] w _
    go_enter Tryd.func31, Tryd.ntmps31
    go_wp2
    go_loopw [3] (fun i wr => ∃ i' : Nat, i = .int .i64 i' ∧ i' ≤ l.length ∧ Hid (PT.fit13L ((AT.ptL l).take i') = true) ∧ Below (w.heap.size + 1) (w.alloc (.cells #[.int .i64 k, .int .i64 n, .int .i64 x, .string ⟨s.toArray⟩, .slice a l.length cap] 29)) wr) (fun i _ => l.length - (intOf i).toNat)
    case atStart => exact ⟨0, rfl, Nat.zero_le _, Lib.hid (by simp [PT.fit13L]), Below.refl _ _⟩
    case round =>
      obtain ⟨i', rfl, hi', HSM, hb⟩ := hrel
      have hbl := hb.block w.heap.size (by omega)
      obtain ⟨f0, f1, f2, f3, f4, -⟩ := vold hbl
      have hBw : Below w.heap.size w wr := (vbox _ _).trans (hb.mono (by omega))
      have HB := Lib.hid hb
      have HBw := Lib.hid hBw
      clear hb hbl
      by_cases hlt : i' < l.length
      · obtain ⟨c, o, rfl, hcN, hC⟩ := H.out.cell i' hlt
        have hC := hC.keep (hBw.block c (by omega))
        have hc := fun (w1 : World) (hb1 : Below wr.heap.size wr w1) => HC.out l[i'] (List.getElem_mem hlt) w1 (hBw.trans (hb1.mono hBw.size))
        have HCC := Lib.hid hc
        have e1 : i' < (AT.ptL l).length := by rw [AT.ptL_length]; exact hlt
        have hst := fit13L_take (AT.ptL l) i' e1
        have hst2 := fit13L_false (AT.ptL l) i' e1
        rw [ptL_get l i' hlt] at hst hst2
        obtain ⟨V, hV⟩ : ∃ V, V = l[i'] := ⟨_, rfl⟩
        rw [← hV] at hC HCC hst hst2
        have HST := Lib.hid hst
        have HST2 := Lib.hid hst2
        obtain ⟨c0, c1, c2, c3, c4⟩ := hC
        have hi0 : (0 : Int) ≤ i' := by omega
        have hi1 : (i' : Int) < l.length := by omega
        clear hV hst hst2 hc e1 hBw
        go_wp2_with fail
        refine (HCC.out _ (Below.refl _ _)).mono ?_
        rintro e w2 ⟨rfl, hb2⟩
        have HB2 := Lib.hid hb2
        have hz := HBw.out.size
        clear hb2
        cases hv1 : V.pt.fit13
        · have HV := Lib.hid hv1
          clear hv1
          go_wp2
          go_ret
          exact ⟨by rw [HOK.out, HST2.out HV.out]; rfl, HBw.out.trans (HB2.out.mono hz)⟩
        · have HV := Lib.hid hv1
          clear hv1
          go_wp2
          go_roundw
          case rel => exact ⟨i' + 1, by go_num, by omega, Lib.hid (by rw [HST.out, HSM.out, HV.out]; rfl), HB.out.trans (HB2.out.mono (by have := HB.out.size; simp at this; omega))⟩
          case measure => simp [intOf]; omega
      · have hi2 : i' = l.length := by omega
        subst hi2
        clear hBw
        have hT : PT.fit13L (AT.ptL l) = true := by
          have := HSM.out
          rw [List.take_of_length_le (by simp)] at this
          exact this
        have HR : Hid ((AT.mk k n x s a cap l).pt.fit13 = ((!decide (k = 10) || ordN (AT.ptL l)) && !decide (k = 6))) := Lib.hid (by rw [HOK.out, hT, Bool.true_and])
        clear HSM HOK hT HC
        have hbw := HBw.out
        obtain ⟨wo, rfl⟩ : ∃ wo, wo = wr := ⟨_, rfl⟩
        have hlo := cell_lt f0
        have HCB := Lib.hid (fun (W : World) (hb : Below wo.heap.size wo W) => (⟨keep_below hb f0, keep_below hb f4⟩ : W.cell? ⟨w.heap.size, 0, none⟩ = some (.int .i64 k) ∧ W.cell? ⟨w.heap.size, 4, none⟩ = some (.slice a l.length cap)))
        have HB0 := Lib.hid hbw
        clear hbw HB HBw f1 f2 f3 hlo
        by_cases h10 : k = 10
        · subst h10
          go_wp2_with fail
          go_loopw [4] (fun i W => ∃ j : Nat, i = .int .i64 ((j : Int) + 2) ∧ j ≤ l.length + 2 ∧ Hid (ordN (AT.ptL l) = ordN ((AT.ptL l).drop j)) ∧ Hid (Below wo.heap.size wo W)) (fun i _ => l.length + 4 - (intOf i).toNat)
          case atStart => exact ⟨0, rfl, Nat.zero_le _, Lib.hid rfl, Lib.hid (Below.refl _ _)⟩
          case round =>
            obtain ⟨j, rfl, hj, HD, HBW⟩ := hrel
            obtain ⟨g0, g4⟩ := HCB.out _ HBW.out
            have hjw : IntKind.i64.wrap ((j : Int) + 2 - 2) = j := by rw [Int.add_sub_cancel]; exact IntWalk.i64_in _ (by omega)
            have hjw4 : IntKind.i64.wrap (j : Int) = j := IntWalk.i64_in _ (by omega)
            have hjw3 : IntKind.i64.wrap ((j : Int) + 2 + 2) = (j : Int) + 2 + 2 := IntWalk.i64_in _ (by omega)
            by_cases hlt : j + 2 < l.length
            · have hj1 : (j : Int) + 2 < l.length := by omega
              have hj0 : (0 : Int) ≤ (j : Int) := by omega
              have hj2 : (0 : Int) ≤ (j : Int) + 2 := by omega
              have hj3 : (j : Int) < l.length := by omega
              have hjt : ((j : Int) + 2).toNat = j + 2 := by omega
              obtain ⟨c, o, ha, hcN, hC⟩ := H.out.cell j (by omega)
              obtain ⟨c', o', ha', _, hC'⟩ := H.out.cell (j + 2) hlt
              subst ha
              injection ha' with ha'
              injection ha' with e1 e2
              subst e1 e2
              have hbX := HB0.out.trans (HBW.out.mono HB0.out.size)
              replace hC := hC.keep (hbX.block c (by omega))
              replace hC' := hC'.keep (hbX.block c (by omega))
              have hos := ord_step (AT.ptL l) j (by rw [AT.ptL_length]; exact hlt)
              rw [ptL_get l j (by omega), ptL_get l (j + 2) hlt] at hos
              obtain ⟨V, hV⟩ : ∃ V, V = l[j] := ⟨_, rfl⟩
              obtain ⟨U, hU⟩ : ∃ U, U = l[j + 2] := ⟨_, rfl⟩
              have hVm : V ∈ l := by rw [hV]; exact List.getElem_mem _
              have hUm : U ∈ l := by rw [hU]; exact List.getElem_mem _
              rw [← hV] at hC hos
              rw [← hU] at hC' hos
              obtain ⟨c0, c1, c2, c3, c4⟩ := hC
              obtain ⟨d0, d1, d2, d3, d4⟩ := hC'
              obtain ⟨lb, hlb⟩ : ∃ lb, lb = bltB (V.pt.tight hdFor) (U.pt.tight hdFor) := ⟨_, rfl⟩
              rw [← hlb] at hos
              have HOS := Lib.hid hos
              have HLV := Lib.hid (fun (W : World) (hb : Below wr.heap.size wr W) => (show Calls Tryd.prog 22 #[.agg #[.int .i64 V.k, .int .i64 V.n, .int .i64 V.x, .string ⟨V.s.toArray⟩, .slice V.a V.l.length V.cap], .agg #[.int .i64 U.k, .int .i64 U.n, .int .i64 U.x, .string ⟨U.s.toArray⟩, .slice U.a U.l.length U.cap]] W fun e w' => e = .returned (.bool lb) ∧ Below W.heap.size W w' from by rw [hlb]; exact HLT.out V U hVm hUm W (hbX.trans (hb.mono hbX.size))))
              have HS := Lib.hid (fun (W' : World) (hb : Below wr.heap.size wr W') => (⟨hb, keep_below hb g4, keep_below hb c0, keep_below hb c1, keep_below hb c2, keep_below hb c3, keep_below hb c4, keep_below hb d0, keep_below hb d1, keep_below hb d2, keep_below hb d3, keep_below hb d4⟩ : Below wr.heap.size wr W' ∧ W'.cell? ⟨w.heap.size, 4, none⟩ = some (.slice (some ⟨c, o, none⟩) l.length cap) ∧ W'.cell? ⟨c, o + j * 5, none⟩ = some (.int .i64 V.k) ∧ W'.cell? ⟨c, o + j * 5 + 1, none⟩ = some (.int .i64 V.n) ∧ W'.cell? ⟨c, o + j * 5 + 2, none⟩ = some (.int .i64 V.x) ∧ W'.cell? ⟨c, o + j * 5 + 3, none⟩ = some (.string ⟨V.s.toArray⟩) ∧ W'.cell? ⟨c, o + j * 5 + 4, none⟩ = some (.slice V.a V.l.length V.cap) ∧ W'.cell? ⟨c, o + (j + 2) * 5, none⟩ = some (.int .i64 U.k) ∧ W'.cell? ⟨c, o + (j + 2) * 5 + 1, none⟩ = some (.int .i64 U.n) ∧ W'.cell? ⟨c, o + (j + 2) * 5 + 2, none⟩ = some (.int .i64 U.x) ∧ W'.cell? ⟨c, o + (j + 2) * 5 + 3, none⟩ = some (.string ⟨U.s.toArray⟩) ∧ W'.cell? ⟨c, o + (j + 2) * 5 + 4, none⟩ = some (.slice U.a U.l.length U.cap)))
              have hbr := Below.refl wr.heap.size wr
              clear hos hlb hV hU hVm hUm hbX hcN hlt HCB
              go_wp2_with fail
              go_region_held3 (fun W' => Below wr.heap.size wr W' ∧ W'.cell? ⟨w.heap.size, 4, none⟩ = some (.slice (some ⟨c, o, none⟩) l.length cap) ∧ W'.cell? ⟨c, o + j * 5, none⟩ = some (.int .i64 V.k) ∧ W'.cell? ⟨c, o + j * 5 + 1, none⟩ = some (.int .i64 V.n) ∧ W'.cell? ⟨c, o + j * 5 + 2, none⟩ = some (.int .i64 V.x) ∧ W'.cell? ⟨c, o + j * 5 + 3, none⟩ = some (.string ⟨V.s.toArray⟩) ∧ W'.cell? ⟨c, o + j * 5 + 4, none⟩ = some (.slice V.a V.l.length V.cap) ∧ W'.cell? ⟨c, o + (j + 2) * 5, none⟩ = some (.int .i64 U.k) ∧ W'.cell? ⟨c, o + (j + 2) * 5 + 1, none⟩ = some (.int .i64 U.n) ∧ W'.cell? ⟨c, o + (j + 2) * 5 + 2, none⟩ = some (.int .i64 U.x) ∧ W'.cell? ⟨c, o + (j + 2) * 5 + 3, none⟩ = some (.string ⟨U.s.toArray⟩) ∧ W'.cell? ⟨c, o + (j + 2) * 5 + 4, none⟩ = some (.slice U.a U.l.length U.cap)) ((refine HS.out _ ?_; first | with_reducible assumption | with_reducible exact Below.drew (by with_reducible assumption))) ((first | (go_at_call 22; go_split_ands; refine (HLV.out _ (by first | with_reducible assumption | with_reducible exact Below.drew (by with_reducible assumption))).mono ?_; rintro e w9 ⟨rfl, b9⟩; have bb9 := below_grow (by first | with_reducible assumption | with_reducible exact Below.drew (by with_reducible assumption) : Below wr.heap.size wr _) b9)))
              all_goals
                have HB9 := Lib.hid bb9
                clear bb9 b9
                cases lb
                · have HOF : Hid (ordN (AT.ptL l) = false) := Lib.hid (by rw [HD.out, HOS.out, Bool.false_and])
                  go_wp2
                  go_ret
                  exact ⟨by rw [HR.out, HOF.out]; rfl, HB0.out.trans ((HBW.out.trans (HB9.out.mono HBW.out.size)).mono HB0.out.size)⟩
                · have HOT : Hid (ordN (AT.ptL l) = ordN ((AT.ptL l).drop (j + 2))) := Lib.hid (by rw [HD.out, HOS.out, Bool.true_and])
                  go_wp2
                  go_roundw
                  case rel => exact ⟨j + 2, by go_num, by omega, HOT, Lib.hid (HBW.out.trans (HB9.out.mono HBW.out.size))⟩
                  case measure => simp [intOf]; omega
            · have hj1 : ¬ ((j : Int) + 2 < l.length) := by omega
              have HOT : Hid (ordN (AT.ptL l) = true) := Lib.hid (by rw [HD.out]; exact ord_end _ _ (by rw [AT.ptL_length]; omega))
              clear hlt
              go_wp2
              go_ret
              exact ⟨by rw [HR.out, HOT.out]; rfl, HB0.out.trans (HBW.out.mono HB0.out.size)⟩
        · have e10 : (k == 10) = false := by simpa using h10
          have HR2 : Hid ((AT.mk k n x s a cap l).pt.fit13 = !decide (k = 6)) := Lib.hid (by rw [HR.out, decide_eq_false h10]; simp)
          have HE6 : Hid ((k != 6) = !decide (k = 6)) := Lib.hid (by by_cases h : k = 6 <;> simp [h])
          clear h10
          go_wp2_with fail
          go_loopw [4] (fun i W => i = .int .i64 2 ∧ wo = W) (fun i _ => 0)
          case atStart => exact ⟨rfl, rfl⟩
          case round =>
            obtain ⟨rfl, rfl⟩ := hrel
            by_cases hlt : (2 : Int) < l.length
            · go_wp2
              go_ret
              exact ⟨by rw [HR2.out, ← HE6.out]; rfl, HB0.out⟩
            · go_wp2
              go_ret
              exact ⟨by rw [HR2.out, ← HE6.out]; rfl, HB0.out⟩
end Go.Proofs.YtilgncebhgplaaaDoor
/- hasKind of the program, asked for decimal numbers. -/
namespace Go.Proofs.YtilgncebhgplaaaDoor
open Go.RowKit
set_option linter.unusedVariables false
def h6S (S : List Lev) : Bool := S.any fun L => PT.has6L (AT.ptL L.l)
theorem h6S_append (S R : List Lev) : h6S (S ++ R) = (h6S S || h6S R) := by simp [h6S, List.any_append]
theorem h6S_empty (S : List Lev) (h : ∀ L ∈ S, L.l = []) : h6S S = false := by
  simp only [h6S, List.any_eq_false]
  intro L hL
  rw [h L hL]
  simp [AT.ptL, PT.has6L]
theorem has6_eq (t : AT) : t.pt.has6 = (decide (t.k = 6) || PT.has6L (AT.ptL t.l)) := by
  obtain ⟨k, n, x, s, a, cap, l⟩ := t
  show PT.has6 (.mk k n x s (AT.ptL l)) = _
  rw [PT.has6]
  rfl
theorem h6S_step (S1 E : List Lev) (L : Lev) (t : AT) (tl : List AT) (a c) (hE : ∀ L ∈ E, L.l = []) (hl : L.l = t :: tl) : h6S (S1 ++ L :: E) = (decide (t.k = 6) || h6S (S1 ++ [Lev.mk a c tl, Lev.mk t.a t.cap t.l])) := by
  have e : h6S (L :: E) = (PT.has6L (AT.ptL L.l) || h6S E) := rfl
  rw [h6S_append, h6S_append, e, h6S_empty E hE, hl]
  show (h6S S1 || ((t.pt.has6 || PT.has6L (AT.ptL tl)) || false)) = _
  rw [has6_eq]
  show _ = (decide (t.k = 6) || (h6S S1 || (PT.has6L (AT.ptL tl) || (PT.has6L (AT.ptL t.l) || false))))
  cases h6S S1 <;> cases decide (t.k = 6) <;> cases PT.has6L (AT.ptL tl) <;> cases PT.has6L (AT.ptL t.l) <;> rfl
theorem setW6 {wr : World} {B P g cap X o : Nat} {S : List Lev} {d : Int} {u : Value} (h : WalkAt wr B B P g cap S d) (hX : X ≠ P ∧ X ≠ g ∧ B ≤ X) : WalkAt (wr.setCell ⟨X, o, none⟩ u) B B P g cap S d := by
  refine h.kept (fun k hk => Below.heap_setCell _ _ _ _ ?_)
  show k ≠ X
  rcases hk with rfl | rfl | hk <;> omega
set_option maxHeartbeats 4000000 in
theorem has6_impl (T : AT) (w : World) (N : Nat) (hin : T.In w N) (hN : N ≤ w.heap.size) (hsz : T.pt.sz ≤ 1048576) :
    Calls Tryd.prog 34 #[T.val, .int .i64 6] w fun e w' => e = .returned (.bool T.pt.has6) ∧ Below w.heap.size w w' := by
  have hcb : T.pt.cnt ≤ 1048577 := by have := cnt_le_sz T.pt; omega
  have HWO := Lib.hid (walkof_head T w N hin hN)
  have HREM : Hid (∀ b, remN [Lev.mk (some ⟨b, 0, none⟩) 1 [T]] ≤ 1048577) := Lib.hid (fun b => by simp [remN, AT.ptL, PT.cntL]; omega)
  have HLR : Hid (∀ b, lr [Lev.mk (some ⟨b, 0, none⟩) 1 [T]] ≤ 4194304) := Lib.hid (fun b => by rw [lr_one]; omega)
  have HS0 : Hid (∀ b, h6S [Lev.mk (some ⟨b, 0, none⟩) 1 [T]] = T.pt.has6) := Lib.hid (fun b => by simp [h6S, AT.ptL, PT.has6L])
  obtain ⟨tot, htot⟩ : ∃ tot, tot = T.pt.has6 := ⟨_, rfl⟩
  rw [← htot] at HS0 ⊢
  clear hcb hin htot hsz
  obtain ⟨k, n, x, s, a, cap, l⟩ := T
  show Calls Tryd.prog 34 #[.agg #[.int .i64 k, .int .i64 n, .int .i64 x, .string ⟨s.toArray⟩, .slice a l.length cap], .int .i64 6] w _
  go_enter Tryd.func34, Tryd.ntmps34
  go_wp2_with fail
  refine (HWO.out _ (vbox _ _)).mono ?_
  rintro e w1 ⟨P, g, b, B, rfl, hw1, hB, hb1, hbw⟩
  have hBw : w.heap.size ≤ B := by simp at hB; omega
  have HW1 := Lib.hid hw1
  have HBW := Lib.hid hbw
  clear hw1 hb1 hbw hB
  go_wp2_with fail
  refine (next_head HW1.out hBw HBW.out (by simp)).mono ?_
  rintro e w2 (⟨S1, E, L, t, tl, a', c', g', cap', hS, hE, hL, rfl, hw2, hg2, ho2, hb2⟩ | ⟨hS, -⟩)
  case inr => exact absurd (hS _ (List.mem_singleton.2 rfl)) (by simp)
  have hr2 : remN (S1 ++ [Lev.mk a' c' tl, Lev.mk t.a t.cap t.l]) + 1 ≤ 1048577 := by
    have h1 := HREM.out b
    rw [hS, remN_step S1 E L t tl a' c' hE hL] at h1
    omega
  have hlr : lr (S1 ++ [Lev.mk a' c' tl, Lev.mk t.a t.cap t.l]) ≤ 4194304 := by
    have := lr_step S1 E L t tl a' c' hE hL
    rw [← hS] at this
    exact Nat.le_trans this (HLR.out b)
  have hto : tot = (decide (t.k = 6) || h6S (S1 ++ [Lev.mk a' c' tl, Lev.mk t.a t.cap t.l])) := by rw [← h6S_step S1 E L t tl a' c' hE hL, ← hS]; exact (HS0.out b).symm
  have HH := Lib.hid (HeadAt.new (t := t) hw2 hBw hb2)
  have HR2 := Lib.hid hr2
  have HLEN := Lib.hid hlr
  have HTO := Lib.hid hto
  clear hS hE hL hw2 hg2 ho2 hb2 hr2 hlr hto HREM HWO HLR HS0
  go_wp2_with fail
  go_loopg [6, 7] 1048577 (fun kk x more wr => ∃ bo : Bool, more = .bool bo ∧
    ((bo = true ∧ ∃ g cap S d X t, x = .pointer (some ⟨X, 0, none⟩) ∧ Hid (HeadAt w wr B P g cap S d X t) ∧ Hid (remN S + 1 ≤ kk) ∧ Hid (lr S ≤ 4194304) ∧ Hid (tot = (decide (t.k = 6) || h6S S))) ∨ (bo = false ∧ Hid (tot = false) ∧ Below w.heap.size w wr)))
  case atStart => exact ⟨true, rfl, .inl ⟨rfl, _, _, _, _, _, _, rfl, HH, HR2, HLEN, HTO⟩⟩
  case round =>
    obtain ⟨bo, rfl, ⟨rfl, g, cap, S, d, X, t, rfl, HHH, HR, HLE, HT⟩ | ⟨rfl, HT, hbf⟩⟩ := hrel
    · obtain ⟨c0, c1, c2, c3, c4⟩ := HHH.out.x
      have HBL := Lib.hid HHH.out.below
      by_cases hk : t.k = 6
      · have hq : (t.k == 6) = true := by rw [beq_iff_eq]; exact hk
        have HT2 : Hid (tot = true) := Lib.hid (by rw [HT.out, decide_eq_true hk]; rfl)
        clear hk
        go_wp2
        go_ret
        exact ⟨by rw [HT2.out]; rfl, HBL.out⟩
      · have hq : (t.k == 6) = false := by rw [beq_eq_false_iff_ne]; exact hk
        have HT2 : Hid (tot = h6S S) := Lib.hid (by rw [HT.out, decide_eq_false hk]; rfl)
        have hlen2 : S.length ≤ 4194304 := by have := HLE.out; unfold lr at this; omega
        have hhn := HeadAt.new (t := t) HHH.out.walk HHH.out.bB HHH.out.below
        have HN := Lib.hid hhn
        clear hhn hk
        go_wp2_with fail
        refine (next_head HN.out.walk hBw HN.out.below hlen2).mono ?_
        rintro e w3 (⟨S1, E, L, t', tl, a', c', g', cap', hS, hE, hL, rfl, hw2, hg2, ho2, hb2⟩ | ⟨hS, rfl, ho2, hb2⟩)
        · have hl6 := HHH.out.walk.lt
          have hp6 := HHH.out.walk.pB
          have hblk := ho2.block wr.heap.size (by simp) (by omega) (by omega)
          obtain ⟨d0, d1, d2, d3, d4, df⟩ := vold hblk
          simp only [World.size_alloc] at hg2
          have hXX : wr.heap.size ≠ P ∧ wr.heap.size ≠ g' ∧ B ≤ wr.heap.size := ⟨by omega, by omega, by omega⟩
          have hwx := setW6 (o := 4) (u := .slice t'.a t'.l.length t'.cap) (setW6 (o := 3) (u := .string ⟨t'.s.toArray⟩) (setW6 (o := 2) (u := .int .i64 t'.x) (setW6 (o := 1) (u := .int .i64 t'.n) (setW6 (o := 0) (u := .int .i64 t'.k) hw2 hXX) hXX) hXX) hXX) hXX
          have hww : w.heap.size ≤ wr.heap.size := HHH.out.below.size
          have hbx := bset (bset (bset (bset (bset hb2 hww (o := 0) (u := .int .i64 t'.k)) hww (o := 1) (u := .int .i64 t'.n)) hww (o := 2) (u := .int .i64 t'.x)) hww (o := 3) (u := .string ⟨t'.s.toArray⟩)) hww (o := 4) (u := .slice t'.a t'.l.length t'.cap)
          have hnew : HeadAt w (((((w3.setCell ⟨wr.heap.size, 0, none⟩ (.int .i64 t'.k)).setCell ⟨wr.heap.size, 1, none⟩ (.int .i64 t'.n)).setCell ⟨wr.heap.size, 2, none⟩ (.int .i64 t'.x)).setCell ⟨wr.heap.size, 3, none⟩ (.string ⟨t'.s.toArray⟩)).setCell ⟨wr.heap.size, 4, none⟩ (.slice t'.a t'.l.length t'.cap)) B P g' cap' (S1 ++ [⟨a', c', tl⟩, ⟨t'.a, t'.cap, t'.l⟩]) (S1.length + 1 : Nat) wr.heap.size t' :=
            ⟨hwx, by refine ⟨?_, ?_, ?_, ?_, ?_⟩ <;> simp [go_sem, d0, d1, d2, d3, d4], hXX.1, hXX.2.1, hww, hBw, hbx⟩
          have hr2 : remN (S1 ++ [Lev.mk a' c' tl, Lev.mk t'.a t'.cap t'.l]) + 1 ≤ gk - 1 ∧ 0 < gk := by
            have := remN_step S1 E L t' tl a' c' hE hL
            rw [← hS] at this
            have := HR.out
            omega
          have hlr : lr (S1 ++ [Lev.mk a' c' tl, Lev.mk t'.a t'.cap t'.l]) ≤ 4194304 := by
            have := lr_step S1 E L t' tl a' c' hE hL
            rw [← hS] at this
            exact Nat.le_trans this HLE.out
          have hto : tot = (decide (t'.k = 6) || h6S (S1 ++ [Lev.mk a' c' tl, Lev.mk t'.a t'.cap t'.l])) := by rw [← h6S_step S1 E L t' tl a' c' hE hL, ← hS]; exact HT2.out
          have HNEW := Lib.hid hnew
          have HR3 := Lib.hid hr2
          have HL3 := Lib.hid hlr
          have HT3 := Lib.hid hto
          clear hS hE hL hw2 hg2 ho2 hb2 hnew hr2 hlr hto hwx hbx hblk hl6 hp6
          go_wp2
          go_roundg (gk - 1)
          case rel => exact ⟨true, rfl, .inl ⟨rfl, _, _, _, _, _, _, rfl, HNEW, Lib.hid HR3.out.1, HL3, HT3⟩⟩
          case measure => have := HR3.out; omega
        · have HT3 : Hid (tot = false) := Lib.hid (by rw [HT2.out]; exact h6S_empty S hS)
          have hgk : 0 < gk := by have := HR.out; omega
          have hl6 := HHH.out.walk.lt
          have hp6 := HHH.out.walk.pB
          have hblk := ho2.block wr.heap.size (by simp) (by omega) (by omega)
          obtain ⟨d0, d1, d2, d3, d4, df⟩ := vold hblk
          have hww : w.heap.size ≤ wr.heap.size := HHH.out.below.size
          have HB3 := Lib.hid (bset (bset (bset (bset (bset hb2 hww (o := 0) (u := .int .i64 0)) hww (o := 1) (u := .int .i64 0)) hww (o := 2) (u := .int .i64 0)) hww (o := 3) (u := .string ⟨#[]⟩)) hww (o := 4) (u := .slice none 0 0))
          clear hS ho2 hb2 hblk hl6 hp6 hww
          go_wp2
          go_roundg (gk - 1)
          case rel => exact ⟨false, rfl, .inr ⟨rfl, HT3, HB3.out⟩⟩
          case measure => omega
    · have HBF := Lib.hid hbf
      clear hbf
      go_wp2
      go_ret
      exact ⟨by rw [HT.out]; rfl, HBF.out⟩
end Go.Proofs.YtilgncebhgplaaaDoor
