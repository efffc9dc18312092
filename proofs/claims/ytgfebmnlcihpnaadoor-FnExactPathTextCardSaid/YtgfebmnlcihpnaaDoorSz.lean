/- The size of a law's argument: what szVal and szValS return. -/
import Derived.Test.YtgfebmnlcihpnaaDoorTree
import Derived.Test.YtgfebmnlcihpnaaDoorIn
namespace Go.Proofs.YtgfebmnlcihpnaaDoor
open Go.RowKit
def szR (m : Nat) (left : Nat) : Int := if m ≤ left then (left : Int) - m else -1
theorem szValS_any (l : List AT) (ih : ∀ t ∈ l, t.pt.Wf → ∀ (w : World) (N left : Nat), t.In w N → N ≤ w.heap.size → left ≤ 1048576 →
      Calls Tryd.prog 24 #[t.val, .int .i64 left] w fun e w' => e = .returned (.int .i64 (szR t.pt.sz left)) ∧ Below w.heap.size w w')
    (hwf : ∀ t ∈ l, t.pt.Wf) (hl : l.length ≤ 9223372036854775807) (w : World) (N left : Nat) (a : Option Addr) (cap : Nat) (h : Lv w N a cap l) (hN : N ≤ w.heap.size) (hleft : left ≤ 1048576) :
    Calls Tryd.prog 48 #[.slice a l.length cap, .int .i64 left] w fun e w' => e = .returned (.int .i64 (szR (l.length + PT.szL (AT.ptL l)) left)) ∧ Below w.heap.size w w' := by
  by_cases hlen : l.length ≤ left
  · have h1 : ¬ ((left : Int) - l.length < 0) := by omega
    have H := Lib.hid h
    have IH := Lib.hid ih
    have WF := Lib.hid hwf
    clear h ih hwf
    go_enter Tryd.func48, Tryd.ntmps48
    go_wp2
    go_loopw [1, 5] (fun c i wr => ∃ i' m : Nat, c = .int .i64 m ∧ i = .int .i64 i' ∧ i' ≤ l.length ∧ m + (l.length + PT.szL ((AT.ptL l).take i')) = left ∧ Below w.heap.size w wr) (fun _ i _ => l.length - (intOf i).toNat)
    case atStart => exact ⟨0, left - l.length, by congr 1; omega, rfl, Nat.zero_le _, by simp [PT.szL]; omega, Below.refl _ _⟩
    case round =>
      obtain ⟨i', m, rfl, rfl, hi', hm, hb⟩ := hrel
      have HB := Lib.hid hb
      have HM := Lib.hid hm
      have hm2 : m ≤ 1048576 := by omega
      by_cases hlt : i' < l.length
      · obtain ⟨b, o, rfl, hbN, hC⟩ := H.out.cell i' hlt
        have hC := hC.keep (hb.block b (by omega))
        have hc := fun w' hw hs => IH.out l[i'] (List.getElem_mem hlt) (WF.out _ (List.getElem_mem hlt)) w' N m ((H.out.sub _ (List.getElem_mem hlt)).blw hw hN) hs hm2
        have hs1 : m < (l[i']).pt.sz → ¬ (l.length + PT.szL (AT.ptL l) ≤ left) := by
          intro h1 h2
          have e1 := szL_take (AT.ptL l) i' (by simpa using hlt)
          have e2 := szL_take_le (AT.ptL l) (i' + 1)
          have e3 : (AT.ptL l)[i']'(by simpa using hlt) = (l[i']).pt := by simp [AT.ptL_eq]
          rw [e3] at e1
          have := HM.out
          omega
        have hs2 : (l[i']).pt.sz ≤ m → m - (l[i']).pt.sz + (l.length + PT.szL ((AT.ptL l).take (i' + 1))) = left := by
          intro h1
          have e1 := szL_take (AT.ptL l) i' (by simpa using hlt)
          have e3 : (AT.ptL l)[i']'(by simpa using hlt) = (l[i']).pt := by simp [AT.ptL_eq]
          rw [e3] at e1
          have := HM.out
          omega
        have S1 := Lib.hid hs1
        have S2 := Lib.hid hs2
        clear hs1 hs2 hm
        obtain ⟨T, hT⟩ : ∃ T, T = l[i'] := ⟨_, rfl⟩
        rw [← hT] at hC hc S1 S2
        clear hT
        obtain ⟨c0, c1, c2, c3, c4⟩ := hC
        have HC := Lib.hid hc
        clear hc
        by_cases hfit : T.pt.sz ≤ m
        · have hr : szR T.pt.sz m = ((m - T.pt.sz : Nat) : Int) := by unfold szR; rw [if_pos hfit]; omega
          have hneg : ¬ (((m - T.pt.sz : Nat) : Int) < 0) := by omega
          have HR := Lib.hid hr
          have e2 := Lib.hid (S2.out hfit)
          clear hr hfit
          generalize m - T.pt.sz = m2 at *
          go_wp2_with fail
          refine (HC.out wr hb (by have := hb.size; omega)).mono ?_
          rintro e w2 ⟨rfl, hb2⟩
          rw [HR.out]
          have HB2 := Lib.hid hb2
          clear hb hb2
          go_wp2
          go_roundw
          case rel => exact ⟨i' + 1, m2, rfl, by go_num, by omega, e2.out, HB.out.trans (HB2.out.mono HB.out.size)⟩
          case measure => simp [intOf]; omega
        · have hr : szR T.pt.sz m = -1 := by unfold szR; rw [if_neg hfit]
          have hr2 : szR (l.length + PT.szL (AT.ptL l)) left = -1 := by unfold szR; rw [if_neg (S1.out (by omega))]
          have HR := Lib.hid hr
          have HR2 := Lib.hid hr2
          clear hr hr2 hfit
          go_wp2_with fail
          refine (HC.out wr hb (by have := hb.size; omega)).mono ?_
          rintro e w2 ⟨rfl, hb2⟩
          rw [HR.out]
          have HB2 := Lib.hid hb2
          clear hb hb2
          go_wp2
          go_ret
          exact ⟨ret_int HR2.out.symm, HB.out.trans (HB2.out.mono HB.out.size)⟩
      · obtain rfl : i' = l.length := by omega
        have hr2 : szR (l.length + PT.szL (AT.ptL l)) left = m := by
          have := HM.out
          rw [List.take_of_length_le (by simp)] at this
          unfold szR; rw [if_pos (by omega)]; omega
        have HR2 := Lib.hid hr2
        clear hr2 hm hb
        go_wp2
        go_ret
        exact ⟨ret_int HR2.out.symm, HB.out⟩
  · have h1 : (left : Int) - l.length < 0 := by omega
    have hr2 : szR (l.length + PT.szL (AT.ptL l)) left = -1 := by unfold szR; rw [if_neg (by omega)]
    have HR2 := Lib.hid hr2
    clear hr2
    go_enter Tryd.func48, Tryd.ntmps48
    go_wp2
    go_ret
    exact ⟨ret_int HR2.out.symm, Below.refl _ _⟩
theorem szVal_any (T : AT) : T.pt.Wf → ∀ (w : World) (N left : Nat), T.In w N → N ≤ w.heap.size → left ≤ 1048576 →
      Calls Tryd.prog 24 #[T.val, .int .i64 left] w fun e w' => e = .returned (.int .i64 (szR T.pt.sz left)) ∧ Below w.heap.size w w' := by
  induction T using AT.ind with
  | h k n x s a cap l ih =>
    intro hwf w N left hin hN hleft
    have hsub : ∀ t ∈ l, t.pt.Wf := fun t ht => hwf.sub' t.pt (by rw [AT.ptL_eq]; exact List.mem_map_of_mem ht)
    obtain ⟨hs, hl⟩ : s.length ≤ 9223372036854775807 ∧ l.length ≤ 9223372036854775807 := by
      cases hwf with
      | mk hk hn hx hs hl sub => exact ⟨hs, by simpa using hl⟩
    have hpt : (AT.mk k n x s a cap l).pt.sz = s.length + (l.length + PT.szL (AT.ptL l)) := by simp [AT.pt, PT.sz]
    have hc := fun w' left' (hb : Below w.heap.size w w') hl' => szValS_any l ih hsub hl w' N left' a cap (hin.lv.below hb hN) (Nat.le_trans hN hb.size) hl'
    have HC := Lib.hid hc
    have HP := Lib.hid hpt
    have hsz := size_b s
    have hszz : ((ByteArray.mk s.toArray).size : Int) = s.length := by rw [hsz]
    clear hc hpt ih hwf hin hsub
    show Calls Tryd.prog 24 #[.agg #[.int .i64 k, .int .i64 n, .int .i64 x, .string ⟨s.toArray⟩, .slice a l.length cap], .int .i64 left] w _
    generalize (ByteArray.mk s.toArray) = S at *
    by_cases hfit : s.length ≤ left
    · have h1 : ¬ ((left : Int) - s.length < 0) := by omega
      have e1 : (left : Int) - s.length = ((left - s.length : Nat) : Int) := by omega
      have E1 := Lib.hid e1
      have hm : left - s.length ≤ 1048576 := by omega
      clear e1
      go_enter Tryd.func24, Tryd.ntmps24
      go_wp2_with fail
      rw [E1.out]
      refine (HC.out _ _ (vbox _ _) hm).mono ?_
      rintro e w2 ⟨rfl, hb⟩
      have HB := Lib.hid ((vbox w _).trans (hb.mono (by simp)))
      clear hb
      by_cases hfit2 : l.length + PT.szL (AT.ptL l) ≤ left - s.length
      · have hr : szR (l.length + PT.szL (AT.ptL l)) (left - s.length) = ((left - s.length - (l.length + PT.szL (AT.ptL l)) : Nat) : Int) := by unfold szR; rw [if_pos hfit2]; omega
        have hr2 : szR (s.length + (l.length + PT.szL (AT.ptL l))) left = ((left - s.length - (l.length + PT.szL (AT.ptL l)) : Nat) : Int) := by unfold szR; rw [if_pos (by omega)]; omega
        have HR2 := Lib.hid hr2
        rw [hr]
        clear hr hr2 hfit2
        have hneg : ¬ (((left - s.length - (l.length + PT.szL (AT.ptL l)) : Nat) : Int) < 0) := by omega
        generalize left - s.length - (l.length + PT.szL (AT.ptL l)) = m2 at *
        go_wp2
        go_ret
        exact ⟨ret_int (by rw [HP.out, HR2.out]), HB.out⟩
      · have hr : szR (l.length + PT.szL (AT.ptL l)) (left - s.length) = -1 := by unfold szR; rw [if_neg hfit2]
        have hr2 : szR (s.length + (l.length + PT.szL (AT.ptL l))) left = -1 := by unfold szR; rw [if_neg (by omega)]
        have HR2 := Lib.hid hr2
        rw [hr]
        clear hr hr2 hfit2
        go_wp2
        go_ret
        exact ⟨ret_int (by rw [HP.out, HR2.out]), HB.out⟩
    · have h1 : (left : Int) - s.length < 0 := by omega
      have hr2 : szR (s.length + (l.length + PT.szL (AT.ptL l))) left = -1 := by unfold szR; rw [if_neg (by omega)]
      have HR2 := Lib.hid hr2
      clear hr2
      go_enter Tryd.func24, Tryd.ntmps24
      go_wp2
      go_ret
      exact ⟨ret_int (by rw [HP.out, HR2.out]), vbox _ _⟩
end Go.Proofs.YtgfebmnlcihpnaaDoor
