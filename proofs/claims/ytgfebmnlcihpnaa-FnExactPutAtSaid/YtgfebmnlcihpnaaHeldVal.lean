/- markVal, heldValS and heldVal of the exact laws. -/
import Derived.Test.YtgfebmnlcihpnaaMarkVal
import Derived.Test.YtgfebmnlcihpnaaKeepVal
import Derived.Deep.RegionHeld3
namespace Go.Proofs.Ytgfebmnlcihpnaa
open Go.RowKit
theorem heldVal_cell {w : World} {b p c : Nat} {T : AT} (h : CellsAt w b p (T.mark c)) : w.cell? ⟨b, p, none⟩ = some (.int .i64 c) ∧ w.cell? ⟨b, p + 1, none⟩ = some (.int .i64 ((c : Int) + 1)) ∧ w.cell? ⟨b, p + 2, none⟩ = some (.int .i64 ((c : Int) + 1 + 1)) ∧ w.cell? ⟨b, p + 3, none⟩ = some (.string ⟨(mtx (c + 3)).toArray⟩) ∧ w.cell? ⟨b, p + 4, none⟩ = some (.slice T.a T.l.length T.cap) := by
  obtain ⟨c0, c1, c2, c3, c4⟩ := h
  rw [mark_eq] at c0 c1 c2 c3 c4
  have e2 : ((c : Int) + 1 + 1) = ((c + 2 : Nat) : Int) := by omega
  rw [e2]
  refine ⟨c0, c1, c2, c3, ?_⟩
  rw [c4]
  simp [AT.a, AT.l, AT.cap]
set_option maxHeartbeats 1000000 in
theorem heldValS_of (l : List AT) (ih : ∀ t ∈ l, ∀ (w : World) (N c : Nat), Lv w N t.a t.cap (AT.markL c t.l) → N ≤ w.heap.size → 1 ≤ c → c + 4 * PT.cntL (AT.ptL t.l) ≤ 1099511627776 → Calls Try.prog 132 #[.slice t.a t.l.length t.cap, .int .i64 (c : Nat)] w fun e w' => e = .returned (.int .i64 (c + 4 * PT.cntL (AT.ptL t.l) : Nat)) ∧ Below w.heap.size w w')
    (hl : l.length ≤ 1099511627776) (w : World) (N c : Nat) (a : Option Addr) (cap : Nat) (h : Lv w N a cap (AT.markL c l)) (hN : N ≤ w.heap.size) (hc : 1 ≤ c) (hb : c + 4 * PT.cntL (AT.ptL l) ≤ 1099511627776) :
    Calls Try.prog 132 #[.slice a l.length cap, .int .i64 (c : Nat)] w fun e w' => e = .returned (.int .i64 (c + 4 * PT.cntL (AT.ptL l) : Nat)) ∧ Below w.heap.size w w' := by
  have H := Lib.hid h
  have IH := Lib.hid ih
  have HBD := Lib.hid hb
  clear h ih hb
  go_enter Try.func132, Try.ntmps132
  go_wp2
  go_loopw [1, 5] (fun k i wr => ∃ i' c' : Nat, k = .int .i64 c' ∧ i = .int .i64 i' ∧ i' ≤ l.length ∧ c' = c + 4 * PT.cntL (AT.ptL (l.take i')) ∧ Below w.heap.size w wr) (fun _ i _ => l.length - (intOf i).toNat)
  case atStart => exact ⟨0, c, rfl, rfl, Nat.zero_le _, by simp [AT.ptL, PT.cntL], Below.refl _ _⟩
  case round =>
    obtain ⟨i', c', rfl, rfl, hi', hcc, hbw⟩ := hrel
    have HCC := Lib.hid hcc
    have HB := Lib.hid hbw
    clear hcc
    by_cases hlt : i' < l.length
    · obtain ⟨T, hT⟩ : ∃ T, T = l[i'] := ⟨_, rfl⟩
      have hsplit : l = l.take i' ++ T :: l.drop (i' + 1) := by rw [hT, List.getElem_cons_drop hlt, List.take_append_drop]
      have hmem : T ∈ l := by rw [hT]; exact List.getElem_mem hlt
      have hml : AT.markL c l = AT.markL c (l.take i') ++ T.mark c' :: AT.markL (c' + 4 * T.pt.cnt) (l.drop (i' + 1)) := by
        conv => lhs; rw [hsplit]
        rw [markL_append, ← HCC.out]
        rfl
      have hlen1 : (AT.markL c (l.take i')).length = i' := by rw [markL_length, List.length_take]; omega
      have hlt2 : i' < (AT.markL c l).length := by rw [markL_length]; exact hlt
      have hget : (AT.markL c l)[i'] = T.mark c' := by
        have : (AT.markL c l)[i']? = some (T.mark c') := by rw [hml, List.getElem?_append_right (by omega), hlen1]; simp
        rw [List.getElem?_eq_getElem hlt2] at this
        injection this
      obtain ⟨b, o, hab, hbN, hC⟩ := H.out.cell i' hlt2
      rw [hget] at hC
      obtain rfl := hab
      obtain ⟨c0, c1, c2, c3, c4⟩ := heldVal_cell (hC.keep (hbw.block b (by omega)))
      have hsubT : (T.mark c').In w N := by rw [← hget]; exact H.out.sub _ (List.getElem_mem _)
      have hlvT : ∀ w1, Below w.heap.size w w1 → Lv w1 N T.a T.cap (AT.markL (c' + 4) T.l) := fun w1 hb1 => by
        have := hsubT
        rw [mark_eq] at this
        exact this.lv.below hb1 hN
      have hcT : c' + 4 * T.pt.cnt ≤ 1099511627776 := by
        have h1 := HBD.out
        have h2 := HCC.out
        rw [hsplit, AT.ptL_eq, List.map_append, List.map_cons] at h1
        rw [AT.ptL_eq] at h2
        have h3 : PT.cntL (List.map AT.pt (l.take i') ++ T.pt :: List.map AT.pt (l.drop (i' + 1))) = PT.cntL (List.map AT.pt (l.take i')) + (T.pt.cnt + PT.cntL (List.map AT.pt (l.drop (i' + 1)))) := cntL_app _ _
        omega
      have hcnt := cnt_eq' T
      have htk : l.take (i' + 1) = l.take i' ++ [T] := by rw [List.take_succ_eq_append_getElem hlt, hT]
      have hcc2 : c' + 4 * T.pt.cnt = c + 4 * PT.cntL (AT.ptL (l.take (i' + 1))) := by
        rw [htk, AT.ptL_eq, List.map_append, cntL_app, HCC.out, AT.ptL_eq]
        simp only [List.map_cons, List.map_nil, PT.cntL]
        omega
      have e3 : ((c' : Int) + 1 + 1 + 1) = ((c' + 3 : Nat) : Int) := by omega
      have e4 : ((c' : Int) + 1 + 1 + 1 + 1) = ((c' + 4 : Nat) : Int) := by omega
      have hmt : ∀ w1, Calls Try.prog 168 #[.int .i64 ((c' : Int) + 1 + 1 + 1)] w1 fun e w' => e = .returned (.string ⟨(mtx (c' + 3)).toArray⟩) ∧ Below w1.heap.size w1 w' := by
        rw [e3]; exact fun w1 => marktext_any (c' + 3) w1 (by omega) (by omega)
      have hcb : c' + 4 ≤ 1099511627776 := by omega
      have hrec := fun (w1 : World) (hb1 : Below w.heap.size w w1) => IH.out T hmem w1 N (c' + 4) (hlvT w1 hb1) (Nat.le_trans hN hb1.size) (by omega) (by omega)
      have HREC := Lib.hid hrec
      have HMT := Lib.hid hmt
      have E4 := Lib.hid e4
      have HC2 := Lib.hid hcc2
      have HE : Hid (c' + 4 + 4 * PT.cntL (AT.ptL T.l) = c' + 4 * T.pt.cnt) := Lib.hid (by omega)
      clear hT hsplit hmem hml hlen1 hget hC hsubT hlvT hcT hcnt htk hcc2 e3 e4 hmt hrec hlt2
      generalize (ByteArray.mk (mtx (c' + 3)).toArray) = MT at *
      have hi0 : (0 : Int) ≤ i' := by omega
      have hi1 : (i' : Int) < l.length := by omega
      go_wp2_with fail
      go_region_held3 (fun W' => W'.cell? ⟨b, o + i' * 5 + 3, none⟩ = some (.string MT) ∧ W'.cell? ⟨b, o + i' * 5 + 4, none⟩ = some (.slice T.a T.l.length T.cap) ∧ Below w.heap.size w W') ((refine ⟨?_, ?_, ?_⟩ <;> first | assumption | (refine Below.drew ?_; assumption) | exact keep_below (by assumption) (by assumption) | exact below_tr (by assumption) (by assumption))) ((go_at_call 168; go_split_ands; refine (HMT.out _).mono ?_; rintro e w1 ⟨rfl, hb1⟩))
      go_split_ands
      have HB1 : Hid (Below w.heap.size w w1) := Lib.hid (by assumption)
      have k4 : w1.cell? ⟨b, o + i' * 5 + 4, none⟩ = some (.slice T.a T.l.length T.cap) := by assumption
      have hneg : ¬ (((c' + 4 * T.pt.cnt : Nat) : Int) < 0) := by omega
      clear hb1 hbw c0 c1 c2 c3 c4
      go_wp2_with fail
      rw [E4.out]
      refine (HREC.out _ HB1.out).mono ?_
      rintro e w2 ⟨rfl, hb2⟩
      rw [HE.out]
      have HB2 := Lib.hid (HB1.out.trans (hb2.mono HB1.out.size))
      clear hb2
      go_wp2
      go_roundw
      case rel => exact ⟨i' + 1, c' + 4 * T.pt.cnt, rfl, by go_num, by omega, HC2.out, HB2.out⟩
      case measure => simp [intOf]; omega
    · obtain rfl : i' = l.length := by omega
      have HE : Hid (c' = c + 4 * PT.cntL (AT.ptL l)) := Lib.hid (by rw [HCC.out, List.take_of_length_le (Nat.le_refl _)])
      clear hbw
      go_wp2
      go_ret
      exact ⟨by rw [← HE.out]; rfl, HB.out⟩
theorem heldValS_any (T : AT) : ∀ (w : World) (N c : Nat), Lv w N T.a T.cap (AT.markL c T.l) → N ≤ w.heap.size → 1 ≤ c → c + 4 * PT.cntL (AT.ptL T.l) ≤ 1099511627776 → Calls Try.prog 132 #[.slice T.a T.l.length T.cap, .int .i64 (c : Nat)] w fun e w' => e = .returned (.int .i64 (c + 4 * PT.cntL (AT.ptL T.l) : Nat)) ∧ Below w.heap.size w w' := by
  induction T using AT.ind with
  | h k n x s a cap l ih =>
    intro w N c h hN hc hb
    refine heldValS_of l ih ?_ w N c a cap h hN hc hb
    have h1 : l.length ≤ PT.cntL (AT.ptL l) := len_le_cnt l
    have h2 : c + 4 * PT.cntL (AT.ptL l) ≤ 1099511627776 := hb
    omega
/-- the root's own fields lie in no memory: a mark turns the elements only -/
theorem markVal_any (T : AT) (w : World) (B c : Nat) (h : T.Own w B) (hnd : T.blks.Nodup) (hc : 1 ≤ c) (hb : c + 4 * T.pt.cnt ≤ 1099511627776) :
    Calls Try.prog 66 #[T.val, .int .i64 (c : Nat)] w fun e w' => e = .returned (.int .i64 (c + 4 * PT.cntL (AT.ptL T.l) : Nat)) ∧ OwnL w' B T.a T.cap (AT.markL c T.l) ∧ OnlyBs T.blks w w' := by
  have hcn := cnt_eq' T
  have hm := fun (w1 : World) (hb1 : Below w.heap.size w w1) => markValS_any T w1 B c (h.blw hb1).l' (by rw [← AT.blks_eq]; exact hnd) hc (by omega)
  have HM := Lib.hid hm
  have HBK := Lib.hid (AT.blks_eq T)
  clear hm hcn h hnd hb
  show Calls Try.prog 66 #[.agg #[.int .i64 T.k, .int .i64 T.n, .int .i64 T.x, .string ⟨T.s.toArray⟩, .slice T.a T.l.length T.cap], .int .i64 (c : Nat)] w _
  go_enter Try.func66, Try.ntmps66
  go_wp2_with fail
  refine (HM.out _ (vbox _ _)).mono ?_
  rintro e w1 ⟨rfl, ho, hbs⟩
  have HO := Lib.hid ho
  have HB := Lib.hid ((OnlyBs.of_below (vbox w _)).trans hbs)
  clear ho hbs
  go_wp2
  go_ret
  exact ⟨rfl, HO.out, by rw [HBK.out]; exact HB.out⟩
theorem heldVal_any (T : AT) (w : World) (N c : Nat) (h : Lv w N T.a T.cap (AT.markL c T.l)) (hN : N ≤ w.heap.size) (k n x : Int) (s : ByteArray) (hc : 1 ≤ c) (hb : c + 4 * PT.cntL (AT.ptL T.l) ≤ 1099511627776) :
    Calls Try.prog 67 #[.agg #[.int .i64 k, .int .i64 n, .int .i64 x, .string s, .slice T.a T.l.length T.cap], .int .i64 (c : Nat)] w fun e w' => e = .returned (.int .i64 (c + 4 * PT.cntL (AT.ptL T.l) : Nat)) ∧ Below w.heap.size w w' := by
  have hm := fun (w1 : World) (hb1 : Below w.heap.size w w1) => heldValS_any T w1 N c (h.below hb1 hN) (Nat.le_trans hN hb1.size) hc hb
  have HM := Lib.hid hm
  have hneg : ¬ (((c + 4 * PT.cntL (AT.ptL T.l) : Nat) : Int) < 0) := by omega
  clear hm h hb
  generalize c + 4 * PT.cntL (AT.ptL T.l) = M at *
  go_enter Try.func67, Try.ntmps67
  go_wp2_with fail
  refine (HM.out _ (vbox _ _)).mono ?_
  rintro e w1 ⟨rfl, hb1⟩
  have HB := Lib.hid ((vbox w _).trans (hb1.mono (by simp)))
  clear hb1
  go_wp2
  go_ret
  exact ⟨rfl, HB.out⟩
end Go.Proofs.Ytgfebmnlcihpnaa
