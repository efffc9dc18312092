/- CountOf and DeepOf of the model. -/
import Derived.Test.YtgfebmnlcihpnaaTree
import Derived.Test.YtgfebmnlcihpnaaIn
import Derived.Lib.Hide
import Derived.Outline
import Derived.ProofKit
namespace Go.Proofs.Ytgfebmnlcihpnaa
open Go.RowKit
theorem cntL_le (l : List PT) (M : Nat) (h : ∀ t ∈ l, t.sz ≤ M) : PT.cntL l ≤ l.length + PT.szL l := by
  induction l with
  | nil => simp [PT.cntL]
  | cons t l ih =>
    have h1 := cnt_le_sz t
    have h2 := ih (fun u hu => h u (by simp [hu]))
    simp only [PT.cntL, PT.szL, List.length_cons]
    omega
theorem take_step (l : List AT) (i : Nat) (h : i < l.length) : i < (AT.ptL l).length ∧ (AT.ptL l)[i]? = some (l[i]).pt := by
  rw [AT.ptL_length]
  exact ⟨h, by simp [AT.ptL_eq, List.getElem?_eq_getElem h]⟩
theorem ptL_get (l : List AT) (i : Nat) (h : i < l.length) : (AT.ptL l)[i]'(by rw [AT.ptL_length]; exact h) = (l[i]).pt := by simp [AT.ptL_eq]
theorem box5 (w : World) (k n x : Int) (s : ByteArray) (a : Option Addr) (len cap : Nat) (t : TypeId) {wr : World} (hb : Below (w.heap.size + 1) (w.alloc (.cells #[.int .i64 k, .int .i64 n, .int .i64 x, .string s, .slice a len cap] t)) wr) :
    wr.cell? ⟨w.heap.size, 0, none⟩ = some (.int .i64 k) ∧ wr.cell? ⟨w.heap.size, 1, none⟩ = some (.int .i64 n) ∧ wr.cell? ⟨w.heap.size, 2, none⟩ = some (.int .i64 x) ∧ wr.cell? ⟨w.heap.size, 3, none⟩ = some (.string s) ∧ wr.cell? ⟨w.heap.size, 4, none⟩ = some (.slice a len cap) := by
  refine ⟨?_, ?_, ?_, ?_, ?_⟩ <;> exact (hb.cell (by simp)).trans (by simp [go_sem])
theorem szL_ge {l : List AT} {t : AT} (h : t ∈ l) : t.pt.sz ≤ PT.szL (AT.ptL l) := sz_mem (by rw [AT.ptL_eq]; exact List.mem_map_of_mem h)
theorem count_spec (T : AT) : T.pt.Wf → T.pt.sz ≤ 1048576 → ∀ (w : World) (N : Nat), T.In w N → N ≤ w.heap.size → Calls Try.prog 30 #[T.val] w fun e w' => e = .returned (.int .i64 (T.pt.cnt : Nat)) ∧ Below w.heap.size w w' := by
  induction T using AT.ind with
  | h k n x s a cap l ih =>
    intro hwf hsz w N hin hN
    have e1 : (AT.mk k n x s a cap l).pt.sz = s.length + (l.length + PT.szL (AT.ptL l)) := by simp [AT.pt, PT.sz]
    have e2 : (AT.mk k n x s a cap l).pt.cnt = PT.cntL (AT.ptL l) + 1 := by simp [AT.pt, PT.cnt]
    have hbd : PT.cntL (AT.ptL l) ≤ 2097152 := by
      have := cntL_le (AT.ptL l) _ (fun t ht => sz_mem ht)
      rw [AT.ptL_length] at this; omega
    have hll : l.length ≤ 1048576 := by omega
    have hc := fun (t : AT) (ht : t ∈ l) (w1 : World) (hb : Below w.heap.size w w1) => ih t ht (hwf.sub' t.pt (by rw [AT.ptL_eq]; exact List.mem_map_of_mem ht)) (by have := szL_ge ht; omega) w1 N (((hin.lv.sub t ht).blw hb hN)) (Nat.le_trans hN hb.size)
    rw [e2]
    have H := Lib.hid hin.lv
    have HC := Lib.hid hc
    clear hc ih hin hwf e1 e2 hsz
    show Calls Try.prog 30 #[.agg #[.int .i64 k, .int .i64 n, .int .i64 x, .string ⟨s.toArray⟩, .slice a l.length cap]] w _
    generalize (ByteArray.mk s.toArray) = S at *
    go_enter Try.func30, Try.ntmps30
    go_wp2
    go_loopw [3, 4] (fun c i wr => ∃ i' : Nat, c = .int .i64 ((PT.cntL ((AT.ptL l).take i') + 1 : Nat)) ∧ i = .int .i64 i' ∧ i' ≤ l.length ∧ Below (w.heap.size + 1) (w.alloc (.cells #[.int .i64 k, .int .i64 n, .int .i64 x, .string S, .slice a l.length cap] 26)) wr) (fun _ i _ => l.length - (intOf i).toNat)
    case atStart => exact ⟨0, by simp [PT.cntL], rfl, Nat.zero_le _, Below.refl _ _⟩
    case round =>
      obtain ⟨i', rfl, rfl, hi', hb⟩ := hrel
      have hcell := (box5 w k n x S a l.length cap 26 hb).2.2.2.2
      have hBw : Below w.heap.size w wr := (vbox _ _).trans (hb.mono (by omega))
      by_cases hlt : i' < l.length
      · obtain ⟨b, o, rfl, hbN, hC⟩ := H.out.cell i' hlt
        have hC := hC.keep (hBw.block b (by omega))
        have hc := HC.out l[i'] (List.getElem_mem hlt) wr hBw
        have hst := cntL_take (AT.ptL l) i' (by rw [AT.ptL_length]; exact hlt)
        rw [ptL_get l i' hlt] at hst
        have hle := cntL_take_le (AT.ptL l) (i' + 1)
        obtain ⟨T, hT⟩ : ∃ T, T = l[i'] := ⟨_, rfl⟩
        rw [← hT] at hC hc hst
        have hbd1 : PT.cntL ((AT.ptL l).take i') + T.pt.cnt ≤ 2097152 := by omega
        have HST := Lib.hid hst
        have HCC := Lib.hid hc
        have HB := Lib.hid hb
        obtain ⟨c0, c1, c2, c3, c4⟩ := hC
        clear hT hst hc hb hle hbd
        generalize PT.cntL ((AT.ptL l).take i') = C at *
        generalize T.pt.cnt = D at *
        go_wp2_with fail
        refine (HCC.out).mono ?_
        rintro e w2 ⟨rfl, hb2⟩
        go_wp2
        go_roundw
        case rel => exact ⟨i' + 1, by rw [HST.out]; go_num, by go_num, by omega, HB.out.trans (hb2.mono (by have := HB.out.size; simp at this; omega))⟩
        case measure => simp [intOf]; omega
      · obtain rfl : i' = l.length := by omega
        have HBw := Lib.hid hBw
        clear hBw hb
        go_wp2
        go_ret
        exact ⟨ret_int (by rw [List.take_of_length_le (by simp)]), HBw.out⟩
theorem deep_spec (T : AT) : T.pt.Wf → T.pt.sz ≤ 1048576 → ∀ (w : World) (N : Nat), T.In w N → N ≤ w.heap.size → Calls Try.prog 28 #[T.val] w fun e w' => e = .returned (.int .i64 (T.pt.deep : Nat)) ∧ Below w.heap.size w w' := by
  induction T using AT.ind with
  | h k n x s a cap l ih =>
    intro hwf hsz w N hin hN
    have e1 : (AT.mk k n x s a cap l).pt.sz = s.length + (l.length + PT.szL (AT.ptL l)) := by simp [AT.pt, PT.sz]
    have e2 : (AT.mk k n x s a cap l).pt.deep = PT.deepL (AT.ptL l) + 1 := by simp [AT.pt, PT.deep]
    have hll : l.length ≤ 1048576 := by omega
    have hdb : ∀ t ∈ l, t.pt.deep ≤ 1048577 := fun t ht => by
      have h1 := deep_le_cnt t.pt
      have h2 := cnt_le_sz t.pt
      have h3 := szL_ge ht
      omega
    have hc := fun (t : AT) (ht : t ∈ l) (w1 : World) (hb : Below w.heap.size w w1) => ih t ht (hwf.sub' t.pt (by rw [AT.ptL_eq]; exact List.mem_map_of_mem ht)) (by have := szL_ge ht; omega) w1 N (((hin.lv.sub t ht).blw hb hN)) (Nat.le_trans hN hb.size)
    rw [e2]
    have H := Lib.hid hin.lv
    have HC := Lib.hid hc
    have HD := Lib.hid hdb
    clear hc ih hin hwf e1 e2 hsz hdb
    show Calls Try.prog 28 #[.agg #[.int .i64 k, .int .i64 n, .int .i64 x, .string ⟨s.toArray⟩, .slice a l.length cap]] w _
    generalize (ByteArray.mk s.toArray) = S at *
    go_enter Try.func28, Try.ntmps28
    go_wp2
    go_loopw [3, 4] (fun c i wr => ∃ i' D : Nat, c = .int .i64 D ∧ D = PT.deepL ((AT.ptL l).take i') ∧ D ≤ 1048577 ∧ i = .int .i64 i' ∧ i' ≤ l.length ∧ Below (w.heap.size + 1) (w.alloc (.cells #[.int .i64 k, .int .i64 n, .int .i64 x, .string S, .slice a l.length cap] 26)) wr) (fun _ i _ => l.length - (intOf i).toNat)
    case atStart => exact ⟨0, 0, rfl, by simp [PT.deepL], by omega, rfl, Nat.zero_le _, Below.refl _ _⟩
    case round =>
      obtain ⟨i', D, rfl, hD, hDb, rfl, hi', hb⟩ := hrel
      have HDe := Lib.hid hD
      clear hD
      have hcell := (box5 w k n x S a l.length cap 26 hb).2.2.2.2
      have hBw : Below w.heap.size w wr := (vbox _ _).trans (hb.mono (by omega))
      by_cases hlt : i' < l.length
      · obtain ⟨b, o, rfl, hbN, hC⟩ := H.out.cell i' hlt
        have hC := hC.keep (hBw.block b (by omega))
        have hc := HC.out l[i'] (List.getElem_mem hlt) wr hBw
        have hst := deepL_take (AT.ptL l) i' (by rw [AT.ptL_length]; exact hlt)
        rw [ptL_get l i' hlt] at hst
        have hdT := HD.out l[i'] (List.getElem_mem hlt)
        obtain ⟨T, hT⟩ : ∃ T, T = l[i'] := ⟨_, rfl⟩
        rw [← hT] at hC hc hst hdT
        have HST := Lib.hid hst
        have HCC := Lib.hid hc
        have HB := Lib.hid hb
        obtain ⟨c0, c1, c2, c3, c4⟩ := hC
        clear hT hst hc hb
        generalize T.pt.deep = E at *
        by_cases hgt : D < E
        · have hgt2 : (D : Int) < E := by omega
          clear hgt
          go_wp2_with fail
          refine (HCC.out).mono ?_
          rintro e w2 ⟨rfl, hb2⟩
          go_wp2
          go_roundw
          case rel => exact ⟨i' + 1, E, rfl, by rw [HST.out, ← HDe.out]; omega, hdT, by go_num, by omega, HB.out.trans (hb2.mono (by have := HB.out.size; simp at this; omega))⟩
          case measure => simp [intOf]; omega
        · have hgt2 : ¬ ((D : Int) < E) := by omega
          clear hgt
          go_wp2_with fail
          refine (HCC.out).mono ?_
          rintro e w2 ⟨rfl, hb2⟩
          go_wp2
          go_roundw
          case rel => exact ⟨i' + 1, D, rfl, by rw [HST.out, ← HDe.out]; omega, hDb, by go_num, by omega, HB.out.trans (hb2.mono (by have := HB.out.size; simp at this; omega))⟩
          case measure => simp [intOf]; omega
      · obtain rfl : i' = l.length := by omega
        have HBw := Lib.hid hBw
        clear hBw hb
        go_wp2
        go_ret
        exact ⟨ret_int (by rw [HDe.out, List.take_of_length_le (by simp)]; rfl), HBw.out⟩
end Go.Proofs.Ytgfebmnlcihpnaa
