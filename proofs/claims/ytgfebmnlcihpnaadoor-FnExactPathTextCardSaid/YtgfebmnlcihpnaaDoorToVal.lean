/- toVal of the exact laws: a copy of a tree in rows of its own. -/
import Derived.Test.YtgfebmnlcihpnaaDoorOwn
import Derived.Test.YtgfebmnlcihpnaaDoorIn
import Derived.Lib.Hide
import Derived.Outline
import Derived.ProofKit
namespace Go.Proofs.YtgfebmnlcihpnaaDoor
open Go.RowKit
/-- what a function that makes a tree hands on: a tree in rows of its own -/
def FreshV (w : World) (p : PT) (e : Ending) (w' : World) : Prop := ∃ T : AT, T.pt = p ∧ e = .returned T.val ∧ T.Own w' w.heap.size ∧ T.blks.Nodup ∧ Below w.heap.size w w'
def FreshL (w : World) (p : List PT) (e : Ending) (w' : World) : Prop := ∃ a cap l, AT.ptL l = p ∧ e = .returned (.slice a l.length cap) ∧ OwnL w' w.heap.size a cap l ∧ ((a.map (·.block)).toList ++ AT.blksL l).Nodup ∧ Below w.heap.size w w'
theorem three (w : World) (a b c : Obj) : Below w.heap.size w (((w.alloc a).alloc b).alloc c) := (((Below.refl w.heap.size w).alloc (Nat.le_refl _) a).alloc (by simp) b).alloc (by simp; omega) c
theorem toVal_of (k n x : Int) (s : List UInt8) (a : Option Addr) (cap : Nat) (l : List AT) (w : World) (hc : ∀ w1 : World, Below w.heap.size w w1 → Calls Tryd.prog 49 #[.slice a l.length cap] w1 (FreshL w1 (AT.ptL l))) :
    Calls Tryd.prog 26 #[(AT.mk k n x s a cap l).val] w (FreshV w (AT.mk k n x s a cap l).pt) := by
  have HC := Lib.hid hc
  clear hc
  show Calls Tryd.prog 26 #[.agg #[.int .i64 k, .int .i64 n, .int .i64 x, .string ⟨s.toArray⟩, .slice a l.length cap]] w _
  go_enter Tryd.func26, Tryd.ntmps26
  go_wp2_with fail
  have hb0 := three w (Obj.cells #[.int .i64 k, .int .i64 n, .int .i64 x, .string ⟨s.toArray⟩, .slice a l.length cap] 51) (Obj.cells #[.int .i64 0, .int .i64 0, .int .i64 0, .string ⟨#[]⟩, .slice none 0 0] 26) (Obj.cells #[.int .i64 k, .int .i64 n, .int .i64 x, .string ⟨s.toArray⟩, .slice none 0 0] 26)
  have HB0 := Lib.hid hb0
  refine (HC.out _ hb0).mono ?_
  clear hb0
  rintro e w1 ⟨a', cap', l', hp, rfl, hown, hnd, hb⟩
  have HP := Lib.hid hp
  have hown' : OwnL w1 (w.heap.size + 1 + 1 + 1) a' cap' l' := by simpa using hown
  have HO := Lib.hid hown'
  have HN := Lib.hid hnd
  have HB := Lib.hid hb
  have hsz := hb.size
  simp at hsz
  have k0 : w1.cell? ⟨w.heap.size + 2, 0, none⟩ = some (.int .i64 k) := (hb.cell (p := ⟨w.heap.size + 2, 0, none⟩) (by simp)).trans (by simp [go_sem])
  have k1 : w1.cell? ⟨w.heap.size + 2, 1, none⟩ = some (.int .i64 n) := (hb.cell (p := ⟨w.heap.size + 2, 1, none⟩) (by simp)).trans (by simp [go_sem])
  have k2 : w1.cell? ⟨w.heap.size + 2, 2, none⟩ = some (.int .i64 x) := (hb.cell (p := ⟨w.heap.size + 2, 2, none⟩) (by simp)).trans (by simp [go_sem])
  have k3 : w1.cell? ⟨w.heap.size + 2, 3, none⟩ = some (.string ⟨s.toArray⟩) := (hb.cell (p := ⟨w.heap.size + 2, 3, none⟩) (by simp)).trans (by simp [go_sem])
  have k4 : w1.cell? ⟨w.heap.size + 2, 4, none⟩ = some (.slice none 0 0) := (hb.cell (p := ⟨w.heap.size + 2, 4, none⟩) (by simp)).trans (by simp [go_sem])
  have f4 : w1.frozen? ⟨w.heap.size + 2, 4, none⟩ = false := (hb.frozen (p := ⟨w.heap.size + 2, 4, none⟩) (by simp)).trans (by simp [go_sem])
  have r0 : ∀ o, w1.frozen? ⟨w.heap.size + 1, o, none⟩ = false := fun o => (hb.frozen (p := ⟨w.heap.size + 1, o, none⟩) (by simp)).trans (by simp [go_sem])
  have q0 : w1.cell? ⟨w.heap.size + 1, 0, none⟩ = some (.int .i64 0) := (hb.cell (p := ⟨w.heap.size + 1, 0, none⟩) (by simp)).trans (by simp [go_sem])
  have q1 : w1.cell? ⟨w.heap.size + 1, 1, none⟩ = some (.int .i64 0) := (hb.cell (p := ⟨w.heap.size + 1, 1, none⟩) (by simp)).trans (by simp [go_sem])
  have q2 : w1.cell? ⟨w.heap.size + 1, 2, none⟩ = some (.int .i64 0) := (hb.cell (p := ⟨w.heap.size + 1, 2, none⟩) (by simp)).trans (by simp [go_sem])
  have q3 : w1.cell? ⟨w.heap.size + 1, 3, none⟩ = some (.string ⟨#[]⟩) := (hb.cell (p := ⟨w.heap.size + 1, 3, none⟩) (by simp)).trans (by simp [go_sem])
  have q4 : w1.cell? ⟨w.heap.size + 1, 4, none⟩ = some (.slice none 0 0) := (hb.cell (p := ⟨w.heap.size + 1, 4, none⟩) (by simp)).trans (by simp [go_sem])
  clear hp hown hown' hnd hb
  go_wp2
  refine bodyPost_ret (v := .agg #[.int .i64 k, .int .i64 n, .int .i64 x, .string ⟨s.toArray⟩, .slice a' l'.length cap']) (by simp [results, Tryd.results26, go_sem, q0, q1, q2, q3, q4]) rfl ⟨.mk k n x s a' cap' l', ?_, rfl, ?_, ?_, ?_⟩
  · simp [AT.pt, HP.out]
  · refine AT.Own.base (B := w.heap.size + 1 + 1 + 1) ?_ (by omega)
    refine AT.Own.set (AT.Own.set (AT.Own.set (AT.Own.set (AT.Own.set (AT.Own.set HO.out.own (by omega)) (by omega)) (by omega)) (by omega)) (by omega)) (by omega)
  · exact HN.out
  · exact bset (bset (bset (bset (bset (bset (HB0.out.trans (HB.out.mono (by simp; omega))) (by omega)) (by omega)) (by omega)) (by omega)) (by omega)) (by omega)
theorem valInfo : (Tryd.prog.info? 26).map (fun i => (i.zero, i.size, i.bytes)) = some (some (.agg #[.int .i64 0, .int .i64 0, .int .i64 0, .string ⟨#[]⟩, .slice none 0 0]), 5, 64) := by kernel_rfl
theorem own_put {w : World} {B g m cap : Nat} {l : List AT} {zs : List Value} (h : w.ownsRow B 26 5 (.slice (some ⟨g, 0, none⟩) m cap) m (cellsL l ++ zs)) (T : AT) (hz : 5 ≤ zs.length) :
    (((((w.setCell ⟨g, l.length * 5, none⟩ (.int .i64 T.k)).setCell ⟨g, l.length * 5 + 1, none⟩ (.int .i64 T.n)).setCell ⟨g, l.length * 5 + 2, none⟩ (.int .i64 T.x)).setCell ⟨g, l.length * 5 + 3, none⟩ (.string ⟨T.s.toArray⟩)).setCell ⟨g, l.length * 5 + 4, none⟩ (.slice T.a T.l.length T.cap)).ownsRow B 26 5 (.slice (some ⟨g, 0, none⟩) m cap) m (cellsL (l ++ [T]) ++ zs.drop 5) := by
  have h1 := (h.stored (l.length * 5) (.int .i64 T.k)).1
  have h2 := (h1.stored (l.length * 5 + 1) (.int .i64 T.n)).1
  have h3 := (h2.stored (l.length * 5 + 2) (.int .i64 T.x)).1
  have h4 := (h3.stored (l.length * 5 + 3) (.string ⟨T.s.toArray⟩)).1
  have h5 := (h4.stored (l.length * 5 + 4) (.slice T.a T.l.length T.cap)).1
  rw [set_five _ _ _ _ _ _ _ _ (cellsL_length l) hz] at h5
  rw [cellsL_append, cellsL_one]
  exact h5
theorem toValS_of (l : List AT) (ih : ∀ t ∈ l, t.pt.Wf → ∀ (w : World) (N : Nat), t.In w N → N ≤ w.heap.size → Calls Tryd.prog 26 #[t.val] w (FreshV w t.pt)) (hwf : ∀ t ∈ l, t.pt.Wf) (hl : l.length ≤ 1048576)
    (w : World) (N : Nat) (a : Option Addr) (cap : Nat) (h : Lv w N a cap l) (hN : N ≤ w.heap.size) : Calls Tryd.prog 49 #[.slice a l.length cap] w (FreshL w (AT.ptL l)) := by
  obtain ⟨i0, hi, hz0, hz1, hz2⟩ := info_parts valInfo
  have H := Lib.hid h
  have IH := Lib.hid ih
  have WF := Lib.hid hwf
  clear h ih hwf
  go_enter Tryd.func49, Tryd.ntmps49
  go_wp2_with (at_make; refine wpList_make_full _ rfl _ _ _ rfl w.heap.size 26 i0 (.agg #[.int .i64 0, .int .i64 0, .int .i64 0, .string ⟨#[]⟩, .slice none 0 0]) 5 Tryd.underlying24 hi hz0 hz1 _ _ _ _ l.length rfl rfl rfl rfl ?b2 ?b3 ?b4 ?_)
  case b2 => rw [hz2]; omega
  case b3 => unfold maxLen; omega
  case b4 => exact Nat.le_refl _
  intro w1 hown hgrow
  obtain ⟨z, hzl, hown⟩ : ∃ z : List Value, z.length = l.length * 5 ∧ w1.ownsRow w.heap.size 26 5 (.slice (some ⟨w.heap.size, 0, none⟩) l.length l.length) l.length z :=
    ⟨_, by rw [Array.length_toList, size_madeCells], hown⟩
  go_wp2
  go_loopw [4] (fun i wr => ∃ lr : List AT, i = .int .i64 lr.length ∧ lr.length ≤ l.length ∧ AT.ptL lr = (AT.ptL l).take lr.length ∧
      wr.ownsRow w.heap.size 26 5 (.slice (some ⟨w.heap.size, 0, none⟩) l.length l.length) l.length (cellsL lr ++ z.drop (lr.length * 5)) ∧
      (∀ t ∈ lr, t.Own wr (w.heap.size + 1)) ∧ (AT.blksL lr).Nodup ∧ Below w.heap.size w wr) (fun i _ => l.length - (intOf i).toNat)
  case atStart => exact ⟨[], rfl, Nat.zero_le _, by simp [AT.ptL], by simpa using hown, by simp, by simp [AT.blksL], grown_below0 hgrow (by simp)⟩
  case round =>
    obtain ⟨lr, rfl, hlr, hpt, hown', hsub, hnd, hb⟩ := hrel
    have HO := Lib.hid hown'
    have HB := Lib.hid hb
    have HS := Lib.hid hsub
    have HD := Lib.hid hnd
    have HP := Lib.hid hpt
    have hgl := (hown'.lt w.heap.size rfl).2
    clear hown hgrow hpt hnd hsub
    by_cases hlt : lr.length < l.length
    · obtain ⟨b, o, rfl, hbN, hC⟩ := H.out.cell lr.length hlt
      have hC := hC.keep (hb.block b (by omega))
      have hc := fun w' hw => IH.out l[lr.length] (List.getElem_mem hlt) (WF.out _ (List.getElem_mem hlt)) w' N ((H.out.sub _ (List.getElem_mem hlt)).blw hw hN)
      have HPt : Hid ((AT.ptL l).take (lr.length + 1) = (AT.ptL l).take lr.length ++ [(l[lr.length]).pt]) := Lib.hid (by
        rw [List.take_succ_eq_append_getElem (by simpa using hlt)]; simp [AT.ptL_eq])
      obtain ⟨T, hT⟩ : ∃ T, T = l[lr.length] := ⟨_, rfl⟩
      rw [← hT] at hC hc HPt
      clear hT
      obtain ⟨c0, c1, c2, c3, c4⟩ := hC
      have HC := Lib.hid hc
      clear hc hown'
      go_wp2_with fail
      refine (HC.out wr hb (by have := hb.size; omega)).mono ?_
      rintro e w2 ⟨T', hT', rfl, hOT, hNT, hb2⟩
      have hOR : w2.ownsRow w.heap.size 26 5 (.slice (some ⟨w.heap.size, 0, none⟩) l.length l.length) l.length (cellsL lr ++ z.drop (lr.length * 5)) := own_heap HO.out (fun g hg => hb2.block g (HO.out.lt g hg).2)
      have hlen : (cellsL lr ++ z.drop (lr.length * 5)).length = l.length * 5 := hOR.1
      have hcell : ∀ c, c < 5 → ∃ u, w2.cell? ⟨w.heap.size, lr.length * 5 + c, none⟩ = some u := fun c hc => by
        have h1 : lr.length * 5 + c < l.length * 5 := by omega
        exact ⟨_, (hOR.cellAt (lr.length * 5 + c) h1).trans (List.getElem?_eq_getElem (by rw [hlen]; exact h1))⟩
      obtain ⟨u0, k0⟩ := hcell 0 (by omega)
      obtain ⟨u1, k1⟩ := hcell 1 (by omega)
      obtain ⟨u2, k2⟩ := hcell 2 (by omega)
      obtain ⟨u3, k3⟩ := hcell 3 (by omega)
      obtain ⟨u4, k4⟩ := hcell 4 (by omega)
      rw [Nat.add_zero] at k0
      have hfr := hOR.frozenAt
      have HP' : Hid (T'.pt = T.pt) := Lib.hid hT'
      have HOT := Lib.hid hOT
      have HNT := Lib.hid hNT
      have HB2 := Lib.hid hb2
      have HOR := Lib.hid hOR
      clear hT' hOT hNT hb hb2 hOR hcell hlen
      go_wp2
      go_roundw
      case rel =>
        have hd : z.drop (lr.length * 5 + 5) = (z.drop (lr.length * 5)).drop 5 := by rw [List.drop_drop]
        refine ⟨lr ++ [T'], by simp, by simp; omega, ?_, ?_, ?_, ?_, ?_⟩
        · rw [AT.ptL_eq, List.map_append, ← AT.ptL_eq, HP.out, List.map_singleton, HP'.out, List.length_append, List.length_singleton, HPt.out]
        · have h5 := own_put HOR.out T' (by rw [List.length_drop]; omega)
          rw [List.length_append, List.length_singleton, Nat.add_mul, Nat.one_mul, hd]
          exact h5
        · intro t ht
          rcases List.mem_append.1 ht with ht | ht
          · exact ((((((HS.out t ht).blw HB2.out).set (by omega)).set (by omega)).set (by omega)).set (by omega)).set (by omega)
          · obtain rfl : t = T' := by simpa using ht
            exact (((((HOT.out.base (by omega)).set (by omega)).set (by omega)).set (by omega)).set (by omega)).set (by omega)
        · rw [AT.blksL_append, AT.blksL_one, List.nodup_append]
          refine ⟨HD.out, HNT.out, fun x hx y hy e => ?_⟩
          obtain ⟨t, ht, hxt⟩ := AT.mem_blksL.1 hx
          have h1 := ((HS.out t ht).lt x hxt).2
          have h2 := (HOT.out.lt y hy).1
          omega
        · exact bset (bset (bset (bset (bset (HB.out.trans (HB2.out.mono (by omega))) (Nat.le_refl _)) (Nat.le_refl _)) (Nat.le_refl _)) (Nat.le_refl _)) (Nat.le_refl _)
      case measure => simp [intOf]; omega
    · obtain heq : lr.length = l.length := by omega
      clear hown' hb
      go_wp2
      go_ret
      have hdr : z.drop (lr.length * 5) = [] := List.drop_eq_nil_of_le (by omega)
      refine ⟨some ⟨w.heap.size, 0, none⟩, l.length, lr, ?_, by rw [heq]; rfl, ⟨?_, fun t ht => (HS.out t ht).base (by omega)⟩, ?_, HB.out⟩
      · rw [HP.out, List.take_of_length_le (by simp; omega)]
      · have := HO.out
        rw [hdr, List.append_nil, ← heq] at this
        rw [← heq]
        exact this
      · show ([w.heap.size] ++ AT.blksL lr).Nodup
        rw [List.singleton_append, List.nodup_cons]
        refine ⟨fun hm => ?_, HD.out⟩
        obtain ⟨t, ht, hxt⟩ := AT.mem_blksL.1 hm
        have h1 := ((HS.out t ht).lt _ hxt).1
        omega
theorem toVal_any (T : AT) : T.pt.Wf → T.pt.sz ≤ 1048576 → ∀ (w : World) (N : Nat), T.In w N → N ≤ w.heap.size → Calls Tryd.prog 26 #[T.val] w (FreshV w T.pt) := by
  induction T using AT.ind with
  | h k n x s a cap l ih =>
    intro hwf hsz w N hin hN
    have e1 : (AT.mk k n x s a cap l).pt.sz = s.length + (l.length + PT.szL (AT.ptL l)) := by simp [AT.pt, PT.sz]
    have hsub : ∀ t ∈ l, t.pt.Wf := fun t ht => hwf.sub' t.pt (by rw [AT.ptL_eq]; exact List.mem_map_of_mem ht)
    have hss : ∀ t ∈ l, t.pt.sz ≤ 1048576 := fun t ht => by
      have := sz_mem (l := AT.ptL l) (t := t.pt) (by rw [AT.ptL_eq]; exact List.mem_map_of_mem ht)
      omega
    exact toVal_of k n x s a cap l w fun w1 hb => toValS_of l (fun t ht hwt => ih t ht hwt (hss t ht)) hsub (by omega) w1 N a cap (hin.lv.below hb hN) (Nat.le_trans hN hb.size)
theorem toValS_any (l : List AT) (hwf : ∀ t ∈ l, t.pt.Wf) (hsz : l.length + PT.szL (AT.ptL l) ≤ 1048576) (w : World) (N : Nat) (a : Option Addr) (cap : Nat) (h : Lv w N a cap l) (hN : N ≤ w.heap.size) : Calls Tryd.prog 49 #[.slice a l.length cap] w (FreshL w (AT.ptL l)) :=
  toValS_of l (fun t ht hwt => toVal_any t hwt (by
    have := sz_mem (l := AT.ptL l) (t := t.pt) (by rw [AT.ptL_eq]; exact List.mem_map_of_mem ht)
    omega)) hwf (by omega) w N a cap h hN
end Go.Proofs.YtgfebmnlcihpnaaDoor
