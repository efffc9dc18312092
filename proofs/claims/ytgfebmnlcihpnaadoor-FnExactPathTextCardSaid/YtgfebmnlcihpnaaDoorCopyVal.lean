/- l6Copy and ListVal of the model. -/
import Derived.Test.YtgfebmnlcihpnaaDoorCopySpec
namespace Go.Proofs.YtgfebmnlcihpnaaDoor
open Go.RowKit
theorem zbox5 (w : World) {t : TypeId} {wr : World} (hb : Below (w.alloc (.cells #[.int .i64 0, .int .i64 0, .int .i64 0, .string ⟨#[]⟩, .slice none 0 0] t)).heap.size (w.alloc (.cells #[.int .i64 0, .int .i64 0, .int .i64 0, .string ⟨#[]⟩, .slice none 0 0] t)) wr) :
    wr.cell? ⟨w.heap.size, 0, none⟩ = some (.int .i64 0) ∧ wr.cell? ⟨w.heap.size, 1, none⟩ = some (.int .i64 0) ∧ wr.cell? ⟨w.heap.size, 2, none⟩ = some (.int .i64 0) ∧ wr.cell? ⟨w.heap.size, 3, none⟩ = some (.string ⟨#[]⟩) ∧ wr.cell? ⟨w.heap.size, 4, none⟩ = some (.slice none 0 0) ∧ (∀ o, wr.frozen? ⟨w.heap.size, o, none⟩ = false) := by
  refine ⟨?_, ?_, ?_, ?_, ?_, fun o => (hb.frozen (by simp)).trans (by simp [go_sem])⟩ <;> exact (hb.cell (by simp)).trans (by simp [go_sem])
/-- the head of l6Copy's loop -/
structure CopyAt (w wr : World) (k n x : Int) (s : ByteArray) (a : Option Addr) (len cap : Nat) (a' : Option Addr) (cap' : Nat) (lr : List AT) : Prop where
  v4 : wr.cell? ⟨w.heap.size, 4, none⟩ = some (.slice a len cap)
  r0 : wr.cell? ⟨w.heap.size + 1, 0, none⟩ = some (.int .i64 0)
  r1 : wr.cell? ⟨w.heap.size + 1, 1, none⟩ = some (.int .i64 0)
  r2 : wr.cell? ⟨w.heap.size + 1, 2, none⟩ = some (.int .i64 0)
  r3 : wr.cell? ⟨w.heap.size + 1, 3, none⟩ = some (.string ⟨#[]⟩)
  r4 : wr.cell? ⟨w.heap.size + 1, 4, none⟩ = some (.slice none 0 0)
  rf : ∀ o, wr.frozen? ⟨w.heap.size + 1, o, none⟩ = false
  o0 : wr.cell? ⟨w.heap.size + 2, 0, none⟩ = some (.int .i64 k)
  o1 : wr.cell? ⟨w.heap.size + 2, 1, none⟩ = some (.int .i64 n)
  o2 : wr.cell? ⟨w.heap.size + 2, 2, none⟩ = some (.int .i64 x)
  o3 : wr.cell? ⟨w.heap.size + 2, 3, none⟩ = some (.string s)
  o4 : wr.cell? ⟨w.heap.size + 2, 4, none⟩ = some (.slice a' lr.length cap')
  of : ∀ o, wr.frozen? ⟨w.heap.size + 2, o, none⟩ = false
  own : OwnL wr (w.heap.size + 3) a' cap' lr
  nd : ((a'.map (·.block)).toList ++ AT.blksL lr).Nodup
  below : Below w.heap.size w wr
  sz : w.heap.size + 3 ≤ wr.heap.size
theorem CopyAt.keep {w wr w' : World} {k n x : Int} {s : ByteArray} {a : Option Addr} {len cap : Nat} {a' : Option Addr} {cap' : Nat} {lr : List AT} (h : CopyAt w wr k n x s a len cap a' cap' lr) (hb : Below wr.heap.size wr w') : CopyAt w w' k n x s a len cap a' cap' lr where
  v4 := keep_below hb h.v4
  r0 := keep_below hb h.r0
  r1 := keep_below hb h.r1
  r2 := keep_below hb h.r2
  r3 := keep_below hb h.r3
  r4 := keep_below hb h.r4
  rf o := by have := h.sz; rw [frozen_blk' (hb.block _ (by omega))]; exact h.rf o
  o0 := keep_below hb h.o0
  o1 := keep_below hb h.o1
  o2 := keep_below hb h.o2
  o3 := keep_below hb h.o3
  o4 := keep_below hb h.o4
  of o := by have := h.sz; rw [frozen_blk' (hb.block _ (by omega))]; exact h.of o
  own := h.own.blw hb
  nd := h.nd
  below := h.below.trans (hb.mono h.below.size)
  sz := by have := h.sz; have := hb.size; omega
/-- an append to the row, and the field set anew -/
theorem CopyAt.push {w W w3 : World} {k n x : Int} {s : ByteArray} {a : Option Addr} {len cap : Nat} {a' : Option Addr} {cap' gg cap2 : Nat} {lr : List AT} {T : AT} (h : CopyAt w W k n x s a len cap a' cap' lr) (hT : T.Own W (w.heap.size + 3)) (hTn : T.blks.Nodup) (hdis : ∀ k ∈ T.blks, k ∉ (a'.map (·.block)).toList ++ AT.blksL lr)
    (hown : w3.ownsRow (w.heap.size + 3) 26 5 (.slice (some ⟨gg, 0, none⟩) (lr.length + 1) cap2) (lr.length + 1) (cellsL lr ++ T.cells)) (hgrow : W.grownBy w3 (Value.slice a' lr.length cap').ownBlock) (hat : (Value.slice a' lr.length cap').ownBlock = some gg ∨ gg = W.heap.size) :
    CopyAt w (w3.setCell ⟨w.heap.size + 2, 4, none⟩ (.slice (some ⟨gg, 0, none⟩) (lr.length + 1) cap2)) k n x s a len cap (some ⟨gg, 0, none⟩) cap2 (lr ++ [T]) ∧ w3.frozen? ⟨w.heap.size + 2, 4, none⟩ = false ∧ w3.cell? ⟨w.heap.size + 2, 4, none⟩ = some (.slice a' lr.length cap') := by
  have hz := h.sz
  obtain ⟨hnew, hnd3⟩ := row_push h.own h.nd hT hTn hdis hown hgrow hat
  have hblk : ∀ b, b < w.heap.size + 3 → w3.heap[b]? = W.heap[b]? := fun b hb => hgrow.block b (by omega) (fun e => by have := h.own.row.lt b e.symm; omega)
  have hc : ∀ b o v, b < w.heap.size + 3 → W.cell? ⟨b, o, none⟩ = some v → w3.cell? ⟨b, o, none⟩ = some v := fun b o v hb hv => by rw [World.cell?_of_block (hblk b hb)]; exact hv
  have hf : ∀ b o, b < w.heap.size + 3 → w3.frozen? ⟨b, o, none⟩ = W.frozen? ⟨b, o, none⟩ := fun b o hb => frozen_blk' (hblk b hb)
  have hset : ∀ b o v, (b ≠ w.heap.size + 2 ∨ o ≠ 4) → w3.cell? ⟨b, o, none⟩ = some v → (w3.setCell ⟨w.heap.size + 2, 4, none⟩ (.slice (some ⟨gg, 0, none⟩) (lr.length + 1) cap2)).cell? ⟨b, o, none⟩ = some v := fun b o v hbo hv => by
    rw [World.cell?_setCell_other _ _ _ _ (fun e => by injection e with e1 e2; omega)]; exact hv
  have h4 := hc _ _ _ (by omega) h.o4
  have hgg : w.heap.size + 3 ≤ gg := (hnew.row.lt gg rfl).1
  have hl : (lr ++ [T]).length = lr.length + 1 := by simp
  refine ⟨{
    v4 := hset _ _ _ (by omega) (hc _ _ _ (by omega) h.v4)
    r0 := hset _ _ _ (by omega) (hc _ _ _ (by omega) h.r0)
    r1 := hset _ _ _ (by omega) (hc _ _ _ (by omega) h.r1)
    r2 := hset _ _ _ (by omega) (hc _ _ _ (by omega) h.r2)
    r3 := hset _ _ _ (by omega) (hc _ _ _ (by omega) h.r3)
    r4 := hset _ _ _ (by omega) (hc _ _ _ (by omega) h.r4)
    rf := fun o => by have := hf (w.heap.size + 1) o (by omega); rw [h.rf o] at this; simp [go_sem, this]
    o0 := hset _ _ _ (by omega) (hc _ _ _ (by omega) h.o0)
    o1 := hset _ _ _ (by omega) (hc _ _ _ (by omega) h.o1)
    o2 := hset _ _ _ (by omega) (hc _ _ _ (by omega) h.o2)
    o3 := hset _ _ _ (by omega) (hc _ _ _ (by omega) h.o3)
    o4 := by rw [hl]; exact World.cell?_setCell_same _ _ _ h4
    of := fun o => by have := hf (w.heap.size + 2) o (by omega); rw [h.of o] at this; simp [go_sem, this]
    own := (AT.Own.setg' (T := .mk 0 0 0 [] (some ⟨gg, 0, none⟩) cap2 (lr ++ [T])) hnew.own (fun hm => by have := (hnew.lt _ hm).1; omega)).l
    nd := hnd3
    below := bset (h.below.trans (below_push hgrow (fun k hk => by have := (h.own.row.lt k hk).1; omega) (Below.refl _ _) h.below.size)) (by omega)
    sz := by have := hgrow.size; simp [World.setCell]; omega }, ?_, h4⟩
  rw [hf _ _ (by omega)]; exact h.of 4
theorem CopyAt.start (w : World) (k n x : Int) (s : ByteArray) (a : Option Addr) (len cap : Nat) :
    CopyAt w ((((w.alloc (.cells #[.int .i64 k, .int .i64 n, .int .i64 x, .string s, .slice a len cap] 26)).alloc (.cells #[.int .i64 0, .int .i64 0, .int .i64 0, .string ⟨#[]⟩, .slice none 0 0] 26)).alloc (.cells #[.int .i64 k, .int .i64 n, .int .i64 x, .string s, .slice (some ⟨w.heap.size + 3, 0, none⟩) 0 0] 26)).alloc (.cells #[] 26)) k n x s a len cap (some ⟨w.heap.size + 3, 0, none⟩) 0 [] where
  v4 := by simp [go_sem]
  r0 := by simp [go_sem]
  r1 := by simp [go_sem]
  r2 := by simp [go_sem]
  r3 := by simp [go_sem]
  r4 := by simp [go_sem]
  rf o := by simp [go_sem]
  o0 := by simp [go_sem]
  o1 := by simp [go_sem]
  o2 := by simp [go_sem]
  o3 := by simp [go_sem]
  o4 := by simp [go_sem]
  of o := by simp [go_sem]
  own := by
    have := emptyRow (((w.alloc (.cells #[.int .i64 k, .int .i64 n, .int .i64 x, .string s, .slice a len cap] 26)).alloc (.cells #[.int .i64 0, .int .i64 0, .int .i64 0, .string ⟨#[]⟩, .slice none 0 0] 26)).alloc (.cells #[.int .i64 k, .int .i64 n, .int .i64 x, .string s, .slice (some ⟨w.heap.size + 3, 0, none⟩) 0 0] 26)) (w.heap.size + 3) (by simp)
    simpa using this
  nd := by simp [AT.blksL]
  below := (boxes3 w _ _ _).alloc (by simp; omega) _
  sz := by simp
set_option maxHeartbeats 1000000 in
theorem l6Copy_of (k n x : Int) (s : List UInt8) (a : Option Addr) (cap : Nat) (l : List AT) (ih : ∀ t ∈ l, ∀ (w : World) (N : Nat), t.In w N → N ≤ w.heap.size → Calls Tryd.prog 36 #[t.val] w (FreshV w t.pt)) (hl : l.length ≤ 1048576) (w : World) (N : Nat) (h : Lv w N a cap l) (hN : N ≤ w.heap.size) :
    Calls Tryd.prog 36 #[(AT.mk k n x s a cap l).val] w (FreshV w (AT.mk k n x s a cap l).pt) := by
  obtain ⟨i0, hi, hz0, hz1, hz2⟩ := info_parts valInfo
  have H := Lib.hid h
  have IH := Lib.hid ih
  clear h ih
  have HST := Lib.hid (CopyAt.start w k n x ⟨s.toArray⟩ a l.length cap)
  show Calls Tryd.prog 36 #[.agg #[.int .i64 k, .int .i64 n, .int .i64 x, .string ⟨s.toArray⟩, .slice a l.length cap]] w _
  go_enter Tryd.func36, Tryd.ntmps36
  go_wp2
  go_loopw [4] (fun i wr => ∃ (lr : List AT) (a' : Option Addr) (cap' : Nat), i = .int .i64 lr.length ∧ lr.length ≤ l.length ∧ AT.ptL lr = (AT.ptL l).take lr.length ∧ CopyAt w wr k n x ⟨s.toArray⟩ a l.length cap a' cap' lr) (fun i _ => l.length - (intOf i).toNat)
  case atStart => exact ⟨[], _, _, rfl, Nat.zero_le _, by simp [AT.ptL], HST.out⟩
  case round =>
    obtain ⟨lr, a', cap', rfl, hlr, hpt, hca⟩ := hrel
    have HCA := Lib.hid hca
    have HP := Lib.hid hpt
    have hv4 := hca.v4
    have hsz := hca.sz
    clear hpt
    by_cases hlt : lr.length < l.length
    · obtain ⟨b, o, rfl, hbN, hC⟩ := H.out.cell lr.length hlt
      have hC := hC.keep (hca.below.block b (by omega))
      have hc := fun w' hw => IH.out l[lr.length] (List.getElem_mem hlt) w' N ((H.out.sub _ (List.getElem_mem hlt)).blw hw hN)
      have HPt : Hid ((AT.ptL l).take (lr.length + 1) = (AT.ptL l).take lr.length ++ [(l[lr.length]).pt]) := Lib.hid (by
        rw [List.take_succ_eq_append_getElem (by simpa using hlt)]; simp [AT.ptL_eq])
      obtain ⟨T, hT⟩ : ∃ T, T = l[lr.length] := ⟨_, rfl⟩
      rw [← hT] at hC hc HPt
      clear hT
      obtain ⟨c0, c1, c2, c3, c4⟩ := hC
      have HC := Lib.hid hc
      clear hc hca
      go_wp2_with fail
      refine (HC.out wr HCA.out.below (by have := HCA.out.below.size; omega)).mono ?_
      rintro e w2 ⟨T', hT', rfl, hOT, hNT, hb2⟩
      have hCA2 := HCA.out.keep hb2
      have hdis : ∀ k ∈ T'.blks, k ∉ (a'.map (·.block)).toList ++ AT.blksL lr := fun k hk hk2 => by
        have h1 := (hOT.lt k hk).1
        have h2 := (HCA.out.own.lt k hk2).2
        omega
      have HX := Lib.hid hT'
      have HOT := Lib.hid (hOT.base (B' := w.heap.size + 3) HCA.out.sz)
      have HNT := Lib.hid hNT
      have HDI := Lib.hid hdis
      have HCA3 := Lib.hid (hCA2.keep (vbox w2 (.cells #[.int .i64 T'.k, .int .i64 T'.n, .int .i64 T'.x, .string ⟨T'.s.toArray⟩, .slice T'.a T'.l.length T'.cap] 26)))
      have HCA4 := Lib.hid ((hCA2.keep (vbox w2 (.cells #[.int .i64 T'.k, .int .i64 T'.n, .int .i64 T'.x, .string ⟨T'.s.toArray⟩, .slice T'.a T'.l.length T'.cap] 26))).keep (vbox _ (.cells #[.int .i64 T'.k, .int .i64 T'.n, .int .i64 T'.x, .string ⟨T'.s.toArray⟩, .slice T'.a T'.l.length T'.cap] 26)))
      have ho4 := HCA3.out.o4
      have hsz2 : w.heap.size + 3 ≤ w2.heap.size := hCA2.sz
      clear hT' hOT hNT hb2 hCA2 hdis hv4 c0 c1 c2 c3 c4
      go_wp2_with (refine wpList_append_lies _ (by rfl) _ _ _ (by rfl) (w.heap.size + 3) 26 i0 _ 5 64 Tryd.underlying24 hi hz0 hz1 hz2 rfl (by omega) _ lr.length _ (by rfl) HCA4.out.own.row ⟨w2.heap.size + 1, 0, none⟩ 1 1 T'.cells (by rfl) (by rfl) ?news (cells_one T') (by omega) (by unfold maxLen; omega) (by omega) (by simp; omega) (w2.heap.size + 2) (by simp) ?_)
      case news =>
        have := news_of_cells (w2.alloc (.cells #[.int .i64 T'.k, .int .i64 T'.n, .int .i64 T'.x, .string ⟨T'.s.toArray⟩, .slice T'.a T'.l.length T'.cap] 26)) T'
        simpa using this
      intro gg cap2 w3 hown3 hgrow hat hlt3
      have hbW : Below w2.heap.size w2 ((w2.alloc (.cells #[.int .i64 T'.k, .int .i64 T'.n, .int .i64 T'.x, .string ⟨T'.s.toArray⟩, .slice T'.a T'.l.length T'.cap] 26)).alloc (.cells #[.int .i64 T'.k, .int .i64 T'.n, .int .i64 T'.x, .string ⟨T'.s.toArray⟩, .slice T'.a T'.l.length T'.cap] 26)) := boxes2 w2 _ _
      obtain ⟨hnew, hf4, hc4⟩ := HCA4.out.push (HOT.out.blw hbW) HNT.out HDI.out hown3 hgrow (by simpa using hat)
      have HNEW := Lib.hid hnew
      have HPT : Hid (AT.ptL (lr ++ [T']) = (AT.ptL l).take (lr.length + 1)) := Lib.hid (by
        rw [AT.ptL_eq, List.map_append, ← AT.ptL_eq, HP.out, List.map_singleton, HX.out, HPt.out])
      clear hown3 hgrow hat hlt3 hbW hnew ho4
      go_wp2
      go_roundw
      case rel => exact ⟨lr ++ [T'], some ⟨gg, 0, none⟩, cap2, by rw [List.length_append]; go_num, by rw [List.length_append, List.length_singleton]; omega, by rw [List.length_append, List.length_singleton]; exact HPT.out, HNEW.out⟩
      case measure => simp [intOf]; omega
    · obtain heq : lr.length = l.length := by omega
      have q0 := hca.o0
      have q1 := hca.o1
      have q2 := hca.o2
      have q3 := hca.o3
      have q4 := hca.o4
      have r0 := hca.r0
      have r1 := hca.r1
      have r2 := hca.r2
      have r3 := hca.r3
      have r4 := hca.r4
      have rf := hca.rf
      have HE := Lib.hid heq
      clear hca heq
      go_wp2
      refine bodyPost_ret (v := .agg #[.int .i64 k, .int .i64 n, .int .i64 x, .string ⟨s.toArray⟩, .slice a' lr.length cap']) (by simp [results, Tryd.results36, go_sem, r0, r1, r2, r3, r4]) rfl ⟨.mk k n x s a' cap' lr, ?_, rfl, ?_, ?_, ?_⟩
      · simp only [AT.pt]
        rw [HP.out, List.take_of_length_le (by rw [AT.ptL_length]; have := HE.out; omega)]
      · refine AT.Own.base (B := w.heap.size + 3) ?_ (by omega)
        exact AT.Own.set (AT.Own.set (AT.Own.set (AT.Own.set (AT.Own.set HCA.out.own.own (by omega)) (by omega)) (by omega)) (by omega)) (by omega)
      · exact HCA.out.nd
      · exact bset (bset (bset (bset (bset HCA.out.below (by omega)) (by omega)) (by omega)) (by omega)) (by omega)
theorem l6Copy_any (T : AT) : T.pt.sz ≤ 1048576 → ∀ (w : World) (N : Nat), T.In w N → N ≤ w.heap.size → Calls Tryd.prog 36 #[T.val] w (FreshV w T.pt) := by
  induction T using AT.ind with
  | h k n x s a cap l ih =>
    intro hsz w N hin hN
    have e1 : (AT.mk k n x s a cap l).pt.sz = s.length + (l.length + PT.szL (AT.ptL l)) := by simp [AT.pt, PT.sz]
    have hss : ∀ t ∈ l, t.pt.sz ≤ 1048576 := fun t ht => by have := szL_ge ht; omega
    exact l6Copy_of k n x s a cap l (fun t ht => ih t ht (hss t ht)) (by omega) w N hin.lv hN
end Go.Proofs.YtgfebmnlcihpnaaDoor
