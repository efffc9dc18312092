import Derived.Test.YtilgncebhgplaaaG13
import Derived.Test.YtilgncebhgplaaaG2
import Derived.Test.YtilgncebhgplaaaG10
import Derived.Test.YtilgncebhgplaaaG4
import Derived.Deep.AppendLies
import Derived.Test.YtilgncebhgplaaaG12
/- LessVal of the program. -/
namespace Go.Proofs.Ytilgncebhgplaaa
open Go.RowKit
set_option maxRecDepth 100000
theorem lessval_impl (T U : AT) (w : World) (N : Nat) (hwf : T.pt.Wf) (hwf2 : U.pt.Wf) (hin : T.In w N) (hin2 : U.In w N) (hN : N ≤ w.heap.size) (hsz : T.pt.sz ≤ 2097152) : Calls Try.prog 25 #[T.val, U.val] w fun e w' => e = .returned (.bool (T.pt.less U.pt)) ∧ Below w.heap.size w w' := by
  have HC := Lib.hid (fun (w1 : World) (hb : Below w.heap.size w w1) => treesN T U w1 N hwf hwf2 (hin.blw hb hN) (hin2.blw hb hN) (Nat.le_trans hN hb.size) hsz)
  have hl : T.pt.less U.pt = decide (T.pt.cmp numV U.pt < 0) := rfl
  rw [hl]
  generalize T.pt.cmp numV U.pt = r at *
  clear hin hin2 hwf hwf2 hsz
  show Calls Try.prog 25 #[.agg #[.int .i64 T.k, .int .i64 T.n, .int .i64 T.x, .string ⟨T.s.toArray⟩, .slice T.a T.l.length T.cap], .agg #[.int .i64 U.k, .int .i64 U.n, .int .i64 U.x, .string ⟨U.s.toArray⟩, .slice U.a U.l.length U.cap]] w _
  go_enter Try.func25, Try.ntmps25
  go_wp2_with fail
  refine (HC.out _ (two' _ _ _)).mono ?_
  rintro e w1 ⟨rfl, hb1⟩
  have HB := Lib.hid ((two' w (.cells #[.int .i64 T.k, .int .i64 T.n, .int .i64 T.x, .string ⟨T.s.toArray⟩, .slice T.a T.l.length T.cap] 28) (.cells #[.int .i64 U.k, .int .i64 U.n, .int .i64 U.x, .string ⟨U.s.toArray⟩, .slice U.a U.l.length U.cap] 28)).trans (hb1.mono (by simp; omega)))
  clear hb1
  go_wp2
  go_ret
  exact ⟨rfl, HB.out⟩
end Go.Proofs.Ytilgncebhgplaaa
/- l6Copy and ListVal of the model. -/
namespace Go.Proofs.Ytilgncebhgplaaa
open Go.RowKit
theorem zbox5 (w : World) {t : TypeId} {wr : World} (hb : Below (w.alloc (.cells #[.int .i64 0, .int .i64 0, .int .i64 0, .string ⟨#[]⟩, .slice none 0 0] t)).heap.size (w.alloc (.cells #[.int .i64 0, .int .i64 0, .int .i64 0, .string ⟨#[]⟩, .slice none 0 0] t)) wr) :
    wr.cell? ⟨w.heap.size, 0, none⟩ = some (.int .i64 0) ∧ wr.cell? ⟨w.heap.size, 1, none⟩ = some (.int .i64 0) ∧ wr.cell? ⟨w.heap.size, 2, none⟩ = some (.int .i64 0) ∧ wr.cell? ⟨w.heap.size, 3, none⟩ = some (.string ⟨#[]⟩) ∧ wr.cell? ⟨w.heap.size, 4, none⟩ = some (.slice none 0 0) ∧ (∀ o, wr.frozen? ⟨w.heap.size, o, none⟩ = false) := by
  refine ⟨?_, ?_, ?_, ?_, ?_, fun o => (hb.frozen (by simp)).trans (by simp [go_sem])⟩ <;> exact (hb.cell (by simp)).trans (by simp [go_sem])
/-- the head of l6Copy's loop -/
structure CopyAt (w wr : World) (k n x : Int) (s : ByteArray) (a : Option Addr) (len cap : Nat) (a' : Option Addr) (cap' : Nat) (lr : List AT) : Prop where
  v4 : wr.cell? ⟨w.heap.size, 4, none⟩ = some (.slice a len cap)
  r0 : wr.cell? ⟨w.heap.size + 1, 0, none⟩ = some (.int .i64 0)
  r1 : wr.cell? ⟨w.heap.size + 1, 1, none⟩ = some (.int .i64 0)
  r2 : wr.cell? ⟨w.heap.size + 1, 2, none⟩ = some (.int .i64 0)
  r3 : wr.cell? ⟨w.heap.size + 1, 3, none⟩ = some (.string ⟨#[]⟩)
  r4 : wr.cell? ⟨w.heap.size + 1, 4, none⟩ = some (.slice none 0 0)
  rf : ∀ o, wr.frozen? ⟨w.heap.size + 1, o, none⟩ = false
  o0 : wr.cell? ⟨w.heap.size + 2, 0, none⟩ = some (.int .i64 k)
  o1 : wr.cell? ⟨w.heap.size + 2, 1, none⟩ = some (.int .i64 n)
  o2 : wr.cell? ⟨w.heap.size + 2, 2, none⟩ = some (.int .i64 x)
  o3 : wr.cell? ⟨w.heap.size + 2, 3, none⟩ = some (.string s)
  o4 : wr.cell? ⟨w.heap.size + 2, 4, none⟩ = some (.slice a' lr.length cap')
  of : ∀ o, wr.frozen? ⟨w.heap.size + 2, o, none⟩ = false
  own : OwnL wr (w.heap.size + 3) a' cap' lr
  nd : ((a'.map (·.block)).toList ++ AT.blksL lr).Nodup
  below : Below w.heap.size w wr
  sz : w.heap.size + 3 ≤ wr.heap.size
theorem CopyAt.keep {w wr w' : World} {k n x : Int} {s : ByteArray} {a : Option Addr} {len cap : Nat} {a' : Option Addr} {cap' : Nat} {lr : List AT} (h : CopyAt w wr k n x s a len cap a' cap' lr) (hb : Below wr.heap.size wr w') : CopyAt w w' k n x s a len cap a' cap' lr where
  v4 := keep_below hb h.v4
  r0 := keep_below hb h.r0
  r1 := keep_below hb h.r1
  r2 := keep_below hb h.r2
  r3 := keep_below hb h.r3
  r4 := keep_below hb h.r4
  rf o := by have := h.sz; rw [frozen_blk' (hb.block _ (by omega))]; exact h.rf o
  o0 := keep_below hb h.o0
  o1 := keep_below hb h.o1
  o2 := keep_below hb h.o2
  o3 := keep_below hb h.o3
  o4 := keep_below hb h.o4
  of o := by have := h.sz; rw [frozen_blk' (hb.block _ (by omega))]; exact h.of o
  own := h.own.blw hb
  nd := h.nd
  below := h.below.trans (hb.mono h.below.size)
  sz := by have := h.sz; have := hb.size; omega
/-- an append to the row, and the field set anew -/
theorem CopyAt.push {w W w3 : World} {k n x : Int} {s : ByteArray} {a : Option Addr} {len cap : Nat} {a' : Option Addr} {cap' gg cap2 : Nat} {lr : List AT} {T : AT} (h : CopyAt w W k n x s a len cap a' cap' lr) (hT : T.Own W (w.heap.size + 3)) (hTn : T.blks.Nodup) (hdis : ∀ k ∈ T.blks, k ∉ (a'.map (·.block)).toList ++ AT.blksL lr)
    (hown : w3.ownsRow (w.heap.size + 3) 28 5 (.slice (some ⟨gg, 0, none⟩) (lr.length + 1) cap2) (lr.length + 1) (cellsL lr ++ T.cells)) (hgrow : W.grownBy w3 (Value.slice a' lr.length cap').ownBlock) (hat : (Value.slice a' lr.length cap').ownBlock = some gg ∨ gg = W.heap.size) :
    CopyAt w (w3.setCell ⟨w.heap.size + 2, 4, none⟩ (.slice (some ⟨gg, 0, none⟩) (lr.length + 1) cap2)) k n x s a len cap (some ⟨gg, 0, none⟩) cap2 (lr ++ [T]) ∧ w3.frozen? ⟨w.heap.size + 2, 4, none⟩ = false ∧ w3.cell? ⟨w.heap.size + 2, 4, none⟩ = some (.slice a' lr.length cap') := by
  have hz := h.sz
  obtain ⟨hnew, hnd3⟩ := row_push h.own h.nd hT hTn hdis hown hgrow hat
  have hblk : ∀ b, b < w.heap.size + 3 → w3.heap[b]? = W.heap[b]? := fun b hb => hgrow.block b (by omega) (fun e => by have := h.own.row.lt b e.symm; omega)
  have hc : ∀ b o v, b < w.heap.size + 3 → W.cell? ⟨b, o, none⟩ = some v → w3.cell? ⟨b, o, none⟩ = some v := fun b o v hb hv => by rw [World.cell?_of_block (hblk b hb)]; exact hv
  have hf : ∀ b o, b < w.heap.size + 3 → w3.frozen? ⟨b, o, none⟩ = W.frozen? ⟨b, o, none⟩ := fun b o hb => frozen_blk' (hblk b hb)
  have hset : ∀ b o v, (b ≠ w.heap.size + 2 ∨ o ≠ 4) → w3.cell? ⟨b, o, none⟩ = some v → (w3.setCell ⟨w.heap.size + 2, 4, none⟩ (.slice (some ⟨gg, 0, none⟩) (lr.length + 1) cap2)).cell? ⟨b, o, none⟩ = some v := fun b o v hbo hv => by
    rw [World.cell?_setCell_other _ _ _ _ (fun e => by injection e with e1 e2; omega)]; exact hv
  have h4 := hc _ _ _ (by omega) h.o4
  have hgg : w.heap.size + 3 ≤ gg := (hnew.row.lt gg rfl).1
  have hl : (lr ++ [T]).length = lr.length + 1 := by simp
  refine ⟨{
    v4 := hset _ _ _ (by omega) (hc _ _ _ (by omega) h.v4)
    r0 := hset _ _ _ (by omega) (hc _ _ _ (by omega) h.r0)
    r1 := hset _ _ _ (by omega) (hc _ _ _ (by omega) h.r1)
    r2 := hset _ _ _ (by omega) (hc _ _ _ (by omega) h.r2)
    r3 := hset _ _ _ (by omega) (hc _ _ _ (by omega) h.r3)
    r4 := hset _ _ _ (by omega) (hc _ _ _ (by omega) h.r4)
    rf := fun o => by have := hf (w.heap.size + 1) o (by omega); rw [h.rf o] at this; simp [go_sem, this]
    o0 := hset _ _ _ (by omega) (hc _ _ _ (by omega) h.o0)
    o1 := hset _ _ _ (by omega) (hc _ _ _ (by omega) h.o1)
    o2 := hset _ _ _ (by omega) (hc _ _ _ (by omega) h.o2)
    o3 := hset _ _ _ (by omega) (hc _ _ _ (by omega) h.o3)
    o4 := by rw [hl]; exact World.cell?_setCell_same _ _ _ h4
    of := fun o => by have := hf (w.heap.size + 2) o (by omega); rw [h.of o] at this; simp [go_sem, this]
    own := (AT.Own.setg' (T := .mk 0 0 0 [] (some ⟨gg, 0, none⟩) cap2 (lr ++ [T])) hnew.own (fun hm => by have := (hnew.lt _ hm).1; omega)).l
    nd := hnd3
    below := bset (h.below.trans (below_push hgrow (fun k hk => by have := (h.own.row.lt k hk).1; omega) (Below.refl _ _) h.below.size)) (by omega)
    sz := by have := hgrow.size; simp [World.setCell]; omega }, ?_, h4⟩
  rw [hf _ _ (by omega)]; exact h.of 4
theorem CopyAt.start (w : World) (k n x : Int) (s : ByteArray) (a : Option Addr) (len cap : Nat) :
    CopyAt w ((((w.alloc (.cells #[.int .i64 k, .int .i64 n, .int .i64 x, .string s, .slice a len cap] 28)).alloc (.cells #[.int .i64 0, .int .i64 0, .int .i64 0, .string ⟨#[]⟩, .slice none 0 0] 28)).alloc (.cells #[.int .i64 k, .int .i64 n, .int .i64 x, .string s, .slice (some ⟨w.heap.size + 3, 0, none⟩) 0 0] 28)).alloc (.cells #[] 28)) k n x s a len cap (some ⟨w.heap.size + 3, 0, none⟩) 0 [] where
  v4 := by simp [go_sem]
  r0 := by simp [go_sem]
  r1 := by simp [go_sem]
  r2 := by simp [go_sem]
  r3 := by simp [go_sem]
  r4 := by simp [go_sem]
  rf o := by simp [go_sem]
  o0 := by simp [go_sem]
  o1 := by simp [go_sem]
  o2 := by simp [go_sem]
  o3 := by simp [go_sem]
  o4 := by simp [go_sem]
  of o := by simp [go_sem]
  own := by
    have := emptyRow (((w.alloc (.cells #[.int .i64 k, .int .i64 n, .int .i64 x, .string s, .slice a len cap] 28)).alloc (.cells #[.int .i64 0, .int .i64 0, .int .i64 0, .string ⟨#[]⟩, .slice none 0 0] 28)).alloc (.cells #[.int .i64 k, .int .i64 n, .int .i64 x, .string s, .slice (some ⟨w.heap.size + 3, 0, none⟩) 0 0] 28)) (w.heap.size + 3) (by simp)
    simpa using this
  nd := by simp [AT.blksL]
  below := (boxes3 w _ _ _).alloc (by simp; omega) _
  sz := by simp
set_option maxHeartbeats 1000000 in
theorem l6Copy_of (k n x : Int) (s : List UInt8) (a : Option Addr) (cap : Nat) (l : List AT) (ih : ∀ t ∈ l, ∀ (w : World) (N : Nat), t.In w N → N ≤ w.heap.size → Calls Try.prog 17 #[t.val] w (FreshV w t.pt)) (hl : l.length ≤ 1048576) (w : World) (N : Nat) (h : Lv w N a cap l) (hN : N ≤ w.heap.size) :
    Calls Try.prog 17 #[(AT.mk k n x s a cap l).val] w (FreshV w (AT.mk k n x s a cap l).pt) := by
  obtain ⟨i0, hi, hz0, hz1, hz2⟩ := info_parts valInfo
  have H := Lib.hid h
  have IH := Lib.hid ih
  clear h ih
  have HST := Lib.hid (CopyAt.start w k n x ⟨s.toArray⟩ a l.length cap)
  show Calls Try.prog 17 #[.agg #[.int .i64 k, .int .i64 n, .int .i64 x, .string ⟨s.toArray⟩, .slice a l.length cap]] w _
  go_enter Try.func17, Try.ntmps17
  go_wp2
  go_loopw [4] (fun i wr => ∃ (lr : List AT) (a' : Option Addr) (cap' : Nat), i = .int .i64 lr.length ∧ lr.length ≤ l.length ∧ AT.ptL lr = (AT.ptL l).take lr.length ∧ CopyAt w wr k n x ⟨s.toArray⟩ a l.length cap a' cap' lr) (fun i _ => l.length - (intOf i).toNat)
  case atStart => exact ⟨[], _, _, rfl, Nat.zero_le _, by simp [AT.ptL], HST.out⟩
  case round =>
    obtain ⟨lr, a', cap', rfl, hlr, hpt, hca⟩ := hrel
    have HCA := Lib.hid hca
    have HP := Lib.hid hpt
    have hv4 := hca.v4
    have hsz := hca.sz
    clear hpt
    by_cases hlt : lr.length < l.length
    · obtain ⟨b, o, rfl, hbN, hC⟩ := H.out.cell lr.length hlt
      have hC := hC.keep (hca.below.block b (by omega))
      have hc := fun w' hw => IH.out l[lr.length] (List.getElem_mem hlt) w' N ((H.out.sub _ (List.getElem_mem hlt)).blw hw hN)
      have HPt : Hid ((AT.ptL l).take (lr.length + 1) = (AT.ptL l).take lr.length ++ [(l[lr.length]).pt]) := Lib.hid (by
        rw [List.take_succ_eq_append_getElem (by simpa using hlt)]; simp [AT.ptL_eq])
      obtain ⟨T, hT⟩ : ∃ T, T = l[lr.length] := ⟨_, rfl⟩
      rw [← hT] at hC hc HPt
      clear hT
      obtain ⟨c0, c1, c2, c3, c4⟩ := hC
      have HC := Lib.hid hc
      clear hc hca
      go_wp2_with fail
      refine (HC.out wr HCA.out.below (by have := HCA.out.below.size; omega)).mono ?_
      rintro e w2 ⟨T', hT', rfl, hOT, hNT, hb2⟩
      have hCA2 := HCA.out.keep hb2
      have hdis : ∀ k ∈ T'.blks, k ∉ (a'.map (·.block)).toList ++ AT.blksL lr := fun k hk hk2 => by
        have h1 := (hOT.lt k hk).1
        have h2 := (HCA.out.own.lt k hk2).2
        omega
      have HX := Lib.hid hT'
      have HOT := Lib.hid (hOT.base (B' := w.heap.size + 3) HCA.out.sz)
      have HNT := Lib.hid hNT
      have HDI := Lib.hid hdis
      have HCA3 := Lib.hid (hCA2.keep (vbox w2 (.cells #[.int .i64 T'.k, .int .i64 T'.n, .int .i64 T'.x, .string ⟨T'.s.toArray⟩, .slice T'.a T'.l.length T'.cap] 28)))
      have HCA4 := Lib.hid ((hCA2.keep (vbox w2 (.cells #[.int .i64 T'.k, .int .i64 T'.n, .int .i64 T'.x, .string ⟨T'.s.toArray⟩, .slice T'.a T'.l.length T'.cap] 28))).keep (vbox _ (.cells #[.int .i64 T'.k, .int .i64 T'.n, .int .i64 T'.x, .string ⟨T'.s.toArray⟩, .slice T'.a T'.l.length T'.cap] 28)))
      have ho4 := HCA3.out.o4
      have hsz2 : w.heap.size + 3 ≤ w2.heap.size := hCA2.sz
      clear hT' hOT hNT hb2 hCA2 hdis hv4 c0 c1 c2 c3 c4
      go_wp2_with (refine wpList_append_lies _ (by rfl) _ _ _ (by rfl) (w.heap.size + 3) 28 i0 _ 5 64 Try.underlying26 hi hz0 hz1 hz2 rfl (by omega) _ lr.length _ (by rfl) HCA4.out.own.row ⟨w2.heap.size + 1, 0, none⟩ 1 1 T'.cells (by rfl) (by rfl) ?news (cells_one T') (by omega) (by unfold maxLen; omega) (by omega) (by simp; omega) (w2.heap.size + 2) (by simp) ?_)
      case news =>
        have := news_of_cells (w2.alloc (.cells #[.int .i64 T'.k, .int .i64 T'.n, .int .i64 T'.x, .string ⟨T'.s.toArray⟩, .slice T'.a T'.l.length T'.cap] 28)) T'
        simpa using this
      intro gg cap2 w3 hown3 hgrow hat hlt3
      have hbW : Below w2.heap.size w2 ((w2.alloc (.cells #[.int .i64 T'.k, .int .i64 T'.n, .int .i64 T'.x, .string ⟨T'.s.toArray⟩, .slice T'.a T'.l.length T'.cap] 28)).alloc (.cells #[.int .i64 T'.k, .int .i64 T'.n, .int .i64 T'.x, .string ⟨T'.s.toArray⟩, .slice T'.a T'.l.length T'.cap] 28)) := boxes2 w2 _ _
      obtain ⟨hnew, hf4, hc4⟩ := HCA4.out.push (HOT.out.blw hbW) HNT.out HDI.out hown3 hgrow (by simpa using hat)
      have HNEW := Lib.hid hnew
      have HPT : Hid (AT.ptL (lr ++ [T']) = (AT.ptL l).take (lr.length + 1)) := Lib.hid (by
        rw [AT.ptL_eq, List.map_append, ← AT.ptL_eq, HP.out, List.map_singleton, HX.out, HPt.out])
      clear hown3 hgrow hat hlt3 hbW hnew ho4
      go_wp2
      go_roundw
      case rel => exact ⟨lr ++ [T'], some ⟨gg, 0, none⟩, cap2, by rw [List.length_append]; go_num, by rw [List.length_append, List.length_singleton]; omega, by rw [List.length_append, List.length_singleton]; exact HPT.out, HNEW.out⟩
      case measure => simp [intOf]; omega
    · obtain heq : lr.length = l.length := by omega
      have q0 := hca.o0
      have q1 := hca.o1
      have q2 := hca.o2
      have q3 := hca.o3
      have q4 := hca.o4
      have r0 := hca.r0
      have r1 := hca.r1
      have r2 := hca.r2
      have r3 := hca.r3
      have r4 := hca.r4
      have rf := hca.rf
      have HE := Lib.hid heq
      clear hca heq
      go_wp2
      refine bodyPost_ret (v := .agg #[.int .i64 k, .int .i64 n, .int .i64 x, .string ⟨s.toArray⟩, .slice a' lr.length cap']) (by simp [results, Try.results17, go_sem, r0, r1, r2, r3, r4]) rfl ⟨.mk k n x s a' cap' lr, ?_, rfl, ?_, ?_, ?_⟩
      · simp only [AT.pt]
        rw [HP.out, List.take_of_length_le (by rw [AT.ptL_length]; have := HE.out; omega)]
      · refine AT.Own.base (B := w.heap.size + 3) ?_ (by omega)
        exact AT.Own.set (AT.Own.set (AT.Own.set (AT.Own.set (AT.Own.set HCA.out.own.own (by omega)) (by omega)) (by omega)) (by omega)) (by omega)
      · exact HCA.out.nd
      · exact bset (bset (bset (bset (bset HCA.out.below (by omega)) (by omega)) (by omega)) (by omega)) (by omega)
theorem l6Copy_any (T : AT) : T.pt.sz ≤ 1048576 → ∀ (w : World) (N : Nat), T.In w N → N ≤ w.heap.size → Calls Try.prog 17 #[T.val] w (FreshV w T.pt) := by
  induction T using AT.ind with
  | h k n x s a cap l ih =>
    intro hsz w N hin hN
    have e1 : (AT.mk k n x s a cap l).pt.sz = s.length + (l.length + PT.szL (AT.ptL l)) := by simp [AT.pt, PT.sz]
    have hss : ∀ t ∈ l, t.pt.sz ≤ 1048576 := fun t ht => by have := szL_ge ht; omega
    exact l6Copy_of k n x s a cap l (fun t ht => ih t ht (hss t ht)) (by omega) w N hin.lv hN
end Go.Proofs.Ytilgncebhgplaaa
/- The names of a map: plain, NamesOf of the model, namesIn of the program. -/
namespace Go.Proofs.Ytilgncebhgplaaa
open Go.RowKit
set_option maxRecDepth 100000
def evens {α : Type} : List α → List α
  | [] => []
  | [x] => [x]
  | x :: _ :: l => x :: evens l
theorem evens_length {α : Type} (l : List α) : (evens l).length = (l.length + 1) / 2 := by
  induction l using evens.induct with
  | case1 => simp [evens]
  | case2 => simp [evens]
  | case3 x y l ih => simp only [evens, List.length_cons, ih]; omega
theorem evens_get {α : Type} (l : List α) (j : Nat) (hj : 2 * j < l.length) : (evens l)[j]? = some l[2 * j] := by
  induction l using evens.induct generalizing j with
  | case1 => simp at hj
  | case2 x =>
    obtain rfl : j = 0 := by simp at hj; omega
    simp [evens]
  | case3 x y l ih =>
    cases j with
    | zero => simp [evens]
    | succ j =>
      simp only [evens, List.getElem?_cons_succ]
      rw [ih j (by simp at hj; omega)]
      simp only [Nat.mul_add, Nat.mul_one, List.getElem_cons_succ]
theorem evens_map {α β : Type} (f : α → β) (l : List α) : (evens l).map f = evens (l.map f) := by
  induction l using evens.induct with
  | case1 => simp [evens]
  | case2 => simp [evens]
  | case3 x y l ih => simp only [evens, List.map_cons, ih]
theorem evens_mem {α : Type} {l : List α} {x : α} (h : x ∈ evens l) : x ∈ l := by
  induction l using evens.induct with
  | case1 => cases h
  | case2 => exact h
  | case3 y z l ih =>
    simp only [evens, List.mem_cons] at h ⊢
    rcases h with h | h
    · exact .inl h
    · exact .inr (.inr (ih h))
def PT.names : PT → List PT
  | .mk k _ _ _ l => if k = 10 then evens l else []
def AT.names (T : AT) : List AT := if T.k = 10 then evens T.l else []
theorem names_pt (T : AT) : AT.ptL T.names = T.pt.names := by
  obtain ⟨k, n, x, s, a, cap, l⟩ := T
  show AT.ptL (if k = 10 then evens l else []) = if k = 10 then evens (AT.ptL l) else []
  by_cases h : k = 10
  · rw [if_pos h, if_pos h, AT.ptL_eq, AT.ptL_eq, evens_map]
  · rw [if_neg h, if_neg h]; simp [AT.ptL]
theorem names_mem {T t : AT} (h : t ∈ T.names) : t ∈ T.l := by
  unfold AT.names at h
  split at h
  · exact evens_mem h
  · cases h
theorem evens_take {l : List AT} {j : Nat} (hj : 2 * j < l.length) : (evens l).take (j + 1) = (evens l).take j ++ [l[2 * j]] := by
  have hl : j < (evens l).length := by rw [evens_length]; omega
  rw [List.take_succ_eq_append_getElem hl]
  congr 2
  have := evens_get l j hj
  rw [List.getElem?_eq_getElem hl] at this
  simpa using this
end Go.Proofs.Ytilgncebhgplaaa
/- Sorted of the model and of the program. -/
namespace Go.Proofs.Ytilgncebhgplaaa
open Go.RowKit
set_option maxRecDepth 100000
def asc : List PT → Bool
  | t :: u :: l => t.less u && asc (u :: l)
  | _ => true
theorem asc_one (l : List PT) : asc (l.take 1) = true := by cases l <;> simp [asc]
theorem asc_take (l : List PT) (r : Nat) (h : r + 1 < l.length) : asc (l.take (r + 1 + 1)) = (asc (l.take (r + 1)) && (l[r]).less l[r + 1]) := by
  induction l generalizing r with
  | nil => simp at h
  | cons t l ih =>
    cases l with
    | nil => simp at h
    | cons u l =>
      cases r with
      | zero => simp [asc]
      | succ r =>
        have := ih r (by simpa using h)
        simp only [List.take_succ_cons, asc, List.getElem_cons_succ] at this ⊢
        rw [this, Bool.and_assoc]
theorem asc_false (l : List PT) (r : Nat) (h : r + 1 < l.length) (hf : (l[r]).less l[r + 1] = false) : asc l = false := by
  induction l generalizing r with
  | nil => simp at h
  | cons t l ih =>
    cases l with
    | nil => simp at h
    | cons u l =>
      cases r with
      | zero => simp only [asc]; rw [show t.less u = false by simpa using hf]; rfl
      | succ r =>
        simp only [asc]
        rw [ih r (by simpa using h) (by simpa using hf), Bool.and_false]
theorem names_wf {p : PT} (h : p.Wf) (hsz : p.sz ≤ 1048576) : ∀ q ∈ p.names, q.Wf ∧ q.sz ≤ 1048576 := by
  obtain ⟨k, n, x, s, l⟩ := p
  intro q hq
  simp only [PT.names] at hq
  split at hq
  · have hm := evens_mem hq
    have := sz_mem hm
    simp only [PT.sz] at hsz
    exact ⟨h.sub' q hm, by omega⟩
  · cases hq
end Go.Proofs.Ytilgncebhgplaaa
/- The program's copy of a tree by a stack of rows whose elements' elements are still foreign: what holds of the stack. -/
namespace Go.Proofs.Ytilgncebhgplaaa
open Go.RowKit
/-- a row of the call's own whose elements' elements are foreign -/
structure Pend where
  g : Nat
  cap : Nat
  l : List AT
@[reducible] def Pend.val (Q : Pend) : Value := .slice (some ⟨Q.g, 0, none⟩) Q.l.length Q.cap
/-- a tree in rows of whomever, all in blocks below N -/
def Frn (w : World) (N : Nat) (t : AT) : Prop := t.Own w 0 ∧ ∀ k ∈ t.blks, k < N
theorem Frn.kept {w w' : World} {N : Nat} {t : AT} (h : Frn w N t) (hk : ∀ k, k < N → w'.heap[k]? = w.heap[k]?) : Frn w' N t := ⟨h.1.kept fun k hkt => hk k (h.2 k hkt), h.2⟩
theorem Frn.sub {w : World} {N : Nat} {t u : AT} (h : Frn w N t) (hu : u ∈ t.l) : Frn w N u := ⟨h.1.l'.sub u hu, fun k hk => h.2 k (by rw [AT.blks_eq, List.mem_append]; exact .inr (AT.mem_blksL.2 ⟨u, hu, hk⟩))⟩
structure PendAt (w : World) (N B : Nat) (Q : Pend) : Prop where
  row : w.ownsRow B 28 5 Q.val Q.l.length (cellsL Q.l)
  sub : ∀ t ∈ Q.l, Frn w N t
  ne : Q.l ≠ []
theorem PendAt.kept {w w' : World} {N B : Nat} {Q : Pend} (h : PendAt w N B Q) (hk : ∀ k, k = Q.g ∨ k < N → w'.heap[k]? = w.heap[k]?) : PendAt w' N B Q :=
  ⟨own_heap h.row (fun k hg => hk k (.inl (by simp [Value.ownBlock] at hg; exact hg.symm))), fun t ht => (h.sub t ht).kept fun k hkN => hk k (.inr hkN), h.ne⟩
theorem PendAt.lt {w : World} {N B : Nat} {Q : Pend} (h : PendAt w N B Q) : B ≤ Q.g ∧ Q.g < w.heap.size := h.row.lt Q.g rfl
/-- the row is copied at all depths -/
def DoneAt (w' : World) (B : Nat) (Q : Pend) (bs : List Nat) : Prop := ∃ l', OwnL w' B (some ⟨Q.g, 0, none⟩) Q.cap l' ∧ AT.ptL l' = AT.ptL Q.l ∧ bs = Q.g :: AT.blksL l' ∧ bs.Nodup
def DoneL (w' : World) (B : Nat) : List Pend → List (List Nat) → Prop
  | [], [] => True
  | Q :: Qs, bs :: bss => DoneAt w' B Q bs ∧ DoneL w' B Qs bss
  | _, _ => False
theorem doneL_append {w' : World} {B : Nat} {Qs Cs : List Pend} {bss : List (List Nat)} (h : DoneL w' B (Qs ++ Cs) bss) : ∃ b1 b2, bss = b1 ++ b2 ∧ DoneL w' B Qs b1 ∧ DoneL w' B Cs b2 := by
  induction Qs generalizing bss with
  | nil => exact ⟨[], bss, rfl, trivial, h⟩
  | cons Q Qs ih =>
    cases bss with
    | nil => exact h.elim
    | cons bs bss =>
      obtain ⟨b1, b2, rfl, h1, h2⟩ := ih h.2
      exact ⟨bs :: b1, b2, rfl, ⟨h.1, h1⟩, h2⟩
theorem doneL_snoc {w' : World} {B : Nat} {Qs : List Pend} {Q : Pend} {b1 : List (List Nat)} {bs : List Nat} (h1 : DoneL w' B Qs b1) (h2 : DoneAt w' B Q bs) : DoneL w' B (Qs ++ [Q]) (b1 ++ [bs]) := by
  induction Qs generalizing b1 with
  | nil => cases b1 with
    | nil => exact ⟨h2, trivial⟩
    | cons x b1 => exact h1.elim
  | cons R Qs ih =>
    cases b1 with
    | nil => exact h1.elim
    | cons x b1 => exact ⟨h1.1, ih h1.2⟩
/-- the elements of a row, the elements that replace them, and the rows that these lead to -/
inductive Match : List AT → List AT → List Pend → Prop
  | mnil : Match [] [] []
  | mnone {ts ns : List AT} {cs : List Pend} (t : AT) (h : Match ts ns cs) (ht : t.l = []) : Match (ts ++ [t]) (ns ++ [.mk t.k t.n t.x t.s none 0 []]) cs
  | msome {ts ns : List AT} {cs : List Pend} (t : AT) (g cap : Nat) (h : Match ts ns cs) : Match (ts ++ [t]) (ns ++ [.mk t.k t.n t.x t.s (some ⟨g, 0, none⟩) cap t.l]) (cs ++ [⟨g, cap, t.l⟩])
theorem Match.len {ts ns : List AT} {cs : List Pend} (h : Match ts ns cs) : ns.length = ts.length := by
  induction h with
  | mnil => rfl
  | mnone t _ _ ih => simp [ih]
  | msome t g cap _ ih => simp [ih]
def restN (Qs : List Pend) : Nat := (Qs.map fun Q => PT.cntL (AT.ptL Q.l)).sum
theorem restN_append (Qs Cs : List Pend) : restN (Qs ++ Cs) = restN Qs + restN Cs := by simp [restN]
theorem Match.rest {ts ns : List AT} {cs : List Pend} (h : Match ts ns cs) : restN cs + ts.length = PT.cntL (AT.ptL ts) := by
  induction h with
  | mnil => rfl
  | mnone t _ ht ih =>
    rw [AT.ptL_eq, List.map_append, cntL_app, ← AT.ptL_eq, ← ih]
    simp only [List.map_cons, List.map_nil, PT.cntL, cnt_eq', ht, AT.ptL, List.length_append, List.length_cons, List.length_nil]
    omega
  | msome t g cap _ ih =>
    rw [AT.ptL_eq, List.map_append, cntL_app, ← AT.ptL_eq, ← ih, restN_append]
    simp only [List.map_cons, List.map_nil, PT.cntL, cnt_eq', restN, List.sum_cons, List.sum_nil, List.length_append, List.length_cons, List.length_nil]
    omega
/-- once the rows that a row leads to are copied, so are its elements -/
theorem Match.done {w' : World} {B : Nat} {ts ns : List AT} {cs : List Pend} (h : Match ts ns cs) : ∀ bss, DoneL w' B cs bss → ∃ l', (∀ t ∈ l', t.Own w' B) ∧ AT.ptL l' = AT.ptL ts ∧ cellsL l' = cellsL ns ∧ AT.blksL l' = bss.flatten ∧ l'.length = ts.length := by
  induction h with
  | mnil => intro bss hd; cases bss with
    | nil => exact ⟨[], by simp, rfl, rfl, rfl, rfl⟩
    | cons b bss => exact hd.elim
  | mnone t _ ht ih =>
    intro bss hd
    obtain ⟨l', h1, h2, h3, h4, h5⟩ := ih bss hd
    refine ⟨l' ++ [.mk t.k t.n t.x t.s none 0 []], ?_, ?_, ?_, ?_, by simp [h5]⟩
    · intro u hu
      rcases List.mem_append.1 hu with hu | hu
      · exact h1 u hu
      · obtain rfl := List.mem_singleton.1 hu; exact AT.leaf_own w' B _ _ _ _
    · rw [AT.ptL_eq, List.map_append, ← AT.ptL_eq, h2, AT.ptL_eq, AT.ptL_eq, List.map_append]
      congr 1
      simp only [List.map_cons, List.map_nil]
      rw [AT.pt_eq t, ht]
      simp [AT.pt, AT.ptL]
    · rw [cellsL_append, cellsL_append, h3]
    · rw [AT.blksL_append, h4]; simp [AT.blksL, AT.blks]
  | msome t g cap _ ih =>
    intro bss hd
    obtain ⟨b1, b2, rfl, hd1, hd2⟩ := doneL_append hd
    obtain ⟨bs, rfl⟩ : ∃ bs, b2 = [bs] := by
      cases b2 with
      | nil => exact hd2.elim
      | cons b b2 => cases b2 with
        | nil => exact ⟨b, rfl⟩
        | cons c b2 => exact hd2.2.elim
    obtain ⟨l', h1, h2, h3, h4, h5⟩ := ih b1 hd1
    obtain ⟨l'', k1, k2, k3, k4⟩ := hd2.1
    have hl : l''.length = t.l.length := by have := congrArg List.length k2; simpa using this
    refine ⟨l' ++ [.mk t.k t.n t.x t.s (some ⟨g, 0, none⟩) cap l''], ?_, ?_, ?_, ?_, by simp [h5]⟩
    · intro u hu
      rcases List.mem_append.1 hu with hu | hu
      · exact h1 u hu
      · obtain rfl := List.mem_singleton.1 hu; exact k1.own
    · rw [AT.ptL_eq, List.map_append, ← AT.ptL_eq, h2, AT.ptL_eq, AT.ptL_eq, List.map_append]
      congr 1
      simp only [List.map_cons, List.map_nil]
      rw [AT.pt_eq t, ← AT.ptL_eq t.l]
      simp only [AT.pt]
      rw [show AT.ptL l'' = AT.ptL t.l from k2]
    · rw [cellsL_append, cellsL_append, h3, cellsL_one, cellsL_one]
      simp [AT.cells, AT.k, AT.n, AT.x, AT.s, AT.a, AT.cap, AT.l, hl]
    · rw [AT.blksL_append, h4, AT.blksL_one, k3]
      simp [AT.blks]
structure TodoAt (w0 wr : World) (N B : Nat) (root : Pend) (h cap : Nat) (Qs : List Pend) : Prop where
  row : wr.ownsRow B 26 1 (.slice (some ⟨h, 0, none⟩) Qs.length cap) Qs.length (Qs.map Pend.val)
  pend : ∀ Q ∈ Qs, PendAt wr N B Q
  nd : (h :: Qs.map Pend.g).Nodup
  nB : N ≤ B
  wand : ∀ w' bss, DoneL w' B Qs bss → bss.flatten.Nodup → (∀ k ∈ bss.flatten, k ∈ Qs.map Pend.g ∨ wr.heap.size ≤ k) → (∀ k, k < wr.heap.size → k ∉ Qs.map Pend.g → k ≠ h → w'.heap[k]? = wr.heap[k]?) → ∃ bs, DoneAt w' B root bs
  w0B : w0.heap.size ≤ B
  below : Below w0.heap.size w0 wr
/-- within a round: the first elements of Q are replaced -/
structure MidAt (w1 wi : World) (N B : Nat) (Qs : List Pend) (Q : Pend) (h : Nat) (ns : List AT) (Cs : List Pend) (h' cap' : Nat) : Prop where
  mt : Match (Q.l.take ns.length) ns Cs
  len : ns.length ≤ Q.l.length
  rowQ : wi.ownsRow B 28 5 Q.val Q.l.length (cellsL ns ++ cellsL (Q.l.drop ns.length))
  row : wi.ownsRow B 26 1 (.slice (some ⟨h', 0, none⟩) (Qs ++ Cs).length cap') (Qs ++ Cs).length ((Qs ++ Cs).map Pend.val)
  pend : ∀ R ∈ Qs ++ Cs, PendAt wi N B R
  new : ∀ C ∈ Cs, w1.heap.size ≤ C.g
  nd : (h' :: Q.g :: (Qs ++ Cs).map Pend.g).Nodup
  hh : h' = h ∨ w1.heap.size ≤ h'
  only : Only2 Q.g h w1 wi
/-- the round's end -/
theorem TodoAt.next {w0 w1 wi : World} {N B : Nat} {root : Pend} {h cap : Nat} {Qs : List Pend} {Q : Pend} {ns : List AT} {Cs : List Pend} {h' cap' : Nat} (ht : TodoAt w0 w1 N B root h cap (Qs ++ [Q])) (hm : MidAt w1 wi N B Qs Q h ns Cs h' cap') (hl : ns.length = Q.l.length) :
    TodoAt w0 wi N B root h' cap' (Qs ++ Cs) where
  row := hm.row
  pend := hm.pend
  nd := by
    have := hm.nd
    rw [List.nodup_cons, List.nodup_cons] at this
    rw [List.nodup_cons]
    exact ⟨fun hx => this.1 (List.mem_cons_of_mem _ hx), this.2.2⟩
  nB := ht.nB
  w0B := ht.w0B
  below := by
    have h1 := (ht.pend Q (by simp)).lt
    have h2 := (ht.row.lt h rfl).1
    have h3 := ht.w0B
    exact ht.below.trans (hm.only.below (by omega) (by omega) ht.below.size)
  wand := by
    intro w' bss hd hnd hin hfr
    obtain ⟨b1, b2, rfl, hd1, hd2⟩ := doneL_append hd
    have hmt := hm.mt
    rw [hl, List.take_of_length_le (Nat.le_refl _)] at hmt
    obtain ⟨l', h1, h2, h3, h4, h5⟩ := hmt.done b2 hd2
    have hQ := ht.pend Q (by simp)
    have hQlt := hQ.lt
    have hsz := hm.only.size
    have hndm := hm.nd
    rw [List.nodup_cons, List.nodup_cons] at hndm
    have hgQ : w'.heap[Q.g]? = wi.heap[Q.g]? := hfr Q.g (by omega) hndm.2.1 (fun e => hndm.1 (by rw [e]; simp))
    have hrow : w'.ownsRow B 28 5 (.slice (some ⟨Q.g, 0, none⟩) l'.length Q.cap) l'.length (cellsL l') := by
      have := own_heap hm.rowQ (w' := w') (fun k hk => by simp [Value.ownBlock] at hk; rw [← hk]; exact hgQ)
      rw [hl, List.drop_eq_nil_of_le (Nat.le_refl _), cellsL_nil, List.append_nil] at this
      rw [h5, h3]; exact this
    rw [List.flatten_append, List.nodup_append] at hnd
    have hgn : Q.g ∉ b2.flatten := fun hx => by
      rcases hin Q.g (by rw [List.flatten_append]; simp [hx]) with hx | hx
      · exact hndm.2.1 hx
      · omega
    have hgn1 : Q.g ∉ b1.flatten := fun hx => by
      rcases hin Q.g (by rw [List.flatten_append]; simp [hx]) with hx | hx
      · exact hndm.2.1 hx
      · omega
    have hdone : DoneAt w' B Q (Q.g :: b2.flatten) := ⟨l', ⟨hrow, h1⟩, h2, by rw [h4], by rw [List.nodup_cons]; exact ⟨hgn, hnd.2.1⟩⟩
    refine ht.wand w' (b1 ++ [Q.g :: b2.flatten]) (doneL_snoc hd1 hdone) ?_ ?_ ?_
    · rw [List.flatten_append, List.nodup_append]
      refine ⟨hnd.1, by simp only [List.flatten_cons, List.flatten_nil, List.append_nil, List.nodup_cons]; exact ⟨hgn, hnd.2.1⟩, fun x hx y hy e => ?_⟩
      simp only [List.flatten_cons, List.flatten_nil, List.append_nil, List.mem_cons] at hy
      subst e
      rcases hy with rfl | hy
      · exact hgn1 hx
      · exact hnd.2.2 x hx x hy rfl
    · intro k hk
      have hcase : k = Q.g ∨ k ∈ (b1 ++ b2).flatten := by
        simp only [List.flatten_append, List.mem_append, List.flatten_cons, List.flatten_nil, List.append_nil, List.mem_cons] at hk ⊢
        rcases hk with hk | rfl | hk
        · exact .inr (.inl hk)
        · exact .inl rfl
        · exact .inr (.inr hk)
      rcases hcase with rfl | hk
      · left; simp
      · rcases hin k hk with hk | hk
        · rw [List.map_append, List.mem_append] at hk
          rcases hk with hk | hk
          · left; rw [List.map_append, List.mem_append]; exact .inl hk
          · right
            obtain ⟨C, hC, rfl⟩ := List.mem_map.1 hk
            exact hm.new C hC
        · right; omega
    · intro k hk hkn hkh
      have hkQ : k ≠ Q.g := fun e => hkn (by rw [e]; simp)
      have hkQs : k ∉ Qs.map Pend.g := fun e => hkn (by rw [List.map_append, List.mem_append]; exact .inl e)
      rw [hfr k (by omega) (fun hx => by
        rw [List.map_append, List.mem_append] at hx
        rcases hx with hx | hx
        · exact hkQs hx
        · obtain ⟨C, hC, rfl⟩ := List.mem_map.1 hx
          have := hm.new C hC
          omega) (fun e => by have := hm.hh; omega)]
      exact hm.only.block k hk hkQ hkh
end Go.Proofs.Ytilgncebhgplaaa
