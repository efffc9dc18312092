import Derived.Test.YtnikcgmbkmbloaaG7
import Derived.Test.YtnikcgmbkmbloaaG5
import Derived.Test.YtnikcgmbkmbloaaG0
import Derived.Lib.Hide
import Derived.ProofKit
import Derived.Laws.Cover1
import Derived.Test.YtnikcgmbkmbloaaG1
import Derived.Outline
import Derived.StillTailTactics
import Derived.Test.YtnikcgmbkmbloaaRows
import Derived.Laws.StructEq
import Derived.WalkKit
import Derived.Test.YtnikcgmbkmbloaaG4
import Derived.IntWalk
import Derived.Laws.Shifts
/- l6Copy and ListVal of the model. -/
namespace Go.Proofs.Ytnikcgmbkmbloaa
open Go.RowKit
theorem zbox5 (w : World) {t : TypeId} {wr : World} (hb : Below (w.alloc (.cells #[.int .i64 0, .int .i64 0, .int .i64 0, .string ⟨#[]⟩, .slice none 0 0] t)).heap.size (w.alloc (.cells #[.int .i64 0, .int .i64 0, .int .i64 0, .string ⟨#[]⟩, .slice none 0 0] t)) wr) :
    wr.cell? ⟨w.heap.size, 0, none⟩ = some (.int .i64 0) ∧ wr.cell? ⟨w.heap.size, 1, none⟩ = some (.int .i64 0) ∧ wr.cell? ⟨w.heap.size, 2, none⟩ = some (.int .i64 0) ∧ wr.cell? ⟨w.heap.size, 3, none⟩ = some (.string ⟨#[]⟩) ∧ wr.cell? ⟨w.heap.size, 4, none⟩ = some (.slice none 0 0) ∧ (∀ o, wr.frozen? ⟨w.heap.size, o, none⟩ = false) := by
  refine ⟨?_, ?_, ?_, ?_, ?_, fun o => (hb.frozen (by simp)).trans (by simp [go_sem])⟩ <;> exact (hb.cell (by simp)).trans (by simp [go_sem])
/-- the head of l6Copy's loop -/
structure CopyAt (w wr : World) (k n x : Int) (s : ByteArray) (a : Option Addr) (len cap : Nat) (a' : Option Addr) (cap' : Nat) (lr : List AT) : Prop where
  v4 : wr.cell? ⟨w.heap.size, 4, none⟩ = some (.slice a len cap)
  r0 : wr.cell? ⟨w.heap.size + 1, 0, none⟩ = some (.int .i64 0)
  r1 : wr.cell? ⟨w.heap.size + 1, 1, none⟩ = some (.int .i64 0)
  r2 : wr.cell? ⟨w.heap.size + 1, 2, none⟩ = some (.int .i64 0)
  r3 : wr.cell? ⟨w.heap.size + 1, 3, none⟩ = some (.string ⟨#[]⟩)
  r4 : wr.cell? ⟨w.heap.size + 1, 4, none⟩ = some (.slice none 0 0)
  rf : ∀ o, wr.frozen? ⟨w.heap.size + 1, o, none⟩ = false
  o0 : wr.cell? ⟨w.heap.size + 2, 0, none⟩ = some (.int .i64 k)
  o1 : wr.cell? ⟨w.heap.size + 2, 1, none⟩ = some (.int .i64 n)
  o2 : wr.cell? ⟨w.heap.size + 2, 2, none⟩ = some (.int .i64 x)
  o3 : wr.cell? ⟨w.heap.size + 2, 3, none⟩ = some (.string s)
  o4 : wr.cell? ⟨w.heap.size + 2, 4, none⟩ = some (.slice a' lr.length cap')
  of : ∀ o, wr.frozen? ⟨w.heap.size + 2, o, none⟩ = false
  own : OwnL wr (w.heap.size + 3) a' cap' lr
  nd : ((a'.map (·.block)).toList ++ AT.blksL lr).Nodup
  below : Below w.heap.size w wr
  sz : w.heap.size + 3 ≤ wr.heap.size
theorem CopyAt.keep {w wr w' : World} {k n x : Int} {s : ByteArray} {a : Option Addr} {len cap : Nat} {a' : Option Addr} {cap' : Nat} {lr : List AT} (h : CopyAt w wr k n x s a len cap a' cap' lr) (hb : Below wr.heap.size wr w') : CopyAt w w' k n x s a len cap a' cap' lr where
  v4 := keep_below hb h.v4
  r0 := keep_below hb h.r0
  r1 := keep_below hb h.r1
  r2 := keep_below hb h.r2
  r3 := keep_below hb h.r3
  r4 := keep_below hb h.r4
  rf o := by have := h.sz; rw [frozen_blk' (hb.block _ (by omega))]; exact h.rf o
  o0 := keep_below hb h.o0
  o1 := keep_below hb h.o1
  o2 := keep_below hb h.o2
  o3 := keep_below hb h.o3
  o4 := keep_below hb h.o4
  of o := by have := h.sz; rw [frozen_blk' (hb.block _ (by omega))]; exact h.of o
  own := h.own.blw hb
  nd := h.nd
  below := h.below.trans (hb.mono h.below.size)
  sz := by have := h.sz; have := hb.size; omega
/-- an append to the row, and the field set anew -/
theorem CopyAt.push {w W w3 : World} {k n x : Int} {s : ByteArray} {a : Option Addr} {len cap : Nat} {a' : Option Addr} {cap' gg cap2 : Nat} {lr : List AT} {T : AT} (h : CopyAt w W k n x s a len cap a' cap' lr) (hT : T.Own W (w.heap.size + 3)) (hTn : T.blks.Nodup) (hdis : ∀ k ∈ T.blks, k ∉ (a'.map (·.block)).toList ++ AT.blksL lr)
    (hown : w3.ownsRow (w.heap.size + 3) 26 5 (.slice (some ⟨gg, 0, none⟩) (lr.length + 1) cap2) (lr.length + 1) (cellsL lr ++ T.cells)) (hgrow : W.grownBy w3 (Value.slice a' lr.length cap').ownBlock) (hat : (Value.slice a' lr.length cap').ownBlock = some gg ∨ gg = W.heap.size) :
    CopyAt w (w3.setCell ⟨w.heap.size + 2, 4, none⟩ (.slice (some ⟨gg, 0, none⟩) (lr.length + 1) cap2)) k n x s a len cap (some ⟨gg, 0, none⟩) cap2 (lr ++ [T]) ∧ w3.frozen? ⟨w.heap.size + 2, 4, none⟩ = false ∧ w3.cell? ⟨w.heap.size + 2, 4, none⟩ = some (.slice a' lr.length cap') := by
  have hz := h.sz
  obtain ⟨hnew, hnd3⟩ := row_push h.own h.nd hT hTn hdis hown hgrow hat
  have hblk : ∀ b, b < w.heap.size + 3 → w3.heap[b]? = W.heap[b]? := fun b hb => hgrow.block b (by omega) (fun e => by have := h.own.row.lt b e.symm; omega)
  have hc : ∀ b o v, b < w.heap.size + 3 → W.cell? ⟨b, o, none⟩ = some v → w3.cell? ⟨b, o, none⟩ = some v := fun b o v hb hv => by rw [World.cell?_of_block (hblk b hb)]; exact hv
  have hf : ∀ b o, b < w.heap.size + 3 → w3.frozen? ⟨b, o, none⟩ = W.frozen? ⟨b, o, none⟩ := fun b o hb => frozen_blk' (hblk b hb)
  have hset : ∀ b o v, (b ≠ w.heap.size + 2 ∨ o ≠ 4) → w3.cell? ⟨b, o, none⟩ = some v → (w3.setCell ⟨w.heap.size + 2, 4, none⟩ (.slice (some ⟨gg, 0, none⟩) (lr.length + 1) cap2)).cell? ⟨b, o, none⟩ = some v := fun b o v hbo hv => by
    rw [World.cell?_setCell_other _ _ _ _ (fun e => by injection e with e1 e2; omega)]; exact hv
  have h4 := hc _ _ _ (by omega) h.o4
  have hgg : w.heap.size + 3 ≤ gg := (hnew.row.lt gg rfl).1
  have hl : (lr ++ [T]).length = lr.length + 1 := by simp
  refine ⟨{
    v4 := hset _ _ _ (by omega) (hc _ _ _ (by omega) h.v4)
    r0 := hset _ _ _ (by omega) (hc _ _ _ (by omega) h.r0)
    r1 := hset _ _ _ (by omega) (hc _ _ _ (by omega) h.r1)
    r2 := hset _ _ _ (by omega) (hc _ _ _ (by omega) h.r2)
    r3 := hset _ _ _ (by omega) (hc _ _ _ (by omega) h.r3)
    r4 := hset _ _ _ (by omega) (hc _ _ _ (by omega) h.r4)
    rf := fun o => by have := hf (w.heap.size + 1) o (by omega); rw [h.rf o] at this; simp [go_sem, this]
    o0 := hset _ _ _ (by omega) (hc _ _ _ (by omega) h.o0)
    o1 := hset _ _ _ (by omega) (hc _ _ _ (by omega) h.o1)
    o2 := hset _ _ _ (by omega) (hc _ _ _ (by omega) h.o2)
    o3 := hset _ _ _ (by omega) (hc _ _ _ (by omega) h.o3)
    o4 := by rw [hl]; exact World.cell?_setCell_same _ _ _ h4
    of := fun o => by have := hf (w.heap.size + 2) o (by omega); rw [h.of o] at this; simp [go_sem, this]
    own := (AT.Own.setg' (T := .mk 0 0 0 [] (some ⟨gg, 0, none⟩) cap2 (lr ++ [T])) hnew.own (fun hm => by have := (hnew.lt _ hm).1; omega)).l
    nd := hnd3
    below := bset (h.below.trans (below_push hgrow (fun k hk => by have := (h.own.row.lt k hk).1; omega) (Below.refl _ _) h.below.size)) (by omega)
    sz := by have := hgrow.size; simp [World.setCell]; omega }, ?_, h4⟩
  rw [hf _ _ (by omega)]; exact h.of 4
theorem CopyAt.start (w : World) (k n x : Int) (s : ByteArray) (a : Option Addr) (len cap : Nat) :
    CopyAt w ((((w.alloc (.cells #[.int .i64 k, .int .i64 n, .int .i64 x, .string s, .slice a len cap] 26)).alloc (.cells #[.int .i64 0, .int .i64 0, .int .i64 0, .string ⟨#[]⟩, .slice none 0 0] 26)).alloc (.cells #[.int .i64 k, .int .i64 n, .int .i64 x, .string s, .slice (some ⟨w.heap.size + 3, 0, none⟩) 0 0] 26)).alloc (.cells #[] 26)) k n x s a len cap (some ⟨w.heap.size + 3, 0, none⟩) 0 [] where
  v4 := by simp [go_sem]
  r0 := by simp [go_sem]
  r1 := by simp [go_sem]
  r2 := by simp [go_sem]
  r3 := by simp [go_sem]
  r4 := by simp [go_sem]
  rf o := by simp [go_sem]
  o0 := by simp [go_sem]
  o1 := by simp [go_sem]
  o2 := by simp [go_sem]
  o3 := by simp [go_sem]
  o4 := by simp [go_sem]
  of o := by simp [go_sem]
  own := by
    have := emptyRow (((w.alloc (.cells #[.int .i64 k, .int .i64 n, .int .i64 x, .string s, .slice a len cap] 26)).alloc (.cells #[.int .i64 0, .int .i64 0, .int .i64 0, .string ⟨#[]⟩, .slice none 0 0] 26)).alloc (.cells #[.int .i64 k, .int .i64 n, .int .i64 x, .string s, .slice (some ⟨w.heap.size + 3, 0, none⟩) 0 0] 26)) (w.heap.size + 3) (by simp)
    simpa using this
  nd := by simp [AT.blksL]
  below := (boxes3 w _ _ _).alloc (by simp; omega) _
  sz := by simp
set_option maxHeartbeats 1000000 in
theorem l6Copy_of (k n x : Int) (s : List UInt8) (a : Option Addr) (cap : Nat) (l : List AT) (ih : ∀ t ∈ l, ∀ (w : World) (N : Nat), t.In w N → N ≤ w.heap.size → Calls Try.prog 56 #[t.val] w (FreshV w t.pt)) (hl : l.length ≤ 1048576) (w : World) (N : Nat) (h : Lv w N a cap l) (hN : N ≤ w.heap.size) :
    Calls Try.prog 56 #[(AT.mk k n x s a cap l).val] w (FreshV w (AT.mk k n x s a cap l).pt) := by
  obtain ⟨i0, hi, hz0, hz1, hz2⟩ := info_parts valInfo
  have H := Lib.hid h
  have IH := Lib.hid ih
  clear h ih
  have HST := Lib.hid (CopyAt.start w k n x ⟨s.toArray⟩ a l.length cap)
  show Calls Try.prog 56 #[.agg #[.int .i64 k, .int .i64 n, .int .i64 x, .string ⟨s.toArray⟩, .slice a l.length cap]] w _
  go_enter Try.func56, Try.ntmps56
  go_wp2
  go_loopw [4] (fun i wr => ∃ (lr : List AT) (a' : Option Addr) (cap' : Nat), i = .int .i64 lr.length ∧ lr.length ≤ l.length ∧ AT.ptL lr = (AT.ptL l).take lr.length ∧ CopyAt w wr k n x ⟨s.toArray⟩ a l.length cap a' cap' lr) (fun i _ => l.length - (intOf i).toNat)
  case atStart => exact ⟨[], _, _, rfl, Nat.zero_le _, by simp [AT.ptL], HST.out⟩
  case round =>
    obtain ⟨lr, a', cap', rfl, hlr, hpt, hca⟩ := hrel
    have HCA := Lib.hid hca
    have HP := Lib.hid hpt
    have hv4 := hca.v4
    have hsz := hca.sz
    clear hpt
    by_cases hlt : lr.length < l.length
    · obtain ⟨b, o, rfl, hbN, hC⟩ := H.out.cell lr.length hlt
      have hC := hC.keep (hca.below.block b (by omega))
      have hc := fun w' hw => IH.out l[lr.length] (List.getElem_mem hlt) w' N ((H.out.sub _ (List.getElem_mem hlt)).blw hw hN)
      have HPt : Hid ((AT.ptL l).take (lr.length + 1) = (AT.ptL l).take lr.length ++ [(l[lr.length]).pt]) := Lib.hid (by
        rw [List.take_succ_eq_append_getElem (by simpa using hlt)]; simp [AT.ptL_eq])
      obtain ⟨T, hT⟩ : ∃ T, T = l[lr.length] := ⟨_, rfl⟩
      rw [← hT] at hC hc HPt
      clear hT
      obtain ⟨c0, c1, c2, c3, c4⟩ := hC
      have HC := Lib.hid hc
      clear hc hca
      go_wp2_with fail
      refine (HC.out wr HCA.out.below (by have := HCA.out.below.size; omega)).mono ?_
      rintro e w2 ⟨T', hT', rfl, hOT, hNT, hb2⟩
      have hCA2 := HCA.out.keep hb2
      have hdis : ∀ k ∈ T'.blks, k ∉ (a'.map (·.block)).toList ++ AT.blksL lr := fun k hk hk2 => by
        have h1 := (hOT.lt k hk).1
        have h2 := (HCA.out.own.lt k hk2).2
        omega
      have HX := Lib.hid hT'
      have HOT := Lib.hid (hOT.base (B' := w.heap.size + 3) HCA.out.sz)
      have HNT := Lib.hid hNT
      have HDI := Lib.hid hdis
      have HCA3 := Lib.hid (hCA2.keep (vbox w2 (.cells #[.int .i64 T'.k, .int .i64 T'.n, .int .i64 T'.x, .string ⟨T'.s.toArray⟩, .slice T'.a T'.l.length T'.cap] 26)))
      have HCA4 := Lib.hid ((hCA2.keep (vbox w2 (.cells #[.int .i64 T'.k, .int .i64 T'.n, .int .i64 T'.x, .string ⟨T'.s.toArray⟩, .slice T'.a T'.l.length T'.cap] 26))).keep (vbox _ (.cells #[.int .i64 T'.k, .int .i64 T'.n, .int .i64 T'.x, .string ⟨T'.s.toArray⟩, .slice T'.a T'.l.length T'.cap] 26)))
      have ho4 := HCA3.out.o4
      have hsz2 : w.heap.size + 3 ≤ w2.heap.size := hCA2.sz
      clear hT' hOT hNT hb2 hCA2 hdis hv4 c0 c1 c2 c3 c4
      go_wp2_with (refine wpList_append_lies _ (by rfl) _ _ _ (by rfl) (w.heap.size + 3) 26 i0 _ 5 64 Try.underlying24 hi hz0 hz1 hz2 rfl (by omega) _ lr.length _ (by rfl) HCA4.out.own.row ⟨w2.heap.size + 1, 0, none⟩ 1 1 T'.cells (by rfl) (by rfl) ?news (cells_one T') (by omega) (by unfold maxLen; omega) (by omega) (by simp; omega) (w2.heap.size + 2) (by simp) ?_)
      case news =>
        have := news_of_cells (w2.alloc (.cells #[.int .i64 T'.k, .int .i64 T'.n, .int .i64 T'.x, .string ⟨T'.s.toArray⟩, .slice T'.a T'.l.length T'.cap] 26)) T'
        simpa using this
      intro gg cap2 w3 hown3 hgrow hat hlt3
      have hbW : Below w2.heap.size w2 ((w2.alloc (.cells #[.int .i64 T'.k, .int .i64 T'.n, .int .i64 T'.x, .string ⟨T'.s.toArray⟩, .slice T'.a T'.l.length T'.cap] 26)).alloc (.cells #[.int .i64 T'.k, .int .i64 T'.n, .int .i64 T'.x, .string ⟨T'.s.toArray⟩, .slice T'.a T'.l.length T'.cap] 26)) := boxes2 w2 _ _
      obtain ⟨hnew, hf4, hc4⟩ := HCA4.out.push (HOT.out.blw hbW) HNT.out HDI.out hown3 hgrow (by simpa using hat)
      have HNEW := Lib.hid hnew
      have HPT : Hid (AT.ptL (lr ++ [T']) = (AT.ptL l).take (lr.length + 1)) := Lib.hid (by
        rw [AT.ptL_eq, List.map_append, ← AT.ptL_eq, HP.out, List.map_singleton, HX.out, HPt.out])
      clear hown3 hgrow hat hlt3 hbW hnew ho4
      go_wp2
      go_roundw
      case rel => exact ⟨lr ++ [T'], some ⟨gg, 0, none⟩, cap2, by rw [List.length_append]; go_num, by rw [List.length_append, List.length_singleton]; omega, by rw [List.length_append, List.length_singleton]; exact HPT.out, HNEW.out⟩
      case measure => simp [intOf]; omega
    · obtain heq : lr.length = l.length := by omega
      have q0 := hca.o0
      have q1 := hca.o1
      have q2 := hca.o2
      have q3 := hca.o3
      have q4 := hca.o4
      have r0 := hca.r0
      have r1 := hca.r1
      have r2 := hca.r2
      have r3 := hca.r3
      have r4 := hca.r4
      have rf := hca.rf
      have HE := Lib.hid heq
      clear hca heq
      go_wp2
      refine bodyPost_ret (v := .agg #[.int .i64 k, .int .i64 n, .int .i64 x, .string ⟨s.toArray⟩, .slice a' lr.length cap']) (by simp [results, Try.results56, go_sem, r0, r1, r2, r3, r4]) rfl ⟨.mk k n x s a' cap' lr, ?_, rfl, ?_, ?_, ?_⟩
      · simp only [AT.pt]
        rw [HP.out, List.take_of_length_le (by rw [AT.ptL_length]; have := HE.out; omega)]
      · refine AT.Own.base (B := w.heap.size + 3) ?_ (by omega)
        exact AT.Own.set (AT.Own.set (AT.Own.set (AT.Own.set (AT.Own.set HCA.out.own.own (by omega)) (by omega)) (by omega)) (by omega)) (by omega)
      · exact HCA.out.nd
      · exact bset (bset (bset (bset (bset HCA.out.below (by omega)) (by omega)) (by omega)) (by omega)) (by omega)
theorem l6Copy_any (T : AT) : T.pt.sz ≤ 1048576 → ∀ (w : World) (N : Nat), T.In w N → N ≤ w.heap.size → Calls Try.prog 56 #[T.val] w (FreshV w T.pt) := by
  induction T using AT.ind with
  | h k n x s a cap l ih =>
    intro hsz w N hin hN
    have e1 : (AT.mk k n x s a cap l).pt.sz = s.length + (l.length + PT.szL (AT.ptL l)) := by simp [AT.pt, PT.sz]
    have hss : ∀ t ∈ l, t.pt.sz ≤ 1048576 := fun t ht => by have := szL_ge ht; omega
    exact l6Copy_of k n x s a cap l (fun t ht => ih t ht (hss t ht)) (by omega) w N hin.lv hN
end Go.Proofs.Ytnikcgmbkmbloaa
/- The library's cmp: Compare at int and string, Or at int. -/
namespace Go.Proofs.Ytnikcgmbkmbloaa
open Go.RowKit
set_option maxRecDepth 100000
theorem nan_int (x : Int) (w : World) : Calls Try.prog 131 #[.int .i64 x] w fun e w' => e = .returned (.bool false) ∧ w = w' := by
  go_enter Try.func131, Try.ntmps131
  go_wp2
  go_ret
  exact ⟨rfl, rfl⟩
theorem compare_int (x y : Int) (w : World) : Calls Try.prog 98 #[.int .i64 x, .int .i64 y] w fun e w' => e = .returned (.int .i64 (cmpI x y)) ∧ w = w' := by
  have hn := fun z => nan_int z w
  rcases Int.lt_trichotomy x y with h | h | h
  · have hv : cmpI x y = -1 := if_pos h
    rw [hv]
    clear hv
    go_enter Try.func98, Try.ntmps98
    go_wp2_with (go_at_call 131; refine (hn _).mono ?_; rintro e w' ⟨rfl, rfl⟩)
    go_ret
    exact ⟨rfl, rfl⟩
  · subst h
    have hv : cmpI x x = 0 := cmpI_zero.2 rfl
    rw [hv]
    clear hv
    go_enter Try.func98, Try.ntmps98
    go_wp2_with (go_at_call 131; refine (hn _).mono ?_; rintro e w' ⟨rfl, rfl⟩)
    go_ret
    exact ⟨rfl, rfl⟩
  · have hv : cmpI x y = 1 := by unfold cmpI; rw [if_neg (by omega), if_pos h]
    rw [hv]
    have h2 : ¬ x < y := by omega
    clear hv
    go_enter Try.func98, Try.ntmps98
    go_wp2_with (go_at_call 131; refine (hn _).mono ?_; rintro e w' ⟨rfl, rfl⟩)
    go_ret
    exact ⟨rfl, rfl⟩
theorem nan_str (s : ByteArray) (w : World) : Calls Try.prog 162 #[.string s] w fun e w' => e = .returned (.bool false) ∧ w = w' := by
  have h : (s.toList == s.toList) = true := by simp
  have h2 : (s.toList != s.toList) = false := by simp
  go_enter Try.func162, Try.ntmps162
  go_wp2
  go_ret
  exact ⟨by simp, rfl⟩
theorem compare_str (s t : List UInt8) (w : World) : Calls Try.prog 130 #[.string ⟨s.toArray⟩, .string ⟨t.toArray⟩] w fun e w' => e = .returned (.int .i64 (cmpS s t)) ∧ w = w' := by
  have hn := fun z => nan_str z w
  cases h : Op.bytesLess s t
  · by_cases he : s = t
    · subst he
      have hv : cmpS s s = 0 := cmpS_zero.2 rfl
      rw [hv]
      have heq : (s == s) = true := by simp
      clear hv
      go_enter Try.func130, Try.ntmps130
      go_wp2_with (go_at_call 162; refine (hn _).mono ?_; rintro e w' ⟨rfl, rfl⟩)
      go_ret
      exact ⟨rfl, rfl⟩
    · have hv : cmpS s t = 1 := by unfold cmpS; rw [h]; simp [he]
      rw [hv]
      have heq : (s == t) = false := by simpa using he
      clear hv he
      go_enter Try.func130, Try.ntmps130
      go_wp2_with (go_at_call 162; refine (hn _).mono ?_; rintro e w' ⟨rfl, rfl⟩)
      go_ret
      exact ⟨rfl, rfl⟩
  · have hv : cmpS s t = -1 := by unfold cmpS; rw [h]; rfl
    rw [hv]
    clear hv
    go_enter Try.func130, Try.ntmps130
    go_wp2_with (go_at_call 162; refine (hn _).mono ?_; rintro e w' ⟨rfl, rfl⟩)
    go_ret
    exact ⟨rfl, rfl⟩
theorem or_int (a b : Int) (w : World) (g cap : Nat) (c0 : w.cell? ⟨g, 0, none⟩ = some (.int .i64 a)) (c1 : w.cell? ⟨g, 1, none⟩ = some (.int .i64 b)) : Calls Try.prog 99 #[.slice (some ⟨g, 0, none⟩) 2 cap] w fun e w' => e = .returned (.int .i64 (orI a b)) ∧ w = w' := by
  by_cases ha : a = 0
  · subst ha
    rw [orI_zero]
    by_cases hb : b = 0
    · subst hb
      go_enter Try.func99, Try.ntmps99
      go_wp2
      go_loopw [8] (fun i wr => wr = w ∧ (i = .int .i64 0 ∨ i = .int .i64 1 ∨ i = .int .i64 2)) (fun i _ => 2 - (intOf i).toNat)
      case atStart => exact ⟨rfl, .inl rfl⟩
      case round =>
        obtain ⟨rfl, rfl | rfl | rfl⟩ := hrel
        · go_wp2
          go_roundw
          case rel => exact ⟨trivial, .inr (.inl rfl)⟩
          case measure => simp [intOf]
        · go_wp2
          go_roundw
          case rel => exact ⟨trivial, .inr (.inr rfl)⟩
          case measure => simp [intOf]
        · go_wp2
          go_ret
          exact ⟨rfl, rfl⟩
    · go_enter Try.func99, Try.ntmps99
      go_wp2
      go_loopw [8] (fun i wr => wr = w ∧ (i = .int .i64 0 ∨ i = .int .i64 1)) (fun i _ => 2 - (intOf i).toNat)
      case atStart => exact ⟨rfl, .inl rfl⟩
      case round =>
        obtain ⟨rfl, rfl | rfl⟩ := hrel
        · go_wp2
          go_roundw
          case rel => exact ⟨trivial, .inr rfl⟩
          case measure => simp [intOf]
        · go_wp2
          go_ret
          exact ⟨rfl, rfl⟩
  · rw [orI_ne ha]
    go_enter Try.func99, Try.ntmps99
    go_wp2
    go_loopw [8] (fun i wr => wr = w ∧ i = .int .i64 0) (fun i _ => 2 - (intOf i).toNat)
    case atStart => exact ⟨rfl, rfl⟩
    case round =>
      obtain ⟨rfl, rfl⟩ := hrel
      go_wp2
      go_ret
      exact ⟨rfl, rfl⟩
end Go.Proofs.Ytnikcgmbkmbloaa
/- SameVal of the model, and sameVal of the laws. -/
namespace Go.Proofs.Ytnikcgmbkmbloaa
open Go.RowKit
theorem two' (w : World) (a b : Obj) : Below w.heap.size w ((w.alloc a).alloc b) := ((Below.refl w.heap.size w).alloc (Nat.le_refl _) a).alloc (by simp) b
theorem box55 (w : World) (k n x k2 n2 x2 : Int) (s s2 : ByteArray) (a a2 : Option Addr) (len len2 cap cap2 : Nat) (t : TypeId) {wr : World}
    (hb : Below (w.heap.size + 1 + 1) ((w.alloc (.cells #[.int .i64 k, .int .i64 n, .int .i64 x, .string s, .slice a len cap] t)).alloc (.cells #[.int .i64 k2, .int .i64 n2, .int .i64 x2, .string s2, .slice a2 len2 cap2] t)) wr) :
    wr.cell? ⟨w.heap.size, 4, none⟩ = some (.slice a len cap) ∧ wr.cell? ⟨w.heap.size + 1, 4, none⟩ = some (.slice a2 len2 cap2) := by
  refine ⟨?_, ?_⟩ <;> exact (hb.cell (by simp; try omega)).trans (by simp [go_sem])
theorem hd_cases {k k2 n n2 x x2 : Int} {s s2 : List UInt8} {a b : Nat} (h : ¬ (k = k2 ∧ n = n2 ∧ x = x2 ∧ s = s2 ∧ a = b)) :
    ¬ k = k2 ∨ (k = k2 ∧ ¬ n = n2) ∨ (k = k2 ∧ n = n2 ∧ ¬ x = x2) ∨ (k = k2 ∧ n = n2 ∧ x = x2 ∧ (s == s2) = false ∧ (s != s2) = true) ∨ (k = k2 ∧ n = n2 ∧ x = x2 ∧ s = s2 ∧ ¬ (a : Int) = b ∧ ((a : Int) == b) = false) := by
  by_cases h0 : k = k2
  · by_cases h1 : n = n2
    · by_cases h2 : x = x2
      · by_cases h3 : s = s2
        · exact .inr (.inr (.inr (.inr ⟨h0, h1, h2, h3, by intro e; exact h ⟨h0, h1, h2, h3, by omega⟩, by rw [beq_eq_false_iff_ne]; intro e; exact h ⟨h0, h1, h2, h3, by omega⟩⟩)))
        · exact .inr (.inr (.inr (.inl ⟨h0, h1, h2, by simpa using h3, by simpa using h3⟩)))
      · exact .inr (.inr (.inl ⟨h0, h1, h2⟩))
    · exact .inr (.inl ⟨h0, h1⟩)
  · exact .inl h0
set_option maxHeartbeats 4000000 in
set_option maxRecDepth 100000 in
theorem same_spec (T : AT) : T.pt.Wf → ∀ (U : AT) (w : World) (N : Nat), U.pt.Wf → T.In w N → U.In w N → N ≤ w.heap.size → Calls Try.prog 55 #[T.val, U.val] w fun e w' => e = .returned (.bool (T.pt.same U.pt)) ∧ Below w.heap.size w w' := by
  induction T using AT.ind with
  | h k n x s a cap l ih =>
    intro hwf U w N hwf2 hin hin2 hN
    obtain ⟨k2, n2, x2, s2, b, cap2, m⟩ := U
    have hll : l.length ≤ 9223372036854775807 := by
      cases hwf with
      | mk hk hn hx hs hl sub => rw [AT.ptL_length] at hl; exact hl
    have hml : m.length ≤ 9223372036854775807 := by
      cases hwf2 with
      | mk hk hn hx hs hl sub => rw [AT.ptL_length] at hl; exact hl
    have hc := fun (t : AT) (ht : t ∈ l) (u : AT) (hu : u ∈ m) (w1 : World) (hb : Below w.heap.size w w1) => ih t ht (hwf.sub' t.pt (by rw [AT.ptL_eq]; exact List.mem_map_of_mem ht)) u w1 N (hwf2.sub' u.pt (by rw [AT.ptL_eq]; exact List.mem_map_of_mem hu)) ((hin.lv.sub t ht).blw hb hN) ((hin2.lv.sub u hu).blw hb hN) (Nat.le_trans hN hb.size)
    have H := Lib.hid hin.lv
    have H2 := Lib.hid hin2.lv
    have HC := Lib.hid hc
    have hsame : ∀ B, (AT.mk k n x s a cap l).pt.same (AT.mk k2 n2 x2 s2 b cap2 m).pt = B ↔ ((k == k2 && n == n2 && x == x2 && s == s2 && l.length == m.length) && PT.sameL (AT.ptL l) (AT.ptL m)) = B := fun B => by rw [ptsame_eq]; rfl
    have HS := Lib.hid hsame
    clear hc ih hin hin2 hwf hwf2 hsame
    show Calls Try.prog 55 #[.agg #[.int .i64 k, .int .i64 n, .int .i64 x, .string ⟨s.toArray⟩, .slice a l.length cap], .agg #[.int .i64 k2, .int .i64 n2, .int .i64 x2, .string ⟨s2.toArray⟩, .slice b m.length cap2]] w _
    by_cases hf : k = k2 ∧ n = n2 ∧ x = x2 ∧ s = s2 ∧ l.length = m.length
    · obtain ⟨rfl, rfl, rfl, rfl, hlen⟩ := hf
      have HS2 : Hid (∀ B, PT.sameL (AT.ptL l) (AT.ptL m) = B → (AT.mk k n x s a cap l).pt.same (AT.mk k n x s b cap2 m).pt = B) := Lib.hid (fun B h => (HS.out B).2 (by simp [hlen, h]))
      have HL := Lib.hid hlen
      rw [← hlen]
      clear hlen HS
      go_enter Try.func55, Try.ntmps55
      go_wp2
      go_loopw [5] (fun i wr => ∃ i' : Nat, i = .int .i64 i' ∧ i' ≤ l.length ∧ PT.sameL ((AT.ptL l).take i') ((AT.ptL m).take i') = true ∧ Below (w.heap.size + 1 + 1) ((w.alloc (.cells #[.int .i64 k, .int .i64 n, .int .i64 x, .string ⟨s.toArray⟩, .slice a l.length cap] 26)).alloc (.cells #[.int .i64 k, .int .i64 n, .int .i64 x, .string ⟨s.toArray⟩, .slice b l.length cap2] 26)) wr) (fun i _ => l.length - (intOf i).toNat)
      case atStart => exact ⟨0, rfl, Nat.zero_le _, by simp [PT.sameL], Below.refl _ _⟩
      case round =>
        obtain ⟨i', rfl, hi', hsm, hb⟩ := hrel
        obtain ⟨f4, g4⟩ := box55 w k n x k n x _ _ a b _ _ cap cap2 26 hb
        have hBw : Below w.heap.size w wr := (two' _ _ _).trans (hb.mono (by omega))
        have HSM := Lib.hid hsm
        have HB := Lib.hid hb
        clear hsm hb
        by_cases hlt : i' < l.length
        · obtain ⟨c, o, rfl, hcN, hC⟩ := H.out.cell i' hlt
          have hlt2 : i' < m.length := by rw [← HL.out]; exact hlt
          obtain ⟨c2, o2, rfl, hcN2, hC2⟩ := H2.out.cell i' hlt2
          have hC := hC.keep (hBw.block c (by omega))
          have hC2 := hC2.keep (hBw.block c2 (by omega))
          have hc := fun (w1 : World) (hb1 : Below wr.heap.size wr w1) => HC.out l[i'] (List.getElem_mem hlt) m[i'] (List.getElem_mem hlt2) w1 (hBw.trans (hb1.mono hBw.size))
          have HCC := Lib.hid hc
          have e1 : i' < (AT.ptL l).length := by rw [AT.ptL_length]; exact hlt
          have e2 : i' < (AT.ptL m).length := by rw [AT.ptL_length]; exact hlt2
          have hst := sameL_split (AT.ptL l) (AT.ptL m) i' e1 e2
          have hst2 := sameL_false (AT.ptL l) (AT.ptL m) i' e1 e2
          rw [ptL_get l i' hlt, ptL_get m i' hlt2] at hst hst2
          obtain ⟨V, hV⟩ : ∃ V, V = l[i'] := ⟨_, rfl⟩
          obtain ⟨V2, hV2⟩ : ∃ V2, V2 = m[i'] := ⟨_, rfl⟩
          rw [← hV] at hC HCC hst hst2
          rw [← hV2] at hC2 HCC hst hst2
          have HST := Lib.hid hst
          have HST2 := Lib.hid hst2
          obtain ⟨c0, c1, c2, c3, c4⟩ := hC
          obtain ⟨d0, d1, d2, d3, d4⟩ := hC2
          have HBw := Lib.hid hBw
          have hi0 : (0 : Int) ≤ i' := by omega
          have hi1 : (i' : Int) < l.length := by omega
          clear hV hV2 hst hst2 hc e1 e2 hBw
          go_wp2_with fail
          go_still_tail 10, (by kernel_rfl)
          go_wp2_with fail
          refine (HCC.out _ ((Below.refl _ _).drew)).mono ?_
          rintro e w2 ⟨rfl, hb2⟩
          have HB2 := Lib.hid (Below.trans ((Below.refl wr.heap.size wr).drew) hb2)
          have hz := HBw.out.size
          clear hb2
          cases hv : V.pt.same V2.pt
          · have HV := Lib.hid hv
            clear hv
            go_wp2
            go_ret
            exact ⟨by rw [HS2.out false (HST2.out HV.out)]; rfl, HBw.out.trans (HB2.out.mono hz)⟩
          · have HV := Lib.hid hv
            clear hv
            go_wp2
            go_roundw
            case rel => exact ⟨i' + 1, by go_num, by omega, by rw [HST.out, HSM.out, HV.out]; rfl, HB.out.trans (HB2.out.mono (by have := HB.out.size; simp at this; omega))⟩
            case measure => simp [intOf]; omega
        · have hi2 : i' = l.length := by omega
          subst hi2
          have HBw := Lib.hid hBw
          clear hBw
          have HT : Hid (PT.sameL (AT.ptL l) (AT.ptL m) = true) := Lib.hid (by
            have := HSM.out
            rw [List.take_of_length_le (by simp), List.take_of_length_le (by simp [HL.out])] at this
            exact this)
          go_wp2
          go_ret
          exact ⟨by rw [HS2.out true HT.out]; rfl, HBw.out⟩
    · have hfalse : (k == k2 && n == n2 && x == x2 && s == s2 && l.length == m.length) = false := by
        rw [Bool.eq_false_iff]
        intro h
        simp only [Bool.and_eq_true, beq_iff_eq] at h
        exact hf ⟨h.1.1.1.1, h.1.1.1.2, h.1.1.2, h.1.2, h.2⟩
      have HR : Hid ((AT.mk k n x s a cap l).pt.same (AT.mk k2 n2 x2 s2 b cap2 m).pt = false) := Lib.hid ((HS.out false).2 (by rw [hfalse]; rfl))
      clear hfalse HS H H2 HC
      rcases hd_cases hf with h0 | ⟨rfl, h1⟩ | ⟨rfl, rfl, h2⟩ | ⟨rfl, rfl, rfl, h3, h4⟩ | ⟨rfl, rfl, rfl, rfl, h5, h6⟩
      all_goals clear hf
      all_goals
        go_enter Try.func55, Try.ntmps55
        go_wp2
        go_ret
        exact ⟨by rw [HR.out]; rfl, two' _ _ _⟩
end Go.Proofs.Ytnikcgmbkmbloaa
/- compareIntegers of the program, l7Plain of the model. -/
namespace Go.Proofs.Ytnikcgmbkmbloaa
open Go.RowKit
set_option maxRecDepth 100000
set_option maxHeartbeats 4000000 in
theorem ints_impl (T U : AT) (w : World) : Calls Try.prog 62 #[T.val, U.val] w fun e w' => e = .returned (.int .i64 (plainV T.k T.n T.x U.n U.x)) ∧ Below w.heap.size w w' := by
  obtain ⟨k, n, x, s, a, cap, l⟩ := T
  obtain ⟨k2, n2, x2, s2, b, cap2, m⟩ := U
  show Calls Try.prog 62 #[.agg #[.int .i64 k, .int .i64 n, .int .i64 x, .string ⟨s.toArray⟩, .slice a l.length cap], .agg #[.int .i64 k2, .int .i64 n2, .int .i64 x2, .string ⟨s2.toArray⟩, .slice b m.length cap2]] w fun e w' => e = .returned (.int .i64 (orI (cmpI n n2) (cmpI x x2))) ∧ Below w.heap.size w w'
  have h1 := fun W => (compare_int n n2 W).mono (fun e w' h => (⟨h.1, h.2.symm⟩ : e = .returned (.int .i64 (cmpI n n2)) ∧ w' = W))
  have h2 := fun W => (compare_int x x2 W).mono (fun e w' h => (⟨h.1, h.2.symm⟩ : e = .returned (.int .i64 (cmpI x x2)) ∧ w' = W))
  have h3 := fun W g cap c0 c1 => or_int (cmpI n n2) (cmpI x x2) W g cap c0 c1
  generalize cmpI n n2 = c1 at *
  generalize cmpI x x2 = c2 at *
  generalize orI c1 c2 = c3 at *
  go_enter Try.func62, Try.ntmps62
  go_wp2_with fail
  have hB := two' w (.cells #[.int .i64 k, .int .i64 n, .int .i64 x, .string ⟨s.toArray⟩, .slice a l.length cap] 26) (.cells #[.int .i64 k2, .int .i64 n2, .int .i64 x2, .string ⟨s2.toArray⟩, .slice b m.length cap2] 26)
  have hc : ((w.alloc (.cells #[.int .i64 k, .int .i64 n, .int .i64 x, .string ⟨s.toArray⟩, .slice a l.length cap] 26)).alloc (.cells #[.int .i64 k2, .int .i64 n2, .int .i64 x2, .string ⟨s2.toArray⟩, .slice b m.length cap2] 26)).cell? ⟨w.heap.size, 1, none⟩ = some (.int .i64 n) ∧ ((w.alloc (.cells #[.int .i64 k, .int .i64 n, .int .i64 x, .string ⟨s.toArray⟩, .slice a l.length cap] 26)).alloc (.cells #[.int .i64 k2, .int .i64 n2, .int .i64 x2, .string ⟨s2.toArray⟩, .slice b m.length cap2] 26)).cell? ⟨w.heap.size, 2, none⟩ = some (.int .i64 x) ∧ ((w.alloc (.cells #[.int .i64 k, .int .i64 n, .int .i64 x, .string ⟨s.toArray⟩, .slice a l.length cap] 26)).alloc (.cells #[.int .i64 k2, .int .i64 n2, .int .i64 x2, .string ⟨s2.toArray⟩, .slice b m.length cap2] 26)).cell? ⟨w.heap.size + 1, 1, none⟩ = some (.int .i64 n2) ∧ ((w.alloc (.cells #[.int .i64 k, .int .i64 n, .int .i64 x, .string ⟨s.toArray⟩, .slice a l.length cap] 26)).alloc (.cells #[.int .i64 k2, .int .i64 n2, .int .i64 x2, .string ⟨s2.toArray⟩, .slice b m.length cap2] 26)).cell? ⟨w.heap.size + 1, 2, none⟩ = some (.int .i64 x2) := by refine ⟨?_, ?_, ?_, ?_⟩ <;> simp [go_sem]
  generalize ((w.alloc (.cells #[.int .i64 k, .int .i64 n, .int .i64 x, .string ⟨s.toArray⟩, .slice a l.length cap] 26)).alloc (.cells #[.int .i64 k2, .int .i64 n2, .int .i64 x2, .string ⟨s2.toArray⟩, .slice b m.length cap2] 26)) = W0 at *
  obtain ⟨e1, e2, e3, e4⟩ := hc
  replace hB := hB.drew
  refine wp_region_still_tail 10 (by kernel_rfl) (by kernel_rfl) ?_
  simp only [List.take_succ_cons, List.take_zero, List.drop_succ_cons, List.drop_zero]
  still_step
  still_step
  still_step
  still_step
  still_call (h1 _)
  still_step
  still_step
  still_step
  still_step
  still_call (h2 _)
  refine wpStill_nil ?_
  change wpList _ _ _ _ _ (World.drew _)
  generalize (World.drew _) = w2 at *
  go_wp2_with (go_at_call 99; refine (h3 _ _ _ (by simp [go_sem]) (by simp [go_sem])).mono ?_; rintro e w' ⟨rfl, rfl⟩)
  go_ret
  exact ⟨rfl, hB.alloc hB.size _⟩
end Go.Proofs.Ytnikcgmbkmbloaa
/- '==' and '!=' on floating-point numbers. -/
namespace Go.Proofs.Ytnikcgmbkmbloaa
open Go.RowKit
theorem flt_equal (n x N X : Int) (w : World) : (Op.equalIn 10000 137 (.agg #[.int .i64 n, .int .i64 x]) (.agg #[.int .i64 N, .int .i64 X])).run Try.prog w = .ok (n == N && x == X) w := by
  rw [show (10000 : Nat) = 9998 + 1 + 1 from rfl, run_equalIn_agg w (9998 + 1) 137 _ _ (by kernel_rfl) (by kernel_rfl)]
  simp [Op.eqFields, Program.fieldsOf, Try.underlying137, Try.underlying3, go_sem]
  by_cases h : n = N <;> by_cases k : x = X <;> simp [h, k]
theorem flt_eql (n x N X : Int) (w : World) : (binOp .eql 137 (.agg #[.int .i64 n, .int .i64 x]) (.agg #[.int .i64 N, .int .i64 X])).run Try.prog w = .ok (.bool (n == N && x == X)) w := by
  rw [run_eql_struct, flt_equal]; rfl
theorem flt_neq (n x N X : Int) (w : World) : (binOp .neq 137 (.agg #[.int .i64 n, .int .i64 x]) (.agg #[.int .i64 N, .int .i64 X])).run Try.prog w = .ok (.bool (!(n == N && x == X))) w := by
  rw [run_neq_struct, flt_equal]; rfl
end Go.Proofs.Ytnikcgmbkmbloaa
/- What FltOk of the program and of the model returns: whether the two fields form a floating-point number. -/
namespace Go.Proofs.Ytnikcgmbkmbloaa
open Go.RowKit
theorem fbox (w : World) (o : Obj) : Below w.heap.size w (w.alloc o) := (Below.refl _ _).alloc (Nat.le_refl _) _
def fltLim (e : Int) : Nat := 65535 / 2 ^ (e - 30).toNat
theorem fltLim_le (e : Int) : fltLim e ≤ 65535 := Nat.div_le_self _ _
theorem fltLim_low {e : Int} (h : e ≤ 30) : fltLim e = 65535 := by unfold fltLim; rw [show (e - 30).toNat = 0 by omega]
theorem lim_shift {e : Int} (h : 30 < e) : Op.shift .shr .i64 65535 .i64 (e - 30) = pure (.int .i64 (fltLim e)) := by
  rw [shift_shr_any _ _ _ _ (by omega)]
  unfold fltLim
  by_cases hk : (e - 30).toNat ≤ 64
  · rw [show min (e - 30).toNat (IntKind.bits .i64) = (e - 30).toNat from Nat.min_eq_left hk, Int.natCast_ediv, Int.natCast_pow]; rfl
  · have h1 : 2 ^ 64 ≤ 2 ^ (e - 30).toNat := Nat.pow_le_pow_right (by decide) (by omega)
    rw [show min (e - 30).toNat (IntKind.bits .i64) = 64 from Nat.min_eq_right (by show 64 ≤ _; omega), Nat.div_eq_of_lt (by omega)]; rfl
theorem fltOk_even {m e : Int} (hz : ¬ (m = 0 ∧ e = 0)) (h : m.tmod 2 = 0) : fltOk m e = false := by
  rw [Bool.eq_false_iff]; intro hv
  obtain ⟨_, _, _, r3, r4⟩ := fltOk_range hv
  by_cases hm : m = 0
  · exact hz ⟨hm, r3 hm⟩
  · exact (r4 hm).1 h
theorem fltOk_deep {m e : Int} (h : e < -16) : fltOk m e = false := by
  rw [Bool.eq_false_iff]; intro hv
  have := (fltOk_range hv).1
  omega
theorem fltOk_lim {m e : Int} (h : m.tmod 2 ≠ 0) (he : -16 ≤ e) : fltOk m e = decide (-(fltLim e : Int) ≤ m ∧ m ≤ fltLim e) := by
  have hL := fltLim_le e
  have hm : m ≠ 0 := by rintro rfl; exact h rfl
  rw [Bool.eq_iff_iff, decide_eq_true_eq]
  constructor
  · intro hv
    have := ((fltOk_range hv).2.2.2.2 hm).2
    have h2 : m.natAbs ≤ fltLim e := (Nat.le_div_iff_mul_le (two_pos _)).2 this
    omega
  · intro hv
    have h2 : m.natAbs ≤ fltLim e := by omega
    exact fltOk_of h he (by omega) ((Nat.le_div_iff_mul_le (two_pos _)).1 h2)
set_option maxRecDepth 100000 in
set_option maxHeartbeats 1000000 in
theorem fltok_impl (m e : Int) (w : World) (h0 : -9223372036854775808 ≤ m) (h1 : m ≤ 9223372036854775807) (k0 : -9223372036854775808 ≤ e) (k1 : e ≤ 9223372036854775807) :
    Calls Try.prog 123 #[.agg #[.int .i64 m, .int .i64 e]] w fun r w' => r = .returned (.bool (fltOk m e)) ∧ Below w.heap.size w w' := by
  have hg := fun x y xs ys w => run_eqGuard_agg (P := Try.prog) w .eql 137 x y xs ys (by kernel_rfl)
  have hq := fun w => flt_eql m e 0 0 w
  by_cases hz : m = 0 ∧ e = 0
  · obtain ⟨rfl, rfl⟩ := hz
    rw [show ((0 : Int) == 0 && (0 : Int) == 0) = true by decide] at hq
    rw [fltOk_zero]
    go_enter Try.func123, Try.ntmps123
    go_wp2
    go_ret
    exact ⟨rfl, fbox _ _⟩
  · rw [show ((m == 0 && e == 0)) = false by rw [Bool.eq_false_iff]; simpa using hz] at hq
    by_cases hm : m.tmod 2 = 0
    · rw [fltOk_even hz hm]
      have hb : (m.tmod 2 == 0) = true := by simpa using hm
      go_enter Try.func123, Try.ntmps123
      go_wp2
      go_ret
      exact ⟨rfl, fbox _ _⟩
    · have hb : (m.tmod 2 == 0) = false := by simpa using hm
      have hb2 : (m % 2 == 0) = false := by rw [Bool.eq_false_iff]; intro h; exact hm (Int.tmod_eq_zero_of_dvd (Int.dvd_of_emod_eq_zero (by simpa using h)))
      by_cases he : e < -16
      · rw [fltOk_deep he]
        go_enter Try.func123, Try.ntmps123
        go_wp2
        go_ret
        exact ⟨rfl, fbox _ _⟩
      · rw [fltOk_lim hm (by omega)]
        by_cases hi : 30 < e
        · have hL := fltLim_le e
          have hs := lim_shift hi
          generalize fltLim e = L at *
          by_cases b1 : -(L : Int) ≤ m
          · by_cases b2 : m ≤ L
            · rw [show decide (-(L : Int) ≤ m ∧ m ≤ L) = true by simp; omega]
              clear hz
              go_enter Try.func123, Try.ntmps123
              go_wp2
              go_ret
              exact ⟨rfl, fbox _ _⟩
            · rw [show decide (-(L : Int) ≤ m ∧ m ≤ L) = false by simp; omega]
              clear hz
              go_enter Try.func123, Try.ntmps123
              go_wp2
              go_ret
              exact ⟨rfl, fbox _ _⟩
          · rw [show decide (-(L : Int) ≤ m ∧ m ≤ L) = false by simp; omega]
            clear hz
            go_enter Try.func123, Try.ntmps123
            go_wp2
            go_ret
            exact ⟨rfl, fbox _ _⟩
        · rw [fltLim_low (by omega)]
          by_cases b1 : -(65535 : Int) ≤ m
          · by_cases b2 : m ≤ 65535
            · rw [show decide (-((65535 : Nat) : Int) ≤ m ∧ m ≤ (65535 : Nat)) = true by simp; omega]
              clear hz
              go_enter Try.func123, Try.ntmps123
              go_wp2
              go_ret
              exact ⟨rfl, fbox _ _⟩
            · rw [show decide (-((65535 : Nat) : Int) ≤ m ∧ m ≤ (65535 : Nat)) = false by simp; omega]
              clear hz
              go_enter Try.func123, Try.ntmps123
              go_wp2
              go_ret
              exact ⟨rfl, fbox _ _⟩
          · rw [show decide (-((65535 : Nat) : Int) ≤ m ∧ m ≤ (65535 : Nat)) = false by simp; omega]
            clear hz
            go_enter Try.func123, Try.ntmps123
            go_wp2
            go_ret
            exact ⟨rfl, fbox _ _⟩
theorem fltOk_zero_e {e : Int} (h : ¬ e = 0) : fltOk 0 e = false := by unfold fltOk; rw [if_pos rfl]; simpa using h
set_option maxRecDepth 100000 in
set_option maxHeartbeats 1000000 in
theorem fltok_spec (m e : Int) (w : World) (h0 : -9223372036854775808 ≤ m) (h1 : m ≤ 9223372036854775807) (k0 : -9223372036854775808 ≤ e) (k1 : e ≤ 9223372036854775807) :
    Calls Try.prog 109 #[.agg #[.int .i64 m, .int .i64 e]] w fun r w' => r = .returned (.bool (fltOk m e)) ∧ Below w.heap.size w w' := by
  by_cases hz : m = 0
  · subst hz
    by_cases he : e = 0
    · subst he
      rw [fltOk_zero]
      go_enter Try.func109, Try.ntmps109
      go_wp2
      go_ret
      exact ⟨rfl, fbox _ _⟩
    · rw [fltOk_zero_e he]
      have hb : (e == 0) = false := by simpa using he
      go_enter Try.func109, Try.ntmps109
      go_wp2
      go_ret
      exact ⟨rfl, fbox _ _⟩
  · have hzb : (m == 0) = false := by simpa using hz
    by_cases hm : -65535 ≤ m ∧ m ≤ 65535
    · have e1 : decide (-65535 ≤ m ∧ m ≤ 65535) = true := by simpa using hm
      by_cases ht : m.tmod 2 = 0
      · rw [fltOk_even (fun h => hz h.1) ht]
        have hb : (m.tmod 2 == 0) = true := by simpa using ht
        clear hm
        go_enter Try.func109, Try.ntmps109
        go_wp2_with (go_at_call 108; refine (in_any _ _ _ _).mono ?_; rintro r w' ⟨rfl, rfl⟩)
        go_ret
        exact ⟨rfl, fbox _ _⟩
      · have hb : (m.tmod 2 == 0) = false := by simpa using ht
        by_cases he : -16 ≤ e ∧ e ≤ 45
        · have e2 : decide (-16 ≤ e ∧ e ≤ 45) = true := by simpa using he
          obtain ⟨c0, c1⟩ := he
          by_cases hi : e ≤ 30
          · rw [fltOk_lim ht c0, fltLim_low hi, show decide (-((65535 : Nat) : Int) ≤ m ∧ m ≤ (65535 : Nat)) = true by simp; omega]
            clear hm c0 c1
            go_enter Try.func109, Try.ntmps109
            go_wp2_with (go_at_call 108; refine (in_any _ _ _ _).mono ?_; rintro r w' ⟨rfl, rfl⟩)
            go_ret
            exact ⟨rfl, fbox _ _⟩
          · have hp : (0 : Int) < 2 ^ (e - 30).toNat := Int.pow_pos (by decide)
            have hp2 : (2 : Int) ^ (e - 30).toNat ≤ 32768 := by
              have h1 : 2 ^ (e - 30).toNat ≤ 2 ^ 15 := Nat.pow_le_pow_right (by decide) (by omega)
              have h2 : ((2 ^ (e - 30).toNat : Nat) : Int) = (2 : Int) ^ (e - 30).toNat := by rw [Int.natCast_pow]; rfl
              omega
            have hs : Op.shift .shl .i64 m .i64 (e - 30) = pure (.int .i64 (m * 2 ^ (e - 30).toNat)) := by
              rw [shift_shl_any _ _ _ _ (by omega), show min (e - 30).toNat (IntKind.bits .i64) = (e - 30).toNat from Nat.min_eq_left (by show _ ≤ 64; omega)]
              have b1 : m * 2 ^ (e - 30).toNat ≤ 65535 * 32768 := Int.le_trans (Int.mul_le_mul_of_nonneg_right hm.2 (Int.le_of_lt hp)) (Int.mul_le_mul_of_nonneg_left hp2 (by decide))
              have b2 : -m * 2 ^ (e - 30).toNat ≤ 65535 * 32768 := Int.le_trans (Int.mul_le_mul_of_nonneg_right (by omega) (Int.le_of_lt hp)) (Int.mul_le_mul_of_nonneg_left hp2 (by decide))
              rw [Int.neg_mul] at b2
              rw [IntWalk.i64_in _ (by omega)]
            have hv : fltOk m e = decide (-65535 ≤ m * 2 ^ (e - 30).toNat ∧ m * 2 ^ (e - 30).toNat ≤ 65535) := by
              rw [Bool.eq_iff_iff, decide_eq_true_eq]
              have h2 : ((m.natAbs * 2 ^ (e - 30).toNat : Nat) : Int) = ((m * 2 ^ (e - 30).toNat).natAbs : Int) := by rw [Int.natAbs_mul, Int.natAbs_pow]; rfl
              constructor
              · intro h
                have := ((fltOk_range h).2.2.2.2 hz).2
                omega
              · intro h
                exact fltOk_of ht c0 (by omega) (by omega)
            rw [hv]
            obtain ⟨B, e3⟩ : ∃ B, decide (-65535 ≤ m * 2 ^ (e - 30).toNat ∧ m * 2 ^ (e - 30).toNat ≤ 65535) = B := ⟨_, rfl⟩
            rw [e3]
            have hi3 : 30 < e := by omega
            have hi2 : decide (e ≤ 30) = false := by simpa using hi
            generalize m * 2 ^ (e - 30).toNat = p at *
            clear hv hm c0 c1 hp hp2 hi
            go_enter Try.func109, Try.ntmps109
            go_wp2_with (go_at_call 108; refine (in_any _ _ _ _).mono ?_; rintro r w' ⟨rfl, rfl⟩)
            go_ret
            exact ⟨rfl, fbox _ _⟩
        · have e2 : decide (-16 ≤ e ∧ e ≤ 45) = false := by simpa using he
          rw [show fltOk m e = false by rw [Bool.eq_false_iff]; intro h; have := fltOk_range h; omega]
          clear hm he
          go_enter Try.func109, Try.ntmps109
          go_wp2_with (go_at_call 108; refine (in_any _ _ _ _).mono ?_; rintro r w' ⟨rfl, rfl⟩)
          go_ret
          exact ⟨rfl, fbox _ _⟩
    · have e1 : decide (-65535 ≤ m ∧ m ≤ 65535) = false := by simpa using hm
      rw [show fltOk m e = false by rw [Bool.eq_false_iff]; intro h; have := fltOk_range h; omega]
      clear hm
      go_enter Try.func109, Try.ntmps109
      go_wp2_with (go_at_call 108; refine (in_any _ _ _ _).mono ?_; rintro r w' ⟨rfl, rfl⟩)
      go_ret
      exact ⟨rfl, fbox _ _⟩
end Go.Proofs.Ytnikcgmbkmbloaa
/- What FltNew of the program and of the model returns: the number's one valid form, or none where there is none. -/
namespace Go.Proofs.Ytnikcgmbkmbloaa
open Go.RowKit
theorem fcell {W w1 : World} (hb : Below W.heap.size W w1) : (∀ b o, b < W.heap.size → w1.cell? ⟨b, o, none⟩ = W.cell? ⟨b, o, none⟩) ∧ (∀ b o, b < W.heap.size → w1.frozen? ⟨b, o, none⟩ = W.frozen? ⟨b, o, none⟩) :=
  ⟨fun b o h => hb.cell (p := ⟨b, o, none⟩) h, fun b o h => hb.frozen (p := ⟨b, o, none⟩) h⟩
def FNewPost (m e : Int) (w : World) (r : Ending) (w' : World) : Prop := ∃ (M E : Int) (ok : Bool), r = .returned (.tuple #[.agg #[.int .i64 M, .int .i64 E], .bool ok]) ∧ IsFlt m e M E ok ∧ Below w.heap.size w w'

end Go.Proofs.Ytnikcgmbkmbloaa
