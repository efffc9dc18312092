/- l6Copy, l6All and ListVal of the model: copies in rows of their own. -/
import Derived.Test.YtgfebmnlcihpnaaToVal
import Derived.Test.YtgfebmnlcihpnaaCount
import Derived.Test.YtgfebmnlcihpnaaKeepVal
import Derived.Deep.AppendLies
namespace Go.Proofs.Ytgfebmnlcihpnaa
open Go.RowKit
theorem ownBlock_slice (a : Option Addr) (n cap : Nat) : (Value.slice a n cap).ownBlock = a.map (·.block) := by cases a <;> rfl
/-- one more element at the end of a row of trees -/
theorem row_push {W w' : World} {K gg cap cap' : Nat} {a : Option Addr} {lr : List AT} {T : AT} (h0 : OwnL W K a cap lr) (hnd : ((a.map (·.block)).toList ++ AT.blksL lr).Nodup) (hT : T.Own W K) (hTn : T.blks.Nodup) (hdis : ∀ k ∈ T.blks, k ∉ (a.map (·.block)).toList ++ AT.blksL lr)
    (hown : w'.ownsRow K 26 5 (.slice (some ⟨gg, 0, none⟩) (lr.length + 1) cap') (lr.length + 1) (cellsL lr ++ T.cells)) (hgrow : W.grownBy w' (Value.slice a lr.length cap).ownBlock) (hat : (Value.slice a lr.length cap).ownBlock = some gg ∨ gg = W.heap.size) :
    OwnL w' K (some ⟨gg, 0, none⟩) cap' (lr ++ [T]) ∧ (gg :: AT.blksL (lr ++ [T])).Nodup := by
  rw [ownBlock_slice] at hgrow hat
  have hlt : ∀ k ∈ AT.blksL lr, k < W.heap.size := fun k hk => by
    obtain ⟨t, ht, hkt⟩ := AT.mem_blksL.1 hk
    exact ((h0.sub t ht).lt k hkt).2
  have hsub : ∀ t : AT, t.Own W K → (∀ k ∈ t.blks, k ∉ (a.map (·.block)).toList) → t.Own w' K := fun t ht hd => ht.kept fun k hk => hgrow.block k (ht.lt k hk).2 (fun e => hd k hk (by rw [← e]; simp))
  rw [List.nodup_append] at hnd
  have hrow : w'.ownsRow K 26 5 (.slice (some ⟨gg, 0, none⟩) (lr ++ [T]).length cap') (lr ++ [T]).length (cellsL (lr ++ [T])) := by
    rw [cellsL_append, cellsL_one, List.length_append, List.length_singleton]; exact hown
  refine ⟨⟨hrow, fun t ht => ?_⟩, ?_⟩
  · rcases List.mem_append.1 ht with ht | ht
    · exact hsub t (h0.sub t ht) (fun k hk hk2 => hnd.2.2 k hk2 k (AT.mem_blksL.2 ⟨t, ht, hk⟩) rfl)
    · obtain rfl : t = T := by simpa using ht
      exact hsub t hT (fun k hk hk2 => hdis k hk (by simp only [List.mem_append]; exact .inl hk2))
  · rw [AT.blksL_append, AT.blksL_one, List.nodup_cons, List.nodup_append]
    refine ⟨fun hm => ?_, hnd.2.1, hTn, fun x hx y hy e => hdis y hy (by rw [← e, List.mem_append]; exact .inr hx)⟩
    rcases hat with hat | hat
    · have hga : gg ∈ (a.map (·.block)).toList := by rw [hat]; simp
      rcases List.mem_append.1 hm with hm | hm
      · exact hnd.2.2 gg hga gg hm rfl
      · exact hdis gg hm (by simp only [List.mem_append]; exact .inl hga)
    · rcases List.mem_append.1 hm with hm | hm
      · have := hlt gg hm; omega
      · have := (hT.lt gg hm).2; omega
theorem OwnL.blw {w w' : World} {B : Nat} {a : Option Addr} {cap : Nat} {l : List AT} (h : OwnL w B a cap l) (hb : Below w.heap.size w w') : OwnL w' B a cap l :=
  (AT.Own.blw (T := .mk 0 0 0 [] a cap l) h.own hb).l
theorem OwnL.lt {w : World} {B : Nat} {a : Option Addr} {cap : Nat} {l : List AT} (h : OwnL w B a cap l) : ∀ k ∈ (a.map (·.block)).toList ++ AT.blksL l, B ≤ k ∧ k < w.heap.size :=
  AT.Own.lt (T := .mk 0 0 0 [] a cap l) h.own
theorem below_push {w2 W w3 : World} {row : Option Nat} {K : Nat} (hg : W.grownBy w3 row) (hr : ∀ k, row = some k → K ≤ k) (hb : Below w2.heap.size w2 W) (hK : K ≤ w2.heap.size) : Below K w2 w3 :=
  (hb.mono hK).trans ⟨hg.os, hg.tape, hg.output, hg.size, fun k hk => hg.block k (by have := hb.size; omega) (fun e => by have := hr k e.symm; omega)⟩
theorem frozen_blk' {w w' : World} {b o : Nat} (k : w'.heap[b]? = w.heap[b]?) : w'.frozen? ⟨b, o, none⟩ = w.frozen? ⟨b, o, none⟩ := by
  unfold World.frozen?; rw [k]
theorem AT.Own.setg' {w : World} {B g o : Nat} {u : Value} {T : AT} (h : T.Own w B) (hg : g ∉ T.blks) : T.Own (w.setCell ⟨g, o, none⟩ u) B := h.only ((Only.refl g w).setCell o u) hg
theorem emptyRow (w : World) (B : Nat) (hB : B ≤ w.heap.size) : OwnL (w.alloc (.cells #[] 26)) B (some ⟨w.heap.size, 0, none⟩) 0 [] :=
  ⟨⟨rfl, .inr ⟨w.heap.size, 0, #[], rfl, hB, heap_alloc_new w _, Nat.le_refl _, by unfold maxLen; omega, rfl, rfl⟩⟩, by simp⟩
theorem news_of_cells (W : World) (T : AT) : ∀ j u, T.cells[j]? = some u → (W.alloc (.cells #[.int .i64 T.k, .int .i64 T.n, .int .i64 T.x, .string ⟨T.s.toArray⟩, .slice T.a T.l.length T.cap] 26)).cell? ((⟨W.heap.size, 0, none⟩ : Addr).add j) = some u :=
  World.news_of_block (cs := #[.int .i64 T.k, .int .i64 T.n, .int .i64 T.x, .string ⟨T.s.toArray⟩, .slice T.a T.l.length T.cap]) (t := 26) (fr := (0, 0)) (heap_alloc_new W _)
theorem cells_one (T : AT) : ∀ u ∈ T.cells, u.oneCell' = true := by
  intro u hu
  simp only [AT.cells, List.mem_cons, List.not_mem_nil, or_false] at hu
  rcases hu with rfl | rfl | rfl | rfl | rfl <;> rfl
set_option maxHeartbeats 1000000 in
theorem l6All_of (l : List AT) (ih : ∀ t ∈ l, ∀ (w : World) (N : Nat), t.In w N → N ≤ w.heap.size → Calls Try.prog 85 #[t.val] w (FreshV w t.pt)) (hl : l.length ≤ 1048576) (w : World) (N : Nat) (a : Option Addr) (cap : Nat) (h : Lv w N a cap l) (hN : N ≤ w.heap.size) :
    Calls Try.prog 106 #[.slice a l.length cap] w (FreshL w (AT.ptL l)) := by
  obtain ⟨i0, hi, hz0, hz1, hz2⟩ := info_parts valInfo
  have H := Lib.hid h
  have IH := Lib.hid ih
  clear h ih
  go_enter Try.func106, Try.ntmps106
  go_wp2
  go_loopw [3, 4] (fun v i wr => ∃ (lr : List AT) (a' : Option Addr) (cap' : Nat), v = .slice a' lr.length cap' ∧ i = .int .i64 lr.length ∧ lr.length ≤ l.length ∧ AT.ptL lr = (AT.ptL l).take lr.length ∧ OwnL wr w.heap.size a' cap' lr ∧ ((a'.map (·.block)).toList ++ AT.blksL lr).Nodup ∧ Below w.heap.size w wr) (fun _ i _ => l.length - (intOf i).toNat)
  case atStart => exact ⟨[], _, _, rfl, rfl, Nat.zero_le _, by simp [AT.ptL], emptyRow w _ (Nat.le_refl _), by simp [AT.blksL], vbox _ _⟩
  case round =>
    obtain ⟨lr, a', cap', rfl, rfl, hlr, hpt, hown, hnd, hb⟩ := hrel
    have HO := Lib.hid hown
    have HB := Lib.hid hb
    have HD := Lib.hid hnd
    have HP := Lib.hid hpt
    clear hpt hnd hown
    by_cases hlt : lr.length < l.length
    · obtain ⟨b, o, rfl, hbN, hC⟩ := H.out.cell lr.length hlt
      have hC := hC.keep (hb.block b (by omega))
      have hc := fun w' hw => IH.out l[lr.length] (List.getElem_mem hlt) w' N ((H.out.sub _ (List.getElem_mem hlt)).blw hw hN)
      have HPt : Hid ((AT.ptL l).take (lr.length + 1) = (AT.ptL l).take lr.length ++ [(l[lr.length]).pt]) := Lib.hid (by
        rw [List.take_succ_eq_append_getElem (by simpa using hlt)]; simp [AT.ptL_eq])
      obtain ⟨T, hT⟩ : ∃ T, T = l[lr.length] := ⟨_, rfl⟩
      rw [← hT] at hC hc HPt
      clear hT
      obtain ⟨c0, c1, c2, c3, c4⟩ := hC
      have HC := Lib.hid hc
      clear hc
      go_wp2_with fail
      refine (HC.out wr hb (by have := hb.size; omega)).mono ?_
      rintro e w2 ⟨T', hT', rfl, hOT, hNT, hb2⟩
      have hO2 := (HO.out.blw hb2)
      have hdis : ∀ k ∈ T'.blks, k ∉ (a'.map (·.block)).toList ++ AT.blksL lr := fun k hk hk2 => by
        have h1 := (hOT.lt k hk).1
        have h2 := (HO.out.lt k hk2).2
        omega
      have HX := Lib.hid hT'
      have HOT := Lib.hid (hOT.base hb.size)
      have HNT := Lib.hid hNT
      have HB2 := Lib.hid (HB.out.trans (hb2.mono HB.out.size))
      have HO2 := Lib.hid hO2
      have HDI := Lib.hid hdis
      clear hT' hOT hNT hb2 hO2 hdis hb c0 c1 c2 c3 c4
      go_wp2_with (refine wpList_append_lies _ (by rfl) _ _ _ (by rfl) w.heap.size 26 i0 _ 5 64 Try.underlying24 hi hz0 hz1 hz2 rfl (by omega) _ lr.length _ (by rfl) (own_heap HO2.out.row (fun k hk => (((vbox w2 _).trans ((vbox _ _).mono (by simp))).block k (HO2.out.row.lt k hk).2))) ⟨w2.heap.size + 1, 0, none⟩ 1 1 T'.cells (by rfl) (by rfl) ?news (cells_one T') (by omega) (by unfold maxLen; omega) (by omega) (by have := HB2.out.size; simp; omega) (w2.heap.size + 2) (by simp) ?_)
      case news =>
        have := news_of_cells (w2.alloc (.cells #[.int .i64 T'.k, .int .i64 T'.n, .int .i64 T'.x, .string ⟨T'.s.toArray⟩, .slice T'.a T'.l.length T'.cap] 26)) T'
        simpa using this
      intro gg cap2 w3 hown3 hgrow hat hlt3
      have hbW : Below w2.heap.size w2 ((w2.alloc (.cells #[.int .i64 T'.k, .int .i64 T'.n, .int .i64 T'.x, .string ⟨T'.s.toArray⟩, .slice T'.a T'.l.length T'.cap] 26)).alloc (.cells #[.int .i64 T'.k, .int .i64 T'.n, .int .i64 T'.x, .string ⟨T'.s.toArray⟩, .slice T'.a T'.l.length T'.cap] 26)) := boxes2 w2 _ _
      obtain ⟨hnew, hnd3⟩ := row_push (HO2.out.blw hbW) HD.out (HOT.out.blw hbW) HNT.out HDI.out hown3 hgrow (by simpa using hat)
      have hb3 : Below w.heap.size w w3 := HB2.out.trans (below_push hgrow (fun k hk => (HO2.out.row.lt k hk).1) hbW HB2.out.size)
      have HNEW := Lib.hid hnew
      have HND3 := Lib.hid hnd3
      have HB3 := Lib.hid hb3
      have HPT : Hid (AT.ptL (lr ++ [T']) = (AT.ptL l).take (lr.length + 1)) := Lib.hid (by
        rw [AT.ptL_eq, List.map_append, ← AT.ptL_eq, HP.out, List.map_singleton, HX.out, HPt.out])
      clear hown3 hgrow hat hlt3 hbW hnew hnd3 hb3
      go_wp2
      go_roundw
      case rel => exact ⟨lr ++ [T'], some ⟨gg, 0, none⟩, cap2, by rw [List.length_append]; rfl, by rw [List.length_append]; go_num, by rw [List.length_append, List.length_singleton]; omega, by rw [List.length_append, List.length_singleton]; exact HPT.out, HNEW.out, HND3.out, HB3.out⟩
      case measure => simp [intOf]; omega
    · obtain heq : lr.length = l.length := by omega
      clear hb
      go_wp2
      go_ret
      exact ⟨a', cap', lr, by rw [HP.out, List.take_of_length_le (by simp; omega)], rfl, HO.out, HD.out, HB.out⟩
end Go.Proofs.Ytgfebmnlcihpnaa
