import Derived.Test.YtdjnkcoepmackaaG7
import Derived.Deep.AppendLies
import Derived.Test.YtdjnkcoepmackaaG4
import Derived.Test.YtdjnkcoepmackaaG6
/- l6Copy, l6All and ListVal of the model: copies in rows of their own. -/
namespace Go.Proofs.Ytdjnkcoepmackaa
open Go.RowKit
theorem ownBlock_slice (a : Option Addr) (n cap : Nat) : (Value.slice a n cap).ownBlock = a.map (·.block) := by cases a <;> rfl
/-- one more element at the end of a row of trees -/
theorem row_push {W w' : World} {K gg cap cap' : Nat} {a : Option Addr} {lr : List AT} {T : AT} (h0 : OwnL W K a cap lr) (hnd : ((a.map (·.block)).toList ++ AT.blksL lr).Nodup) (hT : T.Own W K) (hTn : T.blks.Nodup) (hdis : ∀ k ∈ T.blks, k ∉ (a.map (·.block)).toList ++ AT.blksL lr)
    (hown : w'.ownsRow K 28 5 (.slice (some ⟨gg, 0, none⟩) (lr.length + 1) cap') (lr.length + 1) (cellsL lr ++ T.cells)) (hgrow : W.grownBy w' (Value.slice a lr.length cap).ownBlock) (hat : (Value.slice a lr.length cap).ownBlock = some gg ∨ gg = W.heap.size) :
    OwnL w' K (some ⟨gg, 0, none⟩) cap' (lr ++ [T]) ∧ (gg :: AT.blksL (lr ++ [T])).Nodup := by
  rw [ownBlock_slice] at hgrow hat
  have hlt : ∀ k ∈ AT.blksL lr, k < W.heap.size := fun k hk => by
    obtain ⟨t, ht, hkt⟩ := AT.mem_blksL.1 hk
    exact ((h0.sub t ht).lt k hkt).2
  have hsub : ∀ t : AT, t.Own W K → (∀ k ∈ t.blks, k ∉ (a.map (·.block)).toList) → t.Own w' K := fun t ht hd => ht.kept fun k hk => hgrow.block k (ht.lt k hk).2 (fun e => hd k hk (by rw [← e]; simp))
  rw [List.nodup_append] at hnd
  have hrow : w'.ownsRow K 28 5 (.slice (some ⟨gg, 0, none⟩) (lr ++ [T]).length cap') (lr ++ [T]).length (cellsL (lr ++ [T])) := by
    rw [cellsL_append, cellsL_one, List.length_append, List.length_singleton]; exact hown
  refine ⟨⟨hrow, fun t ht => ?_⟩, ?_⟩
  · rcases List.mem_append.1 ht with ht | ht
    · exact hsub t (h0.sub t ht) (fun k hk hk2 => hnd.2.2 k hk2 k (AT.mem_blksL.2 ⟨t, ht, hk⟩) rfl)
    · obtain rfl : t = T := by simpa using ht
      exact hsub t hT (fun k hk hk2 => hdis k hk (by simp only [List.mem_append]; exact .inl hk2))
  · rw [AT.blksL_append, AT.blksL_one, List.nodup_cons, List.nodup_append]
    refine ⟨fun hm => ?_, hnd.2.1, hTn, fun x hx y hy e => hdis y hy (by rw [← e, List.mem_append]; exact .inr hx)⟩
    rcases hat with hat | hat
    · have hga : gg ∈ (a.map (·.block)).toList := by rw [hat]; simp
      rcases List.mem_append.1 hm with hm | hm
      · exact hnd.2.2 gg hga gg hm rfl
      · exact hdis gg hm (by simp only [List.mem_append]; exact .inl hga)
    · rcases List.mem_append.1 hm with hm | hm
      · have := hlt gg hm; omega
      · have := (hT.lt gg hm).2; omega
theorem OwnL.blw {w w' : World} {B : Nat} {a : Option Addr} {cap : Nat} {l : List AT} (h : OwnL w B a cap l) (hb : Below w.heap.size w w') : OwnL w' B a cap l :=
  (AT.Own.blw (T := .mk 0 0 0 [] a cap l) h.own hb).l
theorem OwnL.lt {w : World} {B : Nat} {a : Option Addr} {cap : Nat} {l : List AT} (h : OwnL w B a cap l) : ∀ k ∈ (a.map (·.block)).toList ++ AT.blksL l, B ≤ k ∧ k < w.heap.size :=
  AT.Own.lt (T := .mk 0 0 0 [] a cap l) h.own
theorem below_push {w2 W w3 : World} {row : Option Nat} {K : Nat} (hg : W.grownBy w3 row) (hr : ∀ k, row = some k → K ≤ k) (hb : Below w2.heap.size w2 W) (hK : K ≤ w2.heap.size) : Below K w2 w3 :=
  (hb.mono hK).trans ⟨hg.os, hg.tape, hg.output, hg.size, fun k hk => hg.block k (by have := hb.size; omega) (fun e => by have := hr k e.symm; omega)⟩
theorem frozen_blk' {w w' : World} {b o : Nat} (k : w'.heap[b]? = w.heap[b]?) : w'.frozen? ⟨b, o, none⟩ = w.frozen? ⟨b, o, none⟩ := by
  unfold World.frozen?; rw [k]
theorem AT.Own.setg' {w : World} {B g o : Nat} {u : Value} {T : AT} (h : T.Own w B) (hg : g ∉ T.blks) : T.Own (w.setCell ⟨g, o, none⟩ u) B := h.only ((Only.refl g w).setCell o u) hg
theorem emptyRow (w : World) (B : Nat) (hB : B ≤ w.heap.size) : OwnL (w.alloc (.cells #[] 28)) B (some ⟨w.heap.size, 0, none⟩) 0 [] :=
  ⟨⟨rfl, .inr ⟨w.heap.size, 0, #[], rfl, hB, heap_alloc_new w _, Nat.le_refl _, by unfold maxLen; omega, rfl, rfl⟩⟩, by simp⟩
theorem news_of_cells (W : World) (T : AT) : ∀ j u, T.cells[j]? = some u → (W.alloc (.cells #[.int .i64 T.k, .int .i64 T.n, .int .i64 T.x, .string ⟨T.s.toArray⟩, .slice T.a T.l.length T.cap] 28)).cell? ((⟨W.heap.size, 0, none⟩ : Addr).add j) = some u :=
  World.news_of_block (cs := #[.int .i64 T.k, .int .i64 T.n, .int .i64 T.x, .string ⟨T.s.toArray⟩, .slice T.a T.l.length T.cap]) (t := 28) (fr := (0, 0)) (heap_alloc_new W _)
theorem cells_one (T : AT) : ∀ u ∈ T.cells, u.oneCell' = true := by
  intro u hu
  simp only [AT.cells, List.mem_cons, List.not_mem_nil, or_false] at hu
  rcases hu with rfl | rfl | rfl | rfl | rfl <;> rfl
set_option maxHeartbeats 1000000 in
theorem l6All_of (l : List AT) (ih : ∀ t ∈ l, ∀ (w : World) (N : Nat), t.In w N → N ≤ w.heap.size → Calls Try.prog 70 #[t.val] w (FreshV w t.pt)) (hl : l.length ≤ 1048576) (w : World) (N : Nat) (a : Option Addr) (cap : Nat) (h : Lv w N a cap l) (hN : N ≤ w.heap.size) :
    Calls Try.prog 121 #[.slice a l.length cap] w (FreshL w (AT.ptL l)) := by
  obtain ⟨i0, hi, hz0, hz1, hz2⟩ := info_parts valInfo
  have H := Lib.hid h
  have IH := Lib.hid ih
  clear h ih
  go_enter Try.func121, Try.ntmps121
  go_wp2
  go_loopw [3, 4] (fun v i wr => ∃ (lr : List AT) (a' : Option Addr) (cap' : Nat), v = .slice a' lr.length cap' ∧ i = .int .i64 lr.length ∧ lr.length ≤ l.length ∧ AT.ptL lr = (AT.ptL l).take lr.length ∧ OwnL wr w.heap.size a' cap' lr ∧ ((a'.map (·.block)).toList ++ AT.blksL lr).Nodup ∧ Below w.heap.size w wr) (fun _ i _ => l.length - (intOf i).toNat)
  case atStart => exact ⟨[], _, _, rfl, rfl, Nat.zero_le _, by simp [AT.ptL], emptyRow w _ (Nat.le_refl _), by simp [AT.blksL], vbox _ _⟩
  case round =>
    obtain ⟨lr, a', cap', rfl, rfl, hlr, hpt, hown, hnd, hb⟩ := hrel
    have HO := Lib.hid hown
    have HB := Lib.hid hb
    have HD := Lib.hid hnd
    have HP := Lib.hid hpt
    clear hpt hnd hown
    by_cases hlt : lr.length < l.length
    · obtain ⟨b, o, rfl, hbN, hC⟩ := H.out.cell lr.length hlt
      have hC := hC.keep (hb.block b (by omega))
      have hc := fun w' hw => IH.out l[lr.length] (List.getElem_mem hlt) w' N ((H.out.sub _ (List.getElem_mem hlt)).blw hw hN)
      have HPt : Hid ((AT.ptL l).take (lr.length + 1) = (AT.ptL l).take lr.length ++ [(l[lr.length]).pt]) := Lib.hid (by
        rw [List.take_succ_eq_append_getElem (by simpa using hlt)]; simp [AT.ptL_eq])
      obtain ⟨T, hT⟩ : ∃ T, T = l[lr.length] := ⟨_, rfl⟩
      rw [← hT] at hC hc HPt
      clear hT
      obtain ⟨c0, c1, c2, c3, c4⟩ := hC
      have HC := Lib.hid hc
      clear hc
      go_wp2_with fail
      refine (HC.out wr hb (by have := hb.size; omega)).mono ?_
      rintro e w2 ⟨T', hT', rfl, hOT, hNT, hb2⟩
      have hO2 := (HO.out.blw hb2)
      have hdis : ∀ k ∈ T'.blks, k ∉ (a'.map (·.block)).toList ++ AT.blksL lr := fun k hk hk2 => by
        have h1 := (hOT.lt k hk).1
        have h2 := (HO.out.lt k hk2).2
        omega
      have HX := Lib.hid hT'
      have HOT := Lib.hid (hOT.base hb.size)
      have HNT := Lib.hid hNT
      have HB2 := Lib.hid (HB.out.trans (hb2.mono HB.out.size))
      have HO2 := Lib.hid hO2
      have HDI := Lib.hid hdis
      clear hT' hOT hNT hb2 hO2 hdis hb c0 c1 c2 c3 c4
      go_wp2_with (refine wpList_append_lies _ (by rfl) _ _ _ (by rfl) w.heap.size 28 i0 _ 5 64 Try.underlying26 hi hz0 hz1 hz2 rfl (by omega) _ lr.length _ (by rfl) (own_heap HO2.out.row (fun k hk => (((vbox w2 _).trans ((vbox _ _).mono (by simp))).block k (HO2.out.row.lt k hk).2))) ⟨w2.heap.size + 1, 0, none⟩ 1 1 T'.cells (by rfl) (by rfl) ?news (cells_one T') (by omega) (by unfold maxLen; omega) (by omega) (by have := HB2.out.size; simp; omega) (w2.heap.size + 2) (by simp) ?_)
      case news =>
        have := news_of_cells (w2.alloc (.cells #[.int .i64 T'.k, .int .i64 T'.n, .int .i64 T'.x, .string ⟨T'.s.toArray⟩, .slice T'.a T'.l.length T'.cap] 28)) T'
        simpa using this
      intro gg cap2 w3 hown3 hgrow hat hlt3
      have hbW : Below w2.heap.size w2 ((w2.alloc (.cells #[.int .i64 T'.k, .int .i64 T'.n, .int .i64 T'.x, .string ⟨T'.s.toArray⟩, .slice T'.a T'.l.length T'.cap] 28)).alloc (.cells #[.int .i64 T'.k, .int .i64 T'.n, .int .i64 T'.x, .string ⟨T'.s.toArray⟩, .slice T'.a T'.l.length T'.cap] 28)) := boxes2 w2 _ _
      obtain ⟨hnew, hnd3⟩ := row_push (HO2.out.blw hbW) HD.out (HOT.out.blw hbW) HNT.out HDI.out hown3 hgrow (by simpa using hat)
      have hb3 : Below w.heap.size w w3 := HB2.out.trans (below_push hgrow (fun k hk => (HO2.out.row.lt k hk).1) hbW HB2.out.size)
      have HNEW := Lib.hid hnew
      have HND3 := Lib.hid hnd3
      have HB3 := Lib.hid hb3
      have HPT : Hid (AT.ptL (lr ++ [T']) = (AT.ptL l).take (lr.length + 1)) := Lib.hid (by
        rw [AT.ptL_eq, List.map_append, ← AT.ptL_eq, HP.out, List.map_singleton, HX.out, HPt.out])
      clear hown3 hgrow hat hlt3 hbW hnew hnd3 hb3
      go_wp2
      go_roundw
      case rel => exact ⟨lr ++ [T'], some ⟨gg, 0, none⟩, cap2, by rw [List.length_append]; rfl, by rw [List.length_append]; go_num, by rw [List.length_append, List.length_singleton]; omega, by rw [List.length_append, List.length_singleton]; exact HPT.out, HNEW.out, HND3.out, HB3.out⟩
      case measure => simp [intOf]; omega
    · obtain heq : lr.length = l.length := by omega
      clear hb
      go_wp2
      go_ret
      exact ⟨a', cap', lr, by rw [HP.out, List.take_of_length_le (by simp; omega)], rfl, HO.out, HD.out, HB.out⟩
end Go.Proofs.Ytdjnkcoepmackaa
/- Draws of trees: names and leaves. -/
namespace Go.Proofs.Ytdjnkcoepmackaa
open Go.RowKit
set_option maxRecDepth 100000
def LeafPost (B : Nat) (w : World) (e : Ending) (w' : World) : Prop := ∃ (k n x : Int) (s : List UInt8), (isInt k ∧ isInt n ∧ isInt x ∧ s.length ≤ 1000) ∧ e = .returned (.agg #[.int .i64 k, .int .i64 n, .int .i64 x, .string ⟨s.toArray⟩, .slice none 0 0]) ∧ Only B w w' ∧ Cur w' B
theorem fltval_spec (w : World) (m e : Int) : Calls Try.prog 135 #[.agg #[.int .i64 m, .int .i64 e]] w fun r w' => r = .returned (.agg #[.int .i64 4, .int .i64 m, .int .i64 e, .string ⟨#[]⟩, .slice none 0 0]) ∧ Below w.heap.size w w' := by
  go_enter Try.func135, Try.ntmps135
  go_wp2
  exact bodyPost_ret (v := .agg #[.int .i64 4, .int .i64 m, .int .i64 e, .string ⟨#[]⟩, .slice none 0 0]) (by simp [results, Try.results135, go_sem]) rfl ⟨rfl, by first | exact two_l _ _ _ | exact vbox _ _⟩
/-- a zero box of a value -/
def ZB (w : World) (r : Nat) : Prop := w.heap[r]? = some (.cells #[.int .i64 0, .int .i64 0, .int .i64 0, .string ⟨#[]⟩, .slice none 0 0] 28)
theorem ZB.new (w : World) : ZB (w.alloc (.cells #[.int .i64 0, .int .i64 0, .int .i64 0, .string ⟨#[]⟩, .slice none 0 0] 28)) w.heap.size := heap_alloc_new w _
theorem ZB.lt {w : World} {r : Nat} (h : ZB w r) : r < w.heap.size := by
  have h2 : w.heap[r]? ≠ none := by rw [h]; simp
  by_cases hr : r < w.heap.size
  · exact hr
  · exact absurd (Array.getElem?_eq_none (by omega)) h2
theorem ZB.only {w w' : World} {r B : Nat} (h : ZB w r) (ho : Only B w w') (hr : r ≠ B) : ZB w' r := (ho.block r h.lt hr).trans h
theorem ZB.blw {w w' : World} {r : Nat} (h : ZB w r) (hb : Below w.heap.size w w') : ZB w' r := (hb.block r h.lt).trans h
theorem ZB.cells {w : World} {r : Nat} (h : ZB w r) : w.cell? ⟨r, 0, none⟩ = some (.int .i64 0) ∧ w.cell? ⟨r, 1, none⟩ = some (.int .i64 0) ∧ w.cell? ⟨r, 2, none⟩ = some (.int .i64 0) ∧ w.cell? ⟨r, 3, none⟩ = some (.string ⟨#[]⟩) ∧ w.cell? ⟨r, 4, none⟩ = some (.slice none 0 0) ∧ (∀ o, w.frozen? ⟨r, o, none⟩ = false) := by
  unfold ZB at h
  refine ⟨by simp [World.cell?, h], by simp [World.cell?, h], by simp [World.cell?, h], by simp [World.cell?, h], by simp [World.cell?, h], fun o => by simp [World.frozen?, h]⟩
theorem name_any (w : World) (B : Nat) (hC : Cur w B) : Calls Try.prog 99 #[.pointer (some ⟨B, 0, none⟩)] w (LeafPost B w) := by
  have hl := hC.lt
  have hz := ZB.new w
  go_enter Try.func99, Try.ntmps99
  go_wp2_with fail
  refine (once_any _ B 6 (hC.alloc _) (by decide)).mono ?_
  rintro r w1 ⟨b, rfl, ho1, hc1⟩
  have hz1 := hz.only ho1 (by omega)
  have HO1 := (Only.of_below (B := B) (vbox w _)).trans ho1
  clear ho1 hz
  have hl1 := hc1.lt
  cases b
  · have hd := str_lit w1 B [[97], [98], [99], [], [107, 101, 121], [195, 169]] 9 (fun l => l.length ≤ 1000) hc1 (by decide) (by decide) (by decide)
    go_wp2_with fail
    refine hd.mono ?_
    rintro r w2 ⟨l, hll, rfl, ho2, hc2⟩
    have hl2 := hc2.lt
    have hz2 := hz1.only ho2 (by omega)
    go_wp2_with fail
    refine (text_spec w2 ⟨l.toArray⟩).mono ?_
    rintro r w3 ⟨rfl, hb3⟩
    have hO := (HO1.trans ho2).then_below hb3 (HO1.trans ho2).size
    have hc3 := hc2.below hb3 hl2
    obtain ⟨q0, q1, q2, q3, q4, qf⟩ := (hz2.blw hb3).cells
    clear hd hz1 hz2 HO1 ho2 hb3 hc2
    go_wp2
    refine bodyPost_ret (v := .agg #[.int .i64 7, .int .i64 0, .int .i64 0, .string ⟨l.toArray⟩, .slice none 0 0]) (by simp [results, Try.results99, go_sem, q0, q1, q2, q3, q4]) rfl ⟨7, 0, 0, l, ⟨by unfold isInt; decide, by unfold isInt; decide, by unfold isInt; decide, hll⟩, rfl, ?_, ?_⟩
    · exact Only.setNew (Only.setNew (Only.setNew (Only.setNew (Only.setNew hO (by simp) _) (by simp) _) (by simp) _) (by simp) _) (by simp) _
    · exact Cur.setNew (Cur.setNew (Cur.setNew (Cur.setNew (Cur.setNew hc3 hl _) hl _) hl _) hl _) hl _
  · go_wp2_with fail
    refine (below_any _ B 4 hc1 (by decide)).mono ?_
    rintro r w2 ⟨x, ⟨hx0, hx1⟩, rfl, ho2, hc2⟩
    have hl2 := hc2.lt
    have hz2 := hz1.only ho2 (by omega)
    go_wp2_with fail
    refine (int_spec w2 x).mono ?_
    rintro r w3 ⟨rfl, hb3⟩
    have hO := (HO1.trans ho2).then_below hb3 (HO1.trans ho2).size
    have hc3 := hc2.below hb3 hl2
    obtain ⟨q0, q1, q2, q3, q4, qf⟩ := (hz2.blw hb3).cells
    clear hz1 hz2 HO1 ho2 hb3 hc2
    go_wp2
    refine bodyPost_ret (v := .agg #[.int .i64 3, .int .i64 x, .int .i64 0, .string ⟨#[]⟩, .slice none 0 0]) (by simp [results, Try.results99, go_sem, q0, q1, q2, q3, q4]) rfl ⟨3, x, 0, [], ⟨by unfold isInt; decide, by unfold isInt; omega, by unfold isInt; decide, by simp⟩, rfl, ?_, ?_⟩
    · exact Only.setNew (Only.setNew (Only.setNew (Only.setNew (Only.setNew hO (by simp) _) (by simp) _) (by simp) _) (by simp) _) (by simp) _
    · exact Cur.setNew (Cur.setNew (Cur.setNew (Cur.setNew (Cur.setNew hc3 hl _) hl _) hl _) hl _) hl _
theorem leaf_end {w W : World} {B : Nat} {k n x : Int} {s : List UInt8} (hO : Only B w W) (hC : Cur W B) (hl : B < w.heap.size) (hk : isInt k) (hn : isInt n) (hx : isInt x) (hs : s.length ≤ 1000) (u0 u1 u2 u3 u4 : Value) :
    LeafPost B w (.returned (.agg #[.int .i64 k, .int .i64 n, .int .i64 x, .string ⟨s.toArray⟩, .slice none 0 0])) (((((W.setCell ⟨w.heap.size, 0, none⟩ u0).setCell ⟨w.heap.size, 1, none⟩ u1).setCell ⟨w.heap.size, 2, none⟩ u2).setCell ⟨w.heap.size, 3, none⟩ u3).setCell ⟨w.heap.size, 4, none⟩ u4) := by
  refine ⟨k, n, x, s, ⟨hk, hn, hx, hs⟩, rfl, ?_, ?_⟩
  · exact Only.setNew (Only.setNew (Only.setNew (Only.setNew (Only.setNew hO (by simp) _) (by simp) _) (by simp) _) (by simp) _) (by simp) _
  · exact Cur.setNew (Cur.setNew (Cur.setNew (Cur.setNew (Cur.setNew hC hl _) hl _) hl _) hl _) hl _
set_option maxHeartbeats 4000000 in
theorem draw_zero (w : World) (B : Nat) (hC : Cur w B) : Calls Try.prog 89 #[.pointer (some ⟨B, 0, none⟩), .int .i64 0] w (LeafPost B w) := by
  have hl := hC.lt
  have hz := ZB.new w
  go_enter Try.func89, Try.ntmps89
  go_wp2_with fail
  refine (below_any _ B 13 (hC.alloc _) (by decide)).mono ?_
  rintro r w1 ⟨x, ⟨hx0, hx1⟩, rfl, ho1, hc1⟩
  have hz1 := hz.only ho1 (by omega)
  have HO1 := (Only.of_below (B := B) (vbox w _)).trans ho1
  clear ho1 hz hC
  go_wp2_with fail
  refine (below_any _ B 9 hc1 (by decide)).mono ?_
  rintro r w2 ⟨k, ⟨hk0, hk1⟩, rfl, ho2, hc2⟩
  have hz2 := hz1.only ho2 (by omega)
  have HO2 := HO1.trans ho2
  clear ho2 hz1 HO1 hc1
  have hl2 := hc2.lt
  have hkc : k = 0 ∨ k = 1 ∨ k = 2 ∨ k = 3 ∨ k = 4 ∨ k = 5 ∨ k = 6 ∨ k = 7 ∨ k = 8 := by omega
  rcases hkc with rfl | rfl | rfl | rfl | rfl | rfl | rfl | rfl | rfl
  · obtain ⟨q0, q1, q2, q3, q4, qf⟩ := (hz2).cells
    clear hz2
    go_wp2
    refine bodyPost_ret (v := .agg #[.int .i64 1, .int .i64 0, .int .i64 0, .string ⟨#[]⟩, .slice none 0 0]) (by simp [results, Try.results89, go_sem, q0, q1, q2, q3, q4]) rfl ?_
    exact leaf_end (k := 1) (n := 0) (x := 0) (s := []) HO2 hc2 hl (by unfold isInt; decide) (by unfold isInt; decide) (by unfold isInt; decide) (by simp) _ _ _ _ _
  · go_wp2_with fail
    refine (below_any _ B 2 hc2 (by decide)).mono ?_
    rintro r w3 ⟨y, ⟨hy0, hy1⟩, rfl, ho3, hc3⟩
    have HO3 := HO2.trans ho3
    obtain ⟨q0, q1, q2, q3, q4, qf⟩ := (hz2.only ho3 (by omega)).cells
    clear hz2 HO2 hc2 ho3
    go_wp2
    refine bodyPost_ret (v := .agg #[.int .i64 2, .int .i64 y, .int .i64 0, .string ⟨#[]⟩, .slice none 0 0]) (by simp [results, Try.results89, go_sem, q0, q1, q2, q3, q4]) rfl ?_
    exact leaf_end (k := 2) (n := y) (x := 0) (s := []) HO3 hc3 hl (by unfold isInt; decide) (by unfold isInt; omega) (by unfold isInt; decide) (by simp) _ _ _ _ _
  · go_wp2_with fail
    refine (signed_any _ B hc2).mono ?_
    rintro r w3 ⟨y, hy, rfl, ho3, hc3⟩
    have HO3 := HO2.trans ho3
    have hz3 := hz2.only ho3 (by omega)
    have hl3 := hc3.lt
    clear hz2 HO2 hc2 ho3
    go_wp2_with fail
    refine (int_spec _ y).mono ?_
    rintro r w4 ⟨rfl, hb4⟩
    have HO4 := HO3.then_below hb4 HO3.size
    have hc4 := hc3.below hb4 hl3
    obtain ⟨q0, q1, q2, q3, q4, qf⟩ := (hz3.blw hb4).cells
    clear hz3 HO3 hc3 hb4
    go_wp2
    refine bodyPost_ret (v := .agg #[.int .i64 3, .int .i64 y, .int .i64 0, .string ⟨#[]⟩, .slice none 0 0]) (by simp [results, Try.results89, go_sem, q0, q1, q2, q3, q4]) rfl ?_
    exact leaf_end (k := 3) (n := y) (x := 0) (s := []) HO4 hc4 hl (by unfold isInt; decide) (by unfold isSgn at hy; unfold isInt; omega) (by unfold isInt; decide) (by simp) _ _ _ _ _
  · go_wp2_with fail
    refine (signed_any _ B hc2).mono ?_
    rintro r w3 ⟨y, hy, rfl, ho3, hc3⟩
    have HO3 := HO2.trans ho3
    have hz3 := hz2.only ho3 (by omega)
    have hl3 := hc3.lt
    clear hz2 HO2 hc2 ho3
    go_wp2_with fail
    refine (int_spec _ y).mono ?_
    rintro r w4 ⟨rfl, hb4⟩
    have HO4 := HO3.then_below hb4 HO3.size
    have hc4 := hc3.below hb4 hl3
    obtain ⟨q0, q1, q2, q3, q4, qf⟩ := (hz3.blw hb4).cells
    clear hz3 HO3 hc3 hb4
    go_wp2
    refine bodyPost_ret (v := .agg #[.int .i64 3, .int .i64 y, .int .i64 0, .string ⟨#[]⟩, .slice none 0 0]) (by simp [results, Try.results89, go_sem, q0, q1, q2, q3, q4]) rfl ?_
    exact leaf_end (k := 3) (n := y) (x := 0) (s := []) HO4 hc4 hl (by unfold isInt; decide) (by unfold isSgn at hy; unfold isInt; omega) (by unfold isInt; decide) (by simp) _ _ _ _ _
  · go_wp2_with fail
    refine (l5draw_any _ B hc2).mono ?_
    rintro r w3 ⟨m, y, hy, rfl, ho3, hc3⟩
    have HO3 := HO2.trans ho3
    have hz3 := hz2.only ho3 (by omega)
    have hl3 := hc3.lt
    clear hz2 HO2 hc2 ho3
    go_wp2_with fail
    refine (fltval_spec _ m y).mono ?_
    rintro r w4 ⟨rfl, hb4⟩
    have HO4 := HO3.then_below hb4 HO3.size
    have hc4 := hc3.below hb4 hl3
    obtain ⟨q0, q1, q2, q3, q4, qf⟩ := (hz3.blw hb4).cells
    clear hz3 HO3 hc3 hb4
    go_wp2
    refine bodyPost_ret (v := .agg #[.int .i64 4, .int .i64 m, .int .i64 y, .string ⟨#[]⟩, .slice none 0 0]) (by simp [results, Try.results89, go_sem, q0, q1, q2, q3, q4]) rfl ?_
    exact leaf_end (k := 4) (n := m) (x := y) (s := []) HO4 hc4 hl (by unfold isInt; decide) (by unfold AnyFlt at hy; unfold isInt; omega) (by unfold AnyFlt at hy; unfold isInt; omega) (by simp) _ _ _ _ _
  · go_wp2_with fail
    refine (below_any _ B 3 hc2 (by decide)).mono ?_
    rintro r w3 ⟨y, ⟨hy0, hy1⟩, rfl, ho3, hc3⟩
    have HO3 := HO2.trans ho3
    obtain ⟨q0, q1, q2, q3, q4, qf⟩ := (hz2.only ho3 (by omega)).cells
    clear hz2 HO2 hc2 ho3
    go_wp2
    refine bodyPost_ret (v := .agg #[.int .i64 5, .int .i64 y, .int .i64 0, .string ⟨#[]⟩, .slice none 0 0]) (by simp [results, Try.results89, go_sem, q0, q1, q2, q3, q4]) rfl ?_
    exact leaf_end (k := 5) (n := y) (x := 0) (s := []) HO3 hc3 hl (by unfold isInt; decide) (by unfold isInt; omega) (by unfold isInt; decide) (by simp) _ _ _ _ _
  · go_wp2_with fail
    refine (l5dec_any _ B hc2).mono ?_
    rintro r w3 ⟨m, x2, hy, rfl, ho3, hc3⟩
    have hy2 := (any_of hy.2).2
    have HO3 := HO2.trans ho3
    have hz3 := hz2.only ho3 (by omega)
    have hl3 := hc3.lt
    clear hz2 HO2 hc2 ho3
    go_wp2_with fail
    refine (num_spec _ m x2).mono ?_
    rintro r w4 ⟨rfl, hb4⟩
    have HO4 := HO3.then_below hb4 HO3.size
    have hc4 := hc3.below hb4 hl3
    obtain ⟨q0, q1, q2, q3, q4, qf⟩ := (hz3.blw hb4).cells
    clear hz3 HO3 hc3 hb4
    go_wp2
    refine bodyPost_ret (v := .agg #[.int .i64 (numK x2), .int .i64 m, .int .i64 x2, .string ⟨#[]⟩, .slice none 0 0]) (by simp [results, Try.results89, go_sem, q0, q1, q2, q3, q4]) rfl ?_
    exact leaf_end (k := (numK x2)) (n := m) (x := x2) (s := []) HO4 hc4 hl (by unfold isInt; unfold numK; split <;> decide) hy.1 (by unfold isInt; omega) (by simp) _ _ _ _ _
  · go_wp2_with fail
    refine (text_any _ B hc2).mono ?_
    rintro r w3 ⟨y, hy, rfl, ho3, hc3⟩
    have HO3 := HO2.trans ho3
    have hz3 := hz2.only ho3 (by omega)
    have hl3 := hc3.lt
    clear hz2 HO2 hc2 ho3
    go_wp2_with fail
    refine (text_spec _ ⟨y.toArray⟩).mono ?_
    rintro r w4 ⟨rfl, hb4⟩
    have HO4 := HO3.then_below hb4 HO3.size
    have hc4 := hc3.below hb4 hl3
    obtain ⟨q0, q1, q2, q3, q4, qf⟩ := (hz3.blw hb4).cells
    clear hz3 HO3 hc3 hb4
    go_wp2
    refine bodyPost_ret (v := .agg #[.int .i64 7, .int .i64 0, .int .i64 0, .string ⟨y.toArray⟩, .slice none 0 0]) (by simp [results, Try.results89, go_sem, q0, q1, q2, q3, q4]) rfl ?_
    exact leaf_end (k := 7) (n := 0) (x := 0) (s := y) HO4 hc4 hl (by unfold isInt; decide) (by unfold isInt; decide) (by unfold isInt; decide) hy _ _ _ _ _
  · go_wp2_with fail
    refine (below_any _ B 4 hc2 (by decide)).mono ?_
    rintro r w3 ⟨y, ⟨hy0, hy1⟩, rfl, ho3, hc3⟩
    have HO3 := HO2.trans ho3
    have hz3 := hz2.only ho3 (by omega)
    clear hz2 HO2 hc2 ho3
    obtain ⟨y, rfl⟩ : ∃ q : Nat, y = q := ⟨y.toNat, by omega⟩
    go_wp2_with fail
    refine (bytes_any _ B y hc3 (by omega)).mono ?_
    rintro r w4 ⟨v, l, hll, rfl, hne, hown, ho4, hc4⟩
    have hcv := conv_str w4 _ _ (own_slc hown)
    have HO4 := HO3.trans ho4
    have hll2 : l.length ≤ 1000 := by have : l.length ≤ y := hll; omega
    have HLL := Lib.hid hll2
    generalize hsq : (ByteArray.mk l.toArray) = sq at hcv
    have HS := Lib.hid hsq
    obtain ⟨q0, q1, q2, q3, q4, qf⟩ := (hz3.only ho4 (by omega)).cells
    clear hz3 HO3 hc3 ho4 hne hown hll hsq hll2
    go_wp2
    refine bodyPost_ret (v := .agg #[.int .i64 8, .int .i64 0, .int .i64 0, .string sq, .slice none 0 0]) (by simp [results, Try.results89, go_sem, q0, q1, q2, q3, q4]) rfl ?_
    rw [← HS.out]
    exact leaf_end (k := 8) (n := 0) (x := 0) (s := l) HO4 hc4 hl (by unfold isInt; decide) (by unfold isInt; decide) (by unfold isInt; decide) HLL.out _ _ _ _ _
end Go.Proofs.Ytdjnkcoepmackaa
/- Draws of trees. -/
namespace Go.Proofs.Ytdjnkcoepmackaa
open Go.RowKit
set_option maxRecDepth 100000
def TreePost (B N : Nat) (w : World) (e : Ending) (w' : World) : Prop := ∃ T : AT, e = .returned T.val ∧ T.Own w' w.heap.size ∧ T.blks.Nodup ∧ (T.pt.Wf ∧ T.pt.sz ≤ N) ∧ Only B w w' ∧ Cur w' B
theorem leaf_own (w : World) (B : Nat) (k n x : Int) (s : List UInt8) : (AT.mk k n x s none 0 []).Own w B :=
  AT.leaf_own w B k n x s
theorem LeafPost.tree {B N : Nat} {w w' : World} {e : Ending} (h : LeafPost B w e w') (hN : 1000 ≤ N) : TreePost B N w e w' := by
  obtain ⟨k, n, x, s, ⟨hk, hn, hx, hs⟩, rfl, ho, hc⟩ := h
  exact ⟨.mk k n x s none 0 [], rfl, leaf_own w' _ k n x s, by simp [AT.blks, AT.blksL], ⟨.mk hk hn hx (by omega) (by simp [AT.ptL]) (by simp [AT.ptL]), by simp [AT.pt, PT.sz, PT.szL, AT.ptL]; omega⟩, ho, hc⟩
end Go.Proofs.Ytdjnkcoepmackaa
/- What stays of boxes while nothing elder turns; what a look-up hands on. -/
namespace Go.Proofs.Ytdjnkcoepmackaa
open Go.RowKit
set_option maxRecDepth 100000
theorem CellsAt.blw {w w' : World} {b o : Nat} {T : AT} (h : CellsAt w b o T) (hb : Below w.heap.size w w') : CellsAt w' b o T := ⟨keep_below hb h.c0, keep_below hb h.c1, keep_below hb h.c2, keep_below hb h.c3, keep_below hb h.c4⟩
/-- nothing elder has turned -/
structure Rl (W0 W : World) : Prop where
  b : Below W0.heap.size W0 W
  z : W0.heap.size ≤ W.heap.size
theorem Rl.refl (W0 : World) : Rl W0 W0 := ⟨Below.refl _ _, Nat.le_refl _⟩
theorem Rl.drew {W0 W : World} (h : Rl W0 W) : Rl W0 W.drew := ⟨h.b.drew, h.z⟩
theorem Rl.alloc {W0 W : World} (h : Rl W0 W) (o : Obj) : Rl W0 (W.alloc o) := ⟨h.b.alloc h.z o, by have := h.z; simp; omega⟩
theorem Rl.set {W0 W : World} (h : Rl W0 W) {B o : Nat} (hB : W0.heap.size ≤ B) (u : Value) : Rl W0 (W.setCell ⟨B, o, none⟩ u) := ⟨h.b.setCell (p := ⟨B, o, none⟩) hB u, by have := h.z; simpa [World.setCell] using this⟩
theorem Rl.below {W0 W W' : World} (h : Rl W0 W) (hb : Below W.heap.size W W') : Rl W0 W' := ⟨h.b.trans (hb.mono h.z), Nat.le_trans h.z hb.size⟩
theorem CellsAt.blw0 {w w' : World} {b o : Nat} {T : AT} (h : CellsAt w b o T) (hb : Rl w w') : CellsAt w' b o T := h.blw hb.b
/-- a box of a value -/
structure VC (w : World) (b : Nat) (k n x : Int) (s : ByteArray) (a : Option Addr) (len cap : Nat) : Prop where
  c0 : w.cell? ⟨b, 0, none⟩ = some (.int .i64 k)
  c1 : w.cell? ⟨b, 1, none⟩ = some (.int .i64 n)
  c2 : w.cell? ⟨b, 2, none⟩ = some (.int .i64 x)
  c3 : w.cell? ⟨b, 3, none⟩ = some (.string s)
  c4 : w.cell? ⟨b, 4, none⟩ = some (.slice a len cap)
theorem VC.blw {w w' : World} {b : Nat} {k n x : Int} {s : ByteArray} {a : Option Addr} {len cap : Nat} (h : VC w b k n x s a len cap) (hb : Below w.heap.size w w') : VC w' b k n x s a len cap := ⟨keep_below hb h.c0, keep_below hb h.c1, keep_below hb h.c2, keep_below hb h.c3, keep_below hb h.c4⟩
theorem vcbox (w : World) (k n x : Int) (s : ByteArray) (a : Option Addr) (len cap : Nat) (k2 n2 x2 : Int) (s2 : ByteArray) (a2 : Option Addr) (len2 cap2 : Nat) (t : TypeId) : VC ((w.alloc (.cells #[.int .i64 k, .int .i64 n, .int .i64 x, .string s, .slice a len cap] t)).alloc (.cells #[.int .i64 k2, .int .i64 n2, .int .i64 x2, .string s2, .slice a2 len2 cap2] t)) w.heap.size k n x s a len cap ∧ VC ((w.alloc (.cells #[.int .i64 k, .int .i64 n, .int .i64 x, .string s, .slice a len cap] t)).alloc (.cells #[.int .i64 k2, .int .i64 n2, .int .i64 x2, .string s2, .slice a2 len2 cap2] t)) (w.heap.size + 1) k2 n2 x2 s2 a2 len2 cap2 := by
  refine ⟨⟨?_, ?_, ?_, ?_, ?_⟩, ⟨?_, ?_, ?_, ?_, ?_⟩⟩ <;> simp [go_sem]
theorem len_le_sz (T : AT) : T.l.length ≤ T.pt.sz := by obtain ⟨k, n, x, s, a, cap, l⟩ := T; simp [AT.pt, PT.sz, AT.l]; omega
def zeroPT : PT := .mk 0 0 0 [] []
/-- what Lookup hands on -/
def LookPost (w : World) (r : PT × Bool) (e : Ending) (w' : World) : Prop := ∃ X : AT, X.pt = r.1 ∧ e = .returned (.tuple #[X.val, .bool r.2]) ∧ X.Own w' w.heap.size ∧ X.blks.Nodup ∧ Below w.heap.size w w'
def zeroAT : AT := .mk 0 0 0 [] none 0 []
theorem zeroAT_pt : zeroAT.pt = zeroPT := by simp [zeroAT, zeroPT, AT.pt, AT.ptL]
theorem zbox_cells {w W : World} {z : Nat} (hz : VC w z 0 0 0 ⟨#[]⟩ none 0 0) (hf : ∀ o, w.frozen? ⟨z, o, none⟩ = false) (hb : Below w.heap.size w W) : VC W z 0 0 0 ⟨#[]⟩ none 0 0 ∧ ∀ o, W.frozen? ⟨z, o, none⟩ = false :=
  ⟨hz.blw hb, fun o => by rw [frozen_blk' (hb.block z (cell_lt hz.c0))]; exact hf o⟩
theorem Rl.five {W0 W : World} {B : Nat} {v0 v1 v2 v3 v4 : Value} (h : Rl W0 W) (hB : W0.heap.size ≤ B) : Rl W0 (((((W.setCell ⟨B, 0, none⟩ v0).setCell ⟨B, 1, none⟩ v1).setCell ⟨B, 2, none⟩ v2).setCell ⟨B, 3, none⟩ v3).setCell ⟨B, 4, none⟩ v4) := ((((h.set hB v0).set hB v1).set hB v2).set hB v3).set hB v4
theorem leaf_early {W0 W : World} {B N : Nat} {G : AT} (hR : Rl W0 W) (hB : W0.heap.size ≤ B) (hN : W0.heap.size ≤ N) (hBN : B < N) (hO : G.Own W N) (hnd : G.blks.Nodup) (z0 : W.cell? ⟨B, 0, none⟩ = some (.int .i64 0)) (z1 : W.cell? ⟨B, 1, none⟩ = some (.int .i64 0)) (z2 : W.cell? ⟨B, 2, none⟩ = some (.int .i64 0)) (z3 : W.cell? ⟨B, 3, none⟩ = some (.string ⟨#[]⟩)) (z4 : W.cell? ⟨B, 4, none⟩ = some (.slice none 0 0)) :
    G.Own (((((W.setCell ⟨B, 0, none⟩ (.int .i64 G.k)).setCell ⟨B, 1, none⟩ (.int .i64 G.n)).setCell ⟨B, 2, none⟩ (.int .i64 G.x)).setCell ⟨B, 3, none⟩ (.string ⟨G.s.toArray⟩)).setCell ⟨B, 4, none⟩ (.slice G.a G.l.length G.cap)) W0.heap.size ∧ G.blks.Nodup ∧ B ∉ G.blks ∧ W0.heap.size ≤ B ∧ Rl W0 (((((W.setCell ⟨B, 0, none⟩ (.int .i64 G.k)).setCell ⟨B, 1, none⟩ (.int .i64 G.n)).setCell ⟨B, 2, none⟩ (.int .i64 G.x)).setCell ⟨B, 3, none⟩ (.string ⟨G.s.toArray⟩)).setCell ⟨B, 4, none⟩ (.slice G.a G.l.length G.cap)) ∧ (((((W.setCell ⟨B, 0, none⟩ (.int .i64 G.k)).setCell ⟨B, 1, none⟩ (.int .i64 G.n)).setCell ⟨B, 2, none⟩ (.int .i64 G.x)).setCell ⟨B, 3, none⟩ (.string ⟨G.s.toArray⟩)).setCell ⟨B, 4, none⟩ (.slice G.a G.l.length G.cap)).cell? ⟨B, 0, none⟩ = some (.int .i64 G.k) ∧ (((((W.setCell ⟨B, 0, none⟩ (.int .i64 G.k)).setCell ⟨B, 1, none⟩ (.int .i64 G.n)).setCell ⟨B, 2, none⟩ (.int .i64 G.x)).setCell ⟨B, 3, none⟩ (.string ⟨G.s.toArray⟩)).setCell ⟨B, 4, none⟩ (.slice G.a G.l.length G.cap)).cell? ⟨B, 1, none⟩ = some (.int .i64 G.n) ∧ (((((W.setCell ⟨B, 0, none⟩ (.int .i64 G.k)).setCell ⟨B, 1, none⟩ (.int .i64 G.n)).setCell ⟨B, 2, none⟩ (.int .i64 G.x)).setCell ⟨B, 3, none⟩ (.string ⟨G.s.toArray⟩)).setCell ⟨B, 4, none⟩ (.slice G.a G.l.length G.cap)).cell? ⟨B, 2, none⟩ = some (.int .i64 G.x) ∧ (((((W.setCell ⟨B, 0, none⟩ (.int .i64 G.k)).setCell ⟨B, 1, none⟩ (.int .i64 G.n)).setCell ⟨B, 2, none⟩ (.int .i64 G.x)).setCell ⟨B, 3, none⟩ (.string ⟨G.s.toArray⟩)).setCell ⟨B, 4, none⟩ (.slice G.a G.l.length G.cap)).cell? ⟨B, 3, none⟩ = some (.string ⟨G.s.toArray⟩) ∧ (((((W.setCell ⟨B, 0, none⟩ (.int .i64 G.k)).setCell ⟨B, 1, none⟩ (.int .i64 G.n)).setCell ⟨B, 2, none⟩ (.int .i64 G.x)).setCell ⟨B, 3, none⟩ (.string ⟨G.s.toArray⟩)).setCell ⟨B, 4, none⟩ (.slice G.a G.l.length G.cap)).cell? ⟨B, 4, none⟩ = some (.slice G.a G.l.length G.cap) := by
  refine ⟨(AT.Own.set (AT.Own.set (AT.Own.set (AT.Own.set (AT.Own.set hO hBN) hBN) hBN) hBN) hBN).base hN, hnd, fun hm => by have := (hO.lt B hm).1; omega, hB, hR.five hB, ?_, ?_, ?_, ?_, ?_⟩ <;> simp [go_sem, z0, z1, z2, z3, z4]
theorem leaf_last {W0 W : World} {N : Nat} {G : AT} {ty : TypeId} (hR : Rl W0 W) (hN : W0.heap.size ≤ N) (hO : G.Own W N) (hnd : G.blks.Nodup) :
    G.Own (W.alloc (.cells #[.int .i64 G.k, .int .i64 G.n, .int .i64 G.x, .string ⟨G.s.toArray⟩, .slice G.a G.l.length G.cap] ty)) W0.heap.size ∧ G.blks.Nodup ∧ W.heap.size ∉ G.blks ∧ W0.heap.size ≤ W.heap.size ∧ Rl W0 (W.alloc (.cells #[.int .i64 G.k, .int .i64 G.n, .int .i64 G.x, .string ⟨G.s.toArray⟩, .slice G.a G.l.length G.cap] ty)) ∧ (W.alloc (.cells #[.int .i64 G.k, .int .i64 G.n, .int .i64 G.x, .string ⟨G.s.toArray⟩, .slice G.a G.l.length G.cap] ty)).cell? ⟨W.heap.size, 0, none⟩ = some (.int .i64 G.k) ∧ (W.alloc (.cells #[.int .i64 G.k, .int .i64 G.n, .int .i64 G.x, .string ⟨G.s.toArray⟩, .slice G.a G.l.length G.cap] ty)).cell? ⟨W.heap.size, 1, none⟩ = some (.int .i64 G.n) ∧ (W.alloc (.cells #[.int .i64 G.k, .int .i64 G.n, .int .i64 G.x, .string ⟨G.s.toArray⟩, .slice G.a G.l.length G.cap] ty)).cell? ⟨W.heap.size, 2, none⟩ = some (.int .i64 G.x) ∧ (W.alloc (.cells #[.int .i64 G.k, .int .i64 G.n, .int .i64 G.x, .string ⟨G.s.toArray⟩, .slice G.a G.l.length G.cap] ty)).cell? ⟨W.heap.size, 3, none⟩ = some (.string ⟨G.s.toArray⟩) ∧ (W.alloc (.cells #[.int .i64 G.k, .int .i64 G.n, .int .i64 G.x, .string ⟨G.s.toArray⟩, .slice G.a G.l.length G.cap] ty)).cell? ⟨W.heap.size, 4, none⟩ = some (.slice G.a G.l.length G.cap) :=
  ⟨(hO.blw (vbox W _)).base hN, hnd, fun hm => by have := (hO.lt _ hm).2; omega, hR.z, hR.alloc _, vcells5 W G ty⟩
theorem keep_alloc {w : World} {o : Obj} {p : Addr} {v : Value} (h : w.cell? p = some v) : (w.alloc o).cell? p = some v := keep_below (vbox w o) h
theorem below_alloc' {w0 w : World} {o : Obj} (h : Below w0.heap.size w0 w) : Below w0.heap.size w0 (w.alloc o) := h.alloc h.size o
theorem own_alloc {w : World} {o : Obj} {B : Nat} {T : AT} (h : T.Own w B) : T.Own (w.alloc o) B := h.blw (vbox w o)
theorem mbox {w w' : World} {ty : TypeId} (hb : Below (w.alloc (.cells #[.int .i64 0, .int .i64 0, .int .i64 0, .string ⟨#[]⟩, .slice none 0 0] ty)).heap.size (w.alloc (.cells #[.int .i64 0, .int .i64 0, .int .i64 0, .string ⟨#[]⟩, .slice none 0 0] ty)) w') : w'.cell? ⟨w.heap.size, 0, none⟩ = some (.int .i64 0) ∧ w'.cell? ⟨w.heap.size, 1, none⟩ = some (.int .i64 0) ∧ w'.cell? ⟨w.heap.size, 2, none⟩ = some (.int .i64 0) ∧ w'.cell? ⟨w.heap.size, 3, none⟩ = some (.string ⟨#[]⟩) ∧ w'.cell? ⟨w.heap.size, 4, none⟩ = some (.slice none 0 0) ∧ ∀ o, w'.frozen? ⟨w.heap.size, o, none⟩ = false := by
  refine ⟨?_, ?_, ?_, ?_, ?_, fun o => (hb.frozen (by simp)).trans (by simp [go_sem])⟩ <;> exact (hb.cell (by simp)).trans (by simp [go_sem])
theorem mboxD {w w' : World} {ty : TypeId} (hb : Below (w.alloc (.cells #[.int .i64 0, .int .i64 0, .int .i64 0, .string ⟨#[]⟩, .slice none 0 0] ty)).drew.heap.size (w.alloc (.cells #[.int .i64 0, .int .i64 0, .int .i64 0, .string ⟨#[]⟩, .slice none 0 0] ty)).drew w') : w'.cell? ⟨w.heap.size, 0, none⟩ = some (.int .i64 0) ∧ w'.cell? ⟨w.heap.size, 1, none⟩ = some (.int .i64 0) ∧ w'.cell? ⟨w.heap.size, 2, none⟩ = some (.int .i64 0) ∧ w'.cell? ⟨w.heap.size, 3, none⟩ = some (.string ⟨#[]⟩) ∧ w'.cell? ⟨w.heap.size, 4, none⟩ = some (.slice none 0 0) ∧ ∀ o, w'.frozen? ⟨w.heap.size, o, none⟩ = false := by
  refine ⟨?_, ?_, ?_, ?_, ?_, fun o => (hb.frozen (by simp)).trans (by simp [go_sem])⟩ <;> exact (hb.cell (by simp)).trans (by simp [go_sem])
theorem mboxK {w w' : World} {B : Nat} (hb : Below w.heap.size w w') (z0 : w.cell? ⟨B, 0, none⟩ = some (.int .i64 0)) (z1 : w.cell? ⟨B, 1, none⟩ = some (.int .i64 0)) (z2 : w.cell? ⟨B, 2, none⟩ = some (.int .i64 0)) (z3 : w.cell? ⟨B, 3, none⟩ = some (.string ⟨#[]⟩)) (z4 : w.cell? ⟨B, 4, none⟩ = some (.slice none 0 0)) (zf : ∀ o, w.frozen? ⟨B, o, none⟩ = false) : w'.cell? ⟨B, 0, none⟩ = some (.int .i64 0) ∧ w'.cell? ⟨B, 1, none⟩ = some (.int .i64 0) ∧ w'.cell? ⟨B, 2, none⟩ = some (.int .i64 0) ∧ w'.cell? ⟨B, 3, none⟩ = some (.string ⟨#[]⟩) ∧ w'.cell? ⟨B, 4, none⟩ = some (.slice none 0 0) ∧ ∀ o, w'.frozen? ⟨B, o, none⟩ = false :=
  ⟨keep_below hb z0, keep_below hb z1, keep_below hb z2, keep_below hb z3, keep_below hb z4, fun o => (hb.frozen (p := ⟨B, o, none⟩) (show B < w.heap.size from cell_lt z0)).trans (zf o)⟩
theorem keep_allocD {w : World} {o : Obj} {p : Addr} {v : Value} (h : w.cell? p = some v) : (w.alloc o).drew.cell? p = some v := keep_alloc h
theorem below_allocD {w0 w : World} {o : Obj} (h : Below w0.heap.size w0 w) : Below w0.heap.size w0 (w.alloc o).drew := (below_alloc' h).drew
end Go.Proofs.Ytdjnkcoepmackaa
