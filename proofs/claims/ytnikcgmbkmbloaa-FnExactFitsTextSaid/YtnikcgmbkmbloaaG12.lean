import Derived.Test.YtnikcgmbkmbloaaG8
import Derived.Test.YtnikcgmbkmbloaaG11
import Derived.Test.YtnikcgmbkmbloaaG1
import Derived.Deep.AppendLies
import Derived.Deep.RegionHeld3
import Derived.Test.YtnikcgmbkmbloaaG6
/- The names of a map: plain, NamesOf of the model, namesIn of the program. -/
namespace Go.Proofs.Ytnikcgmbkmbloaa
open Go.RowKit
set_option maxRecDepth 100000
def evens {α : Type} : List α → List α
  | [] => []
  | [x] => [x]
  | x :: _ :: l => x :: evens l
theorem evens_length {α : Type} (l : List α) : (evens l).length = (l.length + 1) / 2 := by
  induction l using evens.induct with
  | case1 => simp [evens]
  | case2 => simp [evens]
  | case3 x y l ih => simp only [evens, List.length_cons, ih]; omega
theorem evens_get {α : Type} (l : List α) (j : Nat) (hj : 2 * j < l.length) : (evens l)[j]? = some l[2 * j] := by
  induction l using evens.induct generalizing j with
  | case1 => simp at hj
  | case2 x =>
    obtain rfl : j = 0 := by simp at hj; omega
    simp [evens]
  | case3 x y l ih =>
    cases j with
    | zero => simp [evens]
    | succ j =>
      simp only [evens, List.getElem?_cons_succ]
      rw [ih j (by simp at hj; omega)]
      simp only [Nat.mul_add, Nat.mul_one, List.getElem_cons_succ]
theorem evens_map {α β : Type} (f : α → β) (l : List α) : (evens l).map f = evens (l.map f) := by
  induction l using evens.induct with
  | case1 => simp [evens]
  | case2 => simp [evens]
  | case3 x y l ih => simp only [evens, List.map_cons, ih]
theorem evens_mem {α : Type} {l : List α} {x : α} (h : x ∈ evens l) : x ∈ l := by
  induction l using evens.induct with
  | case1 => cases h
  | case2 => exact h
  | case3 y z l ih =>
    simp only [evens, List.mem_cons] at h ⊢
    rcases h with h | h
    · exact .inl h
    · exact .inr (.inr (ih h))
def PT.names : PT → List PT
  | .mk k _ _ _ l => if k = 10 then evens l else []
def AT.names (T : AT) : List AT := if T.k = 10 then evens T.l else []
theorem names_pt (T : AT) : AT.ptL T.names = T.pt.names := by
  obtain ⟨k, n, x, s, a, cap, l⟩ := T
  show AT.ptL (if k = 10 then evens l else []) = if k = 10 then evens (AT.ptL l) else []
  by_cases h : k = 10
  · rw [if_pos h, if_pos h, AT.ptL_eq, AT.ptL_eq, evens_map]
  · rw [if_neg h, if_neg h]; simp [AT.ptL]
theorem names_mem {T t : AT} (h : t ∈ T.names) : t ∈ T.l := by
  unfold AT.names at h
  split at h
  · exact evens_mem h
  · cases h
theorem evens_take {l : List AT} {j : Nat} (hj : 2 * j < l.length) : (evens l).take (j + 1) = (evens l).take j ++ [l[2 * j]] := by
  have hl : j < (evens l).length := by rw [evens_length]; omega
  rw [List.take_succ_eq_append_getElem hl]
  congr 2
  have := evens_get l j hj
  rw [List.getElem?_eq_getElem hl] at this
  simpa using this
set_option maxHeartbeats 2000000 in
theorem names_spec (T : AT) (w : World) (N : Nat) (hin : T.In w N) (hsz : T.pt.sz ≤ 1048576) (hN : N ≤ w.heap.size) : Calls Try.prog 20 #[T.val] w (FreshL w T.pt.names) := by
  obtain ⟨i0, hi, hz0, hz1, hz2⟩ := info_parts valInfo
  have hcp : ∀ t ∈ T.l, t.pt.sz ≤ 1048576 := fun t ht => by
    have h1 := szL_ge ht
    have h2 : PT.szL (AT.ptL T.l) ≤ T.pt.sz := by obtain ⟨k, n, x, s, a, cap, l⟩ := T; simp [AT.pt, PT.sz, AT.l]; omega
    omega
  have hll : T.l.length ≤ 1048576 := by
    have h2 : T.l.length ≤ T.pt.sz := by obtain ⟨k, n, x, s, a, cap, l⟩ := T; simp [AT.pt, PT.sz, AT.l]; omega
    omega
  have HCP := Lib.hid (fun (t : AT) (ht : t ∈ T.l) (w1 : World) (hb : Below w.heap.size w w1) => l6Copy_any t (hcp t ht) w1 N ((hin.lv'.sub t ht).blw hb hN) (Nat.le_trans hN hb.size))
  have H := Lib.hid hin.lv'
  have hnm := names_pt T
  obtain ⟨p, hp⟩ : ∃ p, p = T.pt.names := ⟨_, rfl⟩
  rw [← hp] at hnm ⊢
  clear hin hsz hcp hp
  obtain ⟨k, n, x, s, a, cap, l⟩ := T
  simp only [AT.l, AT.a, AT.cap] at H HCP hll
  show Calls Try.prog 20 #[.agg #[.int .i64 k, .int .i64 n, .int .i64 x, .string ⟨s.toArray⟩, .slice a l.length cap]] w _
  have hvb : VC (w.alloc (.cells #[.int .i64 k, .int .i64 n, .int .i64 x, .string ⟨s.toArray⟩, .slice a l.length cap] 26)) w.heap.size k n x ⟨s.toArray⟩ a l.length cap := by refine ⟨?_, ?_, ?_, ?_, ?_⟩ <;> simp [go_sem]
  have hB0 := vbox w (.cells #[.int .i64 k, .int .i64 n, .int .i64 x, .string ⟨s.toArray⟩, .slice a l.length cap] 26)
  have hz : (w.alloc (.cells #[.int .i64 k, .int .i64 n, .int .i64 x, .string ⟨s.toArray⟩, .slice a l.length cap] 26)).heap.size = w.heap.size + 1 := by simp
  go_enter Try.func20, Try.ntmps20
  go_wp2_with fail
  generalize w.alloc (.cells #[.int .i64 k, .int .i64 n, .int .i64 x, .string ⟨s.toArray⟩, .slice a l.length cap] 26) = W0 at *
  have HVB := Lib.hid hvb
  have HB0 := Lib.hid hB0
  rw [← hz]
  have hwz : w.heap.size ≤ W0.heap.size := by omega
  clear hB0 hz
  by_cases hk : k = 10
  · subst hk
    have HNM : Hid (AT.ptL (evens l) = p) := Lib.hid (by rw [← hnm]; rfl)
    clear hnm hvb
    go_loopw [3, 4] (fun v i wr => ∃ (lr : List AT) (a' : Option Addr) (cap' q : Nat), v = .slice a' lr.length cap' ∧ i = .int .i64 q ∧ Hid (q = 2 * lr.length) ∧ 2 * lr.length ≤ l.length + 1 ∧ AT.ptL lr = AT.ptL ((evens l).take lr.length) ∧ OwnL wr W0.heap.size a' cap' lr ∧ ((a'.map (·.block)).toList ++ AT.blksL lr).Nodup ∧ Rl W0 wr) (fun _ i _ => l.length + 1 - (intOf i).toNat)
    case atStart => exact ⟨[], _, _, 0, rfl, rfl, Lib.hid rfl, by simp, by simp [AT.ptL], emptyRow W0 _ (Nat.le_refl _), by simp [AT.blksL], (Rl.refl W0).alloc _⟩
    case round =>
      obtain ⟨lr, a', cap', q, rfl, rfl, HQ, hlr, hpt, hown, hnd, hb⟩ := hrel
      have HO := Lib.hid hown
      have HB := Lib.hid hb
      have HD := Lib.hid hnd
      have HP := Lib.hid hpt
      have HBw := Lib.hid (HB0.out.trans (hb.b.mono HB0.out.size))
      obtain ⟨v0, v1, v2, v3, v4⟩ := HVB.out.blw hb.b
      clear hpt hnd hown
      by_cases hlt : q < l.length
      · obtain ⟨b, o, rfl, hbN, hC⟩ := H.out.cell q hlt
        have hC := hC.keep (HBw.out.block b (by omega))
        have hc := fun w' hw => HCP.out l[q] (List.getElem_mem hlt) w' hw
        have HPt : Hid (AT.ptL ((evens l).take (lr.length + 1)) = AT.ptL ((evens l).take lr.length) ++ [(l[q]).pt]) := Lib.hid (by
          have hq := HQ.out
          subst hq
          rw [evens_take hlt]; simp [AT.ptL_eq])
        obtain ⟨T, hT⟩ : ∃ T, T = l[q] := ⟨_, rfl⟩
        rw [← hT] at hC hc HPt
        clear hT
        obtain ⟨c0, c1, c2, c3, c4⟩ := hC
        have HC := Lib.hid hc
        have hlt' : (q : Int) < l.length := by omega
        clear hc hb
        go_wp2_with fail
        refine (HC.out wr HBw.out).mono ?_
        rintro e w2 ⟨T', hT', rfl, hOT, hNT, hb2⟩
        have hO2 := (HO.out.blw hb2)
        have hdis : ∀ k ∈ T'.blks, k ∉ (a'.map (·.block)).toList ++ AT.blksL lr := fun k hk hk2 => by
          have h1 := (hOT.lt k hk).1
          have h2 := (HO.out.lt k hk2).2
          omega
        have HX := Lib.hid hT'
        have HOT := Lib.hid (hOT.base HB.out.z)
        have HNT := Lib.hid hNT
        have HB2 := Lib.hid (HB.out.below hb2)
        have HO2 := Lib.hid hO2
        have HDI := Lib.hid hdis
        clear hT' hOT hNT hb2 hO2 hdis c0 c1 c2 c3 c4 v0 v1 v2 v3 v4
        go_wp2_with (refine wpList_append_lies _ (by rfl) _ _ _ (by rfl) W0.heap.size 26 i0 _ 5 64 Try.underlying24 hi hz0 hz1 hz2 rfl (by omega) _ lr.length _ (by rfl) (own_heap HO2.out.row (fun k hk => (((vbox w2 _).trans ((vbox _ _).mono (by simp))).block k (HO2.out.row.lt k hk).2))) ⟨w2.heap.size + 1, 0, none⟩ 1 1 T'.cells (by rfl) (by rfl) ?news (cells_one T') (by omega) (by unfold maxLen; omega) (by omega) (by have := HB2.out.z; simp; omega) (w2.heap.size + 2) (by simp) ?_)
        case news =>
          have := news_of_cells (w2.alloc (.cells #[.int .i64 T'.k, .int .i64 T'.n, .int .i64 T'.x, .string ⟨T'.s.toArray⟩, .slice T'.a T'.l.length T'.cap] 26)) T'
          simpa using this
        intro gg cap2 w3 hown3 hgrow hat hlt3
        have hbW : Below w2.heap.size w2 ((w2.alloc (.cells #[.int .i64 T'.k, .int .i64 T'.n, .int .i64 T'.x, .string ⟨T'.s.toArray⟩, .slice T'.a T'.l.length T'.cap] 26)).alloc (.cells #[.int .i64 T'.k, .int .i64 T'.n, .int .i64 T'.x, .string ⟨T'.s.toArray⟩, .slice T'.a T'.l.length T'.cap] 26)) := boxes2 w2 _ _
        obtain ⟨hnew, hnd3⟩ := row_push (HO2.out.blw hbW) HD.out (HOT.out.blw hbW) HNT.out HDI.out hown3 hgrow (by simpa using hat)
        have hb3 : Rl W0 w3 := ⟨HB2.out.b.trans (below_push hgrow (fun k hk => (HO2.out.row.lt k hk).1) hbW HB2.out.z), by have h1 := HB2.out.z; have h2 := hbW.size; have h3 := hgrow.size; omega⟩
        have HNEW := Lib.hid hnew
        have HND3 := Lib.hid hnd3
        have HB3 := Lib.hid hb3
        have HPT : Hid (AT.ptL (lr ++ [T']) = AT.ptL ((evens l).take (lr.length + 1))) := Lib.hid (by
          rw [AT.ptL_eq, List.map_append, ← AT.ptL_eq, HP.out, List.map_singleton, HX.out, HPt.out])
        have hwr : IntKind.i64.wrap ((q : Int) + 2) = (q : Int) + 2 := IntWalk.i64_in _ (by omega)
        clear hown3 hgrow hat hlt3 hbW hnew hnd3 hb3
        go_wp2
        go_roundw
        case rel => exact ⟨lr ++ [T'], some ⟨gg, 0, none⟩, cap2, q + 2, by rw [List.length_append]; rfl, by go_num, Lib.hid (by rw [List.length_append, List.length_singleton]; have := HQ.out; omega), by rw [List.length_append, List.length_singleton]; have := HQ.out; omega, by rw [List.length_append, List.length_singleton]; exact HPT.out, HNEW.out, HND3.out, HB3.out⟩
        case measure => simp [intOf]; omega
      · have heq : lr.length = (evens l).length := by rw [evens_length]; have := HQ.out; omega
        have HE := Lib.hid heq
        clear hb heq
        have hnl : ¬ (q : Int) < l.length := by omega
        go_wp2
        go_ret
        exact ⟨a', cap', lr, by rw [HP.out, HE.out, List.take_length, HNM.out], rfl, ⟨own_base' HO.out.row hwz, fun t ht => (HO.out.sub t ht).base hwz⟩, HD.out, HBw.out⟩
  · have HNM : Hid (p = []) := Lib.hid (by rw [← hnm]; simp [AT.names, AT.k, hk, AT.ptL])
    clear hnm
    go_loopw [3, 4] (fun v i wr => v = .slice (some ⟨W0.heap.size, 0, none⟩) 0 0 ∧ i = .int .i64 0 ∧ wr = W0.alloc (.cells #[] 26)) (fun _ i _ => 0)
    case atStart => exact ⟨rfl, rfl, rfl⟩
    case round =>
      obtain ⟨rfl, rfl, rfl⟩ := hrel
      obtain ⟨v0, v1, v2, v3, v4⟩ := HVB.out.blw (vbox W0 (.cells #[] 26))
      have hkb : (k == 10) = false := by simpa using hk
      by_cases hl0 : (0 : Int) < l.length
      · go_wp2
        go_ret
        exact ⟨some ⟨W0.heap.size, 0, none⟩, 0, [], by rw [HNM.out]; rfl, rfl, emptyRow W0 _ hwz, by simp [AT.blksL], HB0.out.trans ((vbox W0 _).mono hwz)⟩
      · go_wp2
        go_ret
        exact ⟨some ⟨W0.heap.size, 0, none⟩, 0, [], by rw [HNM.out]; rfl, rfl, emptyRow W0 _ hwz, by simp [AT.blksL], HB0.out.trans ((vbox W0 _).mono hwz)⟩
/-- a row of one's own whose elements' elements are foreign -/
structure RowL (w : World) (B N : Nat) (a : Option Addr) (cap : Nat) (l : List AT) : Prop where
  row : w.ownsRow B 26 5 (.slice a l.length cap) l.length (cellsL l)
  sub : ∀ t ∈ l, t.In w N
theorem RowL.lv {w : World} {B N : Nat} {a : Option Addr} {cap : Nat} {l : List AT} (h : RowL w B N a cap l) (hN : N ≤ w.heap.size) : Lv w w.heap.size a cap l where
  hc := (own_cap h.row).2.1
  cell j hj := by
    obtain ⟨g, ha, _, hlt, hC⟩ := own_cellL h.row j hj
    exact ⟨g, 0, ha, hlt, hC⟩
  sub t ht := (h.sub t ht).mono hN
theorem RowL.blw {w w' : World} {B N : Nat} {a : Option Addr} {cap : Nat} {l : List AT} (h : RowL w B N a cap l) (hN : N ≤ w.heap.size) (hb : Below w.heap.size w w') : RowL w' B N a cap l :=
  ⟨own_heap h.row fun k hk => hb.block k (h.row.lt k hk).2, fun t ht => (h.sub t ht).blw hb hN⟩
set_option maxHeartbeats 2000000 in
theorem names_implG (T : AT) (w : World) (N : Nat) (hin : T.In w N) (hll : T.l.length ≤ 1048576) (hN : N ≤ w.heap.size) : Calls Try.prog 52 #[T.val] w fun e w' => ∃ g cap, e = .returned (.slice (some ⟨g, 0, none⟩) T.names.length cap) ∧ RowL w' w.heap.size N (some ⟨g, 0, none⟩) cap T.names ∧ Below w.heap.size w w' := by
  obtain ⟨i0, hi, hz0, hz1, hz2⟩ := info_parts valInfo
  have H := Lib.hid hin.lv'
  clear hin
  obtain ⟨k, n, x, s, a, cap, l⟩ := T
  simp only [AT.l, AT.a, AT.cap] at H hll
  have hnm : (AT.mk k n x s a cap l).names = if k = 10 then evens l else [] := rfl
  rw [hnm]
  clear hnm
  show Calls Try.prog 52 #[.agg #[.int .i64 k, .int .i64 n, .int .i64 x, .string ⟨s.toArray⟩, .slice a l.length cap]] w _
  have hvb : VC (w.alloc (.cells #[.int .i64 k, .int .i64 n, .int .i64 x, .string ⟨s.toArray⟩, .slice a l.length cap] 26)) w.heap.size k n x ⟨s.toArray⟩ a l.length cap := by refine ⟨?_, ?_, ?_, ?_, ?_⟩ <;> simp [go_sem]
  have hB0 := vbox w (.cells #[.int .i64 k, .int .i64 n, .int .i64 x, .string ⟨s.toArray⟩, .slice a l.length cap] 26)
  have hz : (w.alloc (.cells #[.int .i64 k, .int .i64 n, .int .i64 x, .string ⟨s.toArray⟩, .slice a l.length cap] 26)).heap.size = w.heap.size + 1 := by simp
  by_cases hk : k = 10
  · subst hk
    rw [if_pos rfl]
    go_enter Try.func52, Try.ntmps52
    go_wp2_with fail
    generalize w.alloc (.cells #[.int .i64 10, .int .i64 n, .int .i64 x, .string ⟨s.toArray⟩, .slice a l.length cap] 26) = W0 at *
    have HVB := Lib.hid hvb
    have HB0 := Lib.hid hB0
    rw [← hz]
    have hwz : w.heap.size ≤ W0.heap.size := by omega
    clear hB0 hz hvb
    go_loopw [3, 4] (fun v i wr => ∃ (j g' cap' q : Nat), v = .slice (some ⟨g', 0, none⟩) j cap' ∧ i = .int .i64 q ∧ Hid (q = 2 * j) ∧ Hid (j ≤ (evens l).length) ∧ Hid (wr.ownsRow W0.heap.size 26 5 (.slice (some ⟨g', 0, none⟩) j cap') j (cellsL ((evens l).take j))) ∧ Hid (Rl W0 wr)) (fun _ i _ => l.length + 1 - (intOf i).toNat)
    case atStart => exact ⟨0, _, _, 0, rfl, rfl, Lib.hid rfl, Lib.hid (Nat.zero_le _), Lib.hid (by simpa using (emptyRow W0 W0.heap.size (Nat.le_refl _)).row), Lib.hid ((Rl.refl W0).alloc _)⟩
    case round =>
      obtain ⟨j, g', cap', q, rfl, rfl, HQ, HJ, HO, HB⟩ := hrel
      have HBw := Lib.hid (HB0.out.trans (HB.out.b.mono HB0.out.size))
      obtain ⟨v0, v1, v2, v3, v4⟩ := HVB.out.blw HB.out.b
      by_cases hlt : q < l.length
      · obtain ⟨b, o, rfl, hbN, hC⟩ := H.out.cell q hlt
        have hC := hC.keep (HBw.out.block b (by omega))
        have HPt : Hid ((evens l).take (j + 1) = (evens l).take j ++ [l[q]]) := Lib.hid (by
          have hq := HQ.out
          subst hq
          exact evens_take hlt)
        have HJ2 : Hid (j + 1 ≤ (evens l).length) := Lib.hid (by rw [evens_length]; have := HQ.out; omega)
        have hj3 : j ≤ 1048576 := by have h1 := HJ.out; rw [evens_length] at h1; omega
        obtain ⟨T, hT⟩ : ∃ T, T = l[q] := ⟨_, rfl⟩
        rw [← hT] at hC HPt
        clear hT
        obtain ⟨c0, c1, c2, c3, c4⟩ := hC
        have hlt' : (q : Int) < l.length := by omega
        go_wp2_with (refine wpList_append_lies _ (by rfl) _ _ _ (by rfl) W0.heap.size 26 i0 _ 5 64 Try.underlying24 hi hz0 hz1 hz2 rfl (by omega) _ j _ (by rfl) (own_heap HO.out (fun k hk => ((vbox wr _).block k (HO.out.lt k hk).2))) ⟨wr.heap.size, 0, none⟩ 1 1 T.cells (by rfl) (by rfl) (news_of_cells wr T) (cells_one T) (by omega) (by unfold maxLen; omega) (by omega) (by have := HB.out.z; simp; omega) (wr.heap.size + 1) (by simp) ?_)
        intro gg cap2 w3 hown3 hgrow hat hlt3
        have hb3 : Rl W0 w3 := ⟨HB.out.b.trans (below_push hgrow (fun k hk => (HO.out.lt k hk).1) (vbox wr _) HB.out.z), by have h1 := HB.out.z; have h2 := (vbox wr (.cells #[.int .i64 T.k, .int .i64 T.n, .int .i64 T.x, .string ⟨T.s.toArray⟩, .slice T.a T.l.length T.cap] 26)).size; have h3 := hgrow.size; omega⟩
        have HNEW : Hid (w3.ownsRow W0.heap.size 26 5 (.slice (some ⟨gg, 0, none⟩) (j + 1) cap2) (j + 1) (cellsL ((evens l).take (j + 1)))) := Lib.hid (by rw [HPt.out, cellsL_append, cellsL_one]; exact hown3)
        have HB3 := Lib.hid hb3
        clear hown3 hgrow hat hlt3 hb3 c0 c1 c2 c3 c4 v0 v1 v2 v3 v4
        go_wp2
        go_roundw
        case rel => exact ⟨j + 1, gg, cap2, q + 2, rfl, by go_num, Lib.hid (by have := HQ.out; omega), HJ2, HNEW, HB3⟩
        case measure => simp [intOf]; omega
      · have heq : j = (evens l).length := by have h1 := HJ.out; rw [evens_length] at *; have := HQ.out; omega
        subst heq
        have hnl : ¬ (q : Int) < l.length := by omega
        go_wp2
        go_ret
        refine ⟨g', cap', rfl, ⟨own_base' (by have := HO.out; rwa [List.take_length] at this) hwz, fun t ht => (H.out.sub t (evens_mem ht)).blw HBw.out hN⟩, HBw.out⟩
  · rw [if_neg hk]
    have hkb : (k != 10) = true := by simpa using hk
    go_enter Try.func52, Try.ntmps52
    go_wp2
    go_ret
    exact ⟨w.heap.size + 1, 0, rfl, ⟨by have := (emptyRow (w.alloc (.cells #[.int .i64 k, .int .i64 n, .int .i64 x, .string ⟨s.toArray⟩, .slice a l.length cap] 26)) w.heap.size (by simp)).row; simpa using this, by simp⟩, two' _ _ _⟩
theorem names_impl (T : AT) (w : World) (N : Nat) (hin : T.In w N) (hll : T.l.length ≤ 1048576) (hN : N ≤ w.heap.size) : Calls Try.prog 52 #[T.val] w fun e w' => ∃ a cap, e = .returned (.slice a T.names.length cap) ∧ RowL w' w.heap.size N a cap T.names ∧ Below w.heap.size w w' :=
  (names_implG T w N hin hll hN).mono fun _ _ ⟨_, cap, he, hr, hb⟩ => ⟨_, cap, he, hr, hb⟩
end Go.Proofs.Ytnikcgmbkmbloaa
/- compareFields of the program. -/
namespace Go.Proofs.Ytnikcgmbkmbloaa
open Go.RowKit
set_option maxRecDepth 100000
set_option maxHeartbeats 4000000 in
theorem fieldsN (T U : AT) (w : World) (hT : isI T.n ∧ isI T.x) (hU : isI U.n ∧ isI U.x) : Calls Try.prog 97 #[T.val, U.val, .func (.func 90) #[] #[]] w fun e w' => e = .returned (.int .i64 (hdV numV T.k T.n T.x T.s U.k U.n U.x U.s)) ∧ Below w.heap.size w w' := by
  have HN0 := Lib.hid (fun W => nums_impl T U W hT hU)
  clear hT hU
  obtain ⟨k, n, x, s, a, cap, l⟩ := T
  obtain ⟨k2, n2, x2, s2, b, cap2, m⟩ := U
  have HN : Hid (∀ W : World, Calls Try.prog 90 #[.agg #[.int .i64 k, .int .i64 n, .int .i64 x, .string ⟨s.toArray⟩, .slice a l.length cap], .agg #[.int .i64 k2, .int .i64 n2, .int .i64 x2, .string ⟨s2.toArray⟩, .slice b m.length cap2]] W fun e w' => e = .returned (.int .i64 (numV k n x n2 x2)) ∧ Below W.heap.size W w') := Lib.hid HN0.out
  have hI := fun W => compare_int k k2 W
  have hS := fun W => compare_str s s2 W
  have hO := fun W g cap c0 c1 => or_int (numV k n x n2 x2) (cmpS s s2) W g cap c0 c1
  clear HN0
  show Calls Try.prog 97 #[.agg #[.int .i64 k, .int .i64 n, .int .i64 x, .string ⟨s.toArray⟩, .slice a l.length cap], .agg #[.int .i64 k2, .int .i64 n2, .int .i64 x2, .string ⟨s2.toArray⟩, .slice b m.length cap2], .func (.func 90) #[] #[]] w fun e w' => e = .returned (.int .i64 (orI (cmpI k k2) (orI (numV k n x n2 x2) (cmpS s s2)))) ∧ Below w.heap.size w w'
  have hc := vcbox w k n x ⟨s.toArray⟩ a l.length cap k2 n2 x2 ⟨s2.toArray⟩ b m.length cap2 26
  have hB := two' w (.cells #[.int .i64 k, .int .i64 n, .int .i64 x, .string ⟨s.toArray⟩, .slice a l.length cap] 26) (.cells #[.int .i64 k2, .int .i64 n2, .int .i64 x2, .string ⟨s2.toArray⟩, .slice b m.length cap2] 26)
  by_cases hk : k = k2
  · subst hk
    rw [cmpI_zero.2 rfl, orI_zero]
    generalize numV k n x n2 x2 = c1 at *
    generalize cmpS s s2 = c2 at *
    generalize orI c1 c2 = c3 at *
    clear hI
    go_enter Try.func97, Try.ntmps97
    go_wp2_with fail
    generalize ((w.alloc (.cells #[.int .i64 k, .int .i64 n, .int .i64 x, .string ⟨s.toArray⟩, .slice a l.length cap] 26)).alloc (.cells #[.int .i64 k, .int .i64 n2, .int .i64 x2, .string ⟨s2.toArray⟩, .slice b m.length cap2] 26)) = W0 at *
    have HE : Hid (∀ W, Rl W0 W → Below w.heap.size w W) := Lib.hid (fun W h => hB.trans (h.b.mono hB.size))
    obtain ⟨⟨c0, c1, c2, c3, c4⟩, ⟨d0, d1, d2, d3, d4⟩⟩ := hc
    have HK : Hid (∀ W' : World, Rl W0 W' → Rl W0 W' ∧ W0.heap.size ≤ W'.heap.size ∧ W'.cell? ⟨w.heap.size, 0, none⟩ = some (.int .i64 k) ∧ W'.cell? ⟨w.heap.size, 1, none⟩ = some (.int .i64 n) ∧ W'.cell? ⟨w.heap.size, 2, none⟩ = some (.int .i64 x) ∧ W'.cell? ⟨w.heap.size, 3, none⟩ = some (.string ⟨s.toArray⟩) ∧ W'.cell? ⟨w.heap.size, 4, none⟩ = some (.slice a l.length cap) ∧ W'.cell? ⟨w.heap.size + 1, 0, none⟩ = some (.int .i64 k) ∧ W'.cell? ⟨w.heap.size + 1, 1, none⟩ = some (.int .i64 n2) ∧ W'.cell? ⟨w.heap.size + 1, 2, none⟩ = some (.int .i64 x2) ∧ W'.cell? ⟨w.heap.size + 1, 3, none⟩ = some (.string ⟨s2.toArray⟩) ∧ W'.cell? ⟨w.heap.size + 1, 4, none⟩ = some (.slice b m.length cap2)) := Lib.hid (fun W' h => ⟨h, h.z, keep_below h.b c0, keep_below h.b c1, keep_below h.b c2, keep_below h.b c3, keep_below h.b c4, keep_below h.b d0, keep_below h.b d1, keep_below h.b d2, keep_below h.b d3, keep_below h.b d4⟩)
    have h0 := Rl.refl W0
    clear hB
    go_region_held3 (fun W' => Rl W0 W' ∧ W0.heap.size ≤ W'.heap.size ∧ W'.cell? ⟨w.heap.size, 0, none⟩ = some (.int .i64 k) ∧ W'.cell? ⟨w.heap.size, 1, none⟩ = some (.int .i64 n) ∧ W'.cell? ⟨w.heap.size, 2, none⟩ = some (.int .i64 x) ∧ W'.cell? ⟨w.heap.size, 3, none⟩ = some (.string ⟨s.toArray⟩) ∧ W'.cell? ⟨w.heap.size, 4, none⟩ = some (.slice a l.length cap) ∧ W'.cell? ⟨w.heap.size + 1, 0, none⟩ = some (.int .i64 k) ∧ W'.cell? ⟨w.heap.size + 1, 1, none⟩ = some (.int .i64 n2) ∧ W'.cell? ⟨w.heap.size + 1, 2, none⟩ = some (.int .i64 x2) ∧ W'.cell? ⟨w.heap.size + 1, 3, none⟩ = some (.string ⟨s2.toArray⟩) ∧ W'.cell? ⟨w.heap.size + 1, 4, none⟩ = some (.slice b m.length cap2)) ((refine HK.out _ ?_; repeat (first | assumption | refine Rl.drew ?_ | refine Rl.alloc ?_ _))) ((first | (go_at_call 90; go_split_ands; (with_reducible refine (HN.out _).mono ?_); rintro e w1 ⟨rfl, hb1⟩; have hr1 := Rl.below (by assumption) hb1; clear hb1) | (go_at_call 130; refine (hS _).mono ?_; rintro e w' ⟨rfl, rfl⟩) | (go_at_call 99; refine (hO _ _ _ (by simp [go_sem]) (by simp [go_sem])).mono ?_; rintro e w' ⟨rfl, rfl⟩)))
    all_goals
      go_split_ands
      go_wp2
      go_ret
      exact ⟨rfl, HE.out _ (by assumption)⟩
  · have hne : orI (cmpI k k2) (orI (numV k n x n2 x2) (cmpS s s2)) = cmpI k k2 := orI_ne (fun h => hk (cmpI_zero.1 h)) _
    rw [hne]
    have hkn : (k != k2) = true := by simpa using hk
    generalize cmpI k k2 = c1 at *
    go_enter Try.func97, Try.ntmps97
    go_wp2_with (go_at_call 98; refine (hI _).mono ?_; rintro e w' ⟨rfl, rfl⟩)
    go_ret
    exact ⟨rfl, hB⟩
set_option maxHeartbeats 4000000 in
theorem fieldsI (T U : AT) (w : World) : Calls Try.prog 97 #[T.val, U.val, .func (.func 62) #[] #[]] w fun e w' => e = .returned (.int .i64 (hdV plainV T.k T.n T.x T.s U.k U.n U.x U.s)) ∧ Below w.heap.size w w' := by
  have HN0 := Lib.hid (fun W => ints_impl T U W)
  obtain ⟨k, n, x, s, a, cap, l⟩ := T
  obtain ⟨k2, n2, x2, s2, b, cap2, m⟩ := U
  have HN : Hid (∀ W : World, Calls Try.prog 62 #[.agg #[.int .i64 k, .int .i64 n, .int .i64 x, .string ⟨s.toArray⟩, .slice a l.length cap], .agg #[.int .i64 k2, .int .i64 n2, .int .i64 x2, .string ⟨s2.toArray⟩, .slice b m.length cap2]] W fun e w' => e = .returned (.int .i64 (plainV k n x n2 x2)) ∧ Below W.heap.size W w') := Lib.hid HN0.out
  have hI := fun W => compare_int k k2 W
  have hS := fun W => compare_str s s2 W
  have hO := fun W g cap c0 c1 => or_int (plainV k n x n2 x2) (cmpS s s2) W g cap c0 c1
  clear HN0
  show Calls Try.prog 97 #[.agg #[.int .i64 k, .int .i64 n, .int .i64 x, .string ⟨s.toArray⟩, .slice a l.length cap], .agg #[.int .i64 k2, .int .i64 n2, .int .i64 x2, .string ⟨s2.toArray⟩, .slice b m.length cap2], .func (.func 62) #[] #[]] w fun e w' => e = .returned (.int .i64 (orI (cmpI k k2) (orI (plainV k n x n2 x2) (cmpS s s2)))) ∧ Below w.heap.size w w'
  have hc := vcbox w k n x ⟨s.toArray⟩ a l.length cap k2 n2 x2 ⟨s2.toArray⟩ b m.length cap2 26
  have hB := two' w (.cells #[.int .i64 k, .int .i64 n, .int .i64 x, .string ⟨s.toArray⟩, .slice a l.length cap] 26) (.cells #[.int .i64 k2, .int .i64 n2, .int .i64 x2, .string ⟨s2.toArray⟩, .slice b m.length cap2] 26)
  by_cases hk : k = k2
  · subst hk
    rw [cmpI_zero.2 rfl, orI_zero]
    generalize plainV k n x n2 x2 = c1 at *
    generalize cmpS s s2 = c2 at *
    generalize orI c1 c2 = c3 at *
    clear hI
    go_enter Try.func97, Try.ntmps97
    go_wp2_with fail
    generalize ((w.alloc (.cells #[.int .i64 k, .int .i64 n, .int .i64 x, .string ⟨s.toArray⟩, .slice a l.length cap] 26)).alloc (.cells #[.int .i64 k, .int .i64 n2, .int .i64 x2, .string ⟨s2.toArray⟩, .slice b m.length cap2] 26)) = W0 at *
    have HE : Hid (∀ W, Rl W0 W → Below w.heap.size w W) := Lib.hid (fun W h => hB.trans (h.b.mono hB.size))
    obtain ⟨⟨c0, c1, c2, c3, c4⟩, ⟨d0, d1, d2, d3, d4⟩⟩ := hc
    have HK : Hid (∀ W' : World, Rl W0 W' → Rl W0 W' ∧ W0.heap.size ≤ W'.heap.size ∧ W'.cell? ⟨w.heap.size, 0, none⟩ = some (.int .i64 k) ∧ W'.cell? ⟨w.heap.size, 1, none⟩ = some (.int .i64 n) ∧ W'.cell? ⟨w.heap.size, 2, none⟩ = some (.int .i64 x) ∧ W'.cell? ⟨w.heap.size, 3, none⟩ = some (.string ⟨s.toArray⟩) ∧ W'.cell? ⟨w.heap.size, 4, none⟩ = some (.slice a l.length cap) ∧ W'.cell? ⟨w.heap.size + 1, 0, none⟩ = some (.int .i64 k) ∧ W'.cell? ⟨w.heap.size + 1, 1, none⟩ = some (.int .i64 n2) ∧ W'.cell? ⟨w.heap.size + 1, 2, none⟩ = some (.int .i64 x2) ∧ W'.cell? ⟨w.heap.size + 1, 3, none⟩ = some (.string ⟨s2.toArray⟩) ∧ W'.cell? ⟨w.heap.size + 1, 4, none⟩ = some (.slice b m.length cap2)) := Lib.hid (fun W' h => ⟨h, h.z, keep_below h.b c0, keep_below h.b c1, keep_below h.b c2, keep_below h.b c3, keep_below h.b c4, keep_below h.b d0, keep_below h.b d1, keep_below h.b d2, keep_below h.b d3, keep_below h.b d4⟩)
    have h0 := Rl.refl W0
    clear hB
    go_region_held3 (fun W' => Rl W0 W' ∧ W0.heap.size ≤ W'.heap.size ∧ W'.cell? ⟨w.heap.size, 0, none⟩ = some (.int .i64 k) ∧ W'.cell? ⟨w.heap.size, 1, none⟩ = some (.int .i64 n) ∧ W'.cell? ⟨w.heap.size, 2, none⟩ = some (.int .i64 x) ∧ W'.cell? ⟨w.heap.size, 3, none⟩ = some (.string ⟨s.toArray⟩) ∧ W'.cell? ⟨w.heap.size, 4, none⟩ = some (.slice a l.length cap) ∧ W'.cell? ⟨w.heap.size + 1, 0, none⟩ = some (.int .i64 k) ∧ W'.cell? ⟨w.heap.size + 1, 1, none⟩ = some (.int .i64 n2) ∧ W'.cell? ⟨w.heap.size + 1, 2, none⟩ = some (.int .i64 x2) ∧ W'.cell? ⟨w.heap.size + 1, 3, none⟩ = some (.string ⟨s2.toArray⟩) ∧ W'.cell? ⟨w.heap.size + 1, 4, none⟩ = some (.slice b m.length cap2)) ((refine HK.out _ ?_; repeat (first | assumption | refine Rl.drew ?_ | refine Rl.alloc ?_ _))) ((first | (go_at_call 62; go_split_ands; (with_reducible refine (HN.out _).mono ?_); rintro e w1 ⟨rfl, hb1⟩; have hr1 := Rl.below (by assumption) hb1; clear hb1) | (go_at_call 130; refine (hS _).mono ?_; rintro e w' ⟨rfl, rfl⟩) | (go_at_call 99; refine (hO _ _ _ (by simp [go_sem]) (by simp [go_sem])).mono ?_; rintro e w' ⟨rfl, rfl⟩)))
    all_goals
      go_split_ands
      go_wp2
      go_ret
      exact ⟨rfl, HE.out _ (by assumption)⟩
  · have hne : orI (cmpI k k2) (orI (plainV k n x n2 x2) (cmpS s s2)) = cmpI k k2 := orI_ne (fun h => hk (cmpI_zero.1 h)) _
    rw [hne]
    have hkn : (k != k2) = true := by simpa using hk
    generalize cmpI k k2 = c1 at *
    go_enter Try.func97, Try.ntmps97
    go_wp2_with (go_at_call 98; refine (hI _).mono ?_; rintro e w' ⟨rfl, rfl⟩)
    go_ret
    exact ⟨rfl, hB⟩
end Go.Proofs.Ytnikcgmbkmbloaa
/- The comparison's stack: pairs of slices still to be compared, level by level. -/
namespace Go.Proofs.Ytnikcgmbkmbloaa
open Go.RowKit
abbrev Lev2 := Lev × Lev
def lvcells (S : List Lev2) : List Value := S.flatMap fun p => [p.1.val, p.2.val]
theorem lvcells_append (S R : List Lev2) : lvcells (S ++ R) = lvcells S ++ lvcells R := by simp [lvcells]
theorem lvcells_one (p : Lev2) : lvcells [p] = [p.1.val, p.2.val] := by simp [lvcells]
theorem lvcells_length (S : List Lev2) : (lvcells S).length = S.length * 2 := by
  induction S with
  | nil => rfl
  | cons p S ih => simp only [lvcells, List.flatMap_cons, List.length_append] at *; simp only [List.length_cons, List.length_nil]; omega
/-- what the stack still says, its top first -/
def stk (f : NumF) (S : List Lev2) : Int := S.foldl (fun acc p => orI (PT.cmpL f (AT.ptL p.1.l) (AT.ptL p.2.l)) acc) 0
theorem stk_snoc (f : NumF) (S : List Lev2) (p : Lev2) : stk f (S ++ [p]) = orI (PT.cmpL f (AT.ptL p.1.l) (AT.ptL p.2.l)) (stk f S) := by simp [stk]
theorem orI_assoc (a b c : Int) : orI (orI a b) c = orI a (orI b c) := by
  unfold orI
  by_cases h : a = 0
  · rw [if_pos h, if_pos h]
  · rw [if_neg h, if_neg h, if_neg h]
theorem orI_z (a : Int) : orI a 0 = a := by unfold orI; split <;> simp_all
theorem cmpL_none (f : NumF) (l m : List PT) (h : l = [] ∨ m = []) : PT.cmpL f l m = cmpI l.length m.length := by
  rcases h with rfl | rfl
  · cases m with
    | nil => rfl
    | cons u m => simp only [PT.cmpL, cmpI, List.length_nil, List.length_cons]; rw [if_pos (by omega)]
  · cases l with
    | nil => rfl
    | cons u m => simp only [PT.cmpL, cmpI, List.length_nil, List.length_cons]; rw [if_neg (by omega), if_pos (by omega)]
def hdA (f : NumF) (t u : AT) : Int := hdV f t.k t.n t.x t.s u.k u.n u.x u.s
theorem cmpA (f : NumF) (t u : AT) : t.pt.cmp f u.pt = orI (hdA f t u) (PT.cmpL f (AT.ptL t.l) (AT.ptL u.l)) := by cases t; cases u; rfl
/-- a step: the heads are taken off, what is in them goes on top -/
theorem stk_step (f : NumF) (S : List Lev2) (L M L' M' La Ma : Lev) (t u : AT) (tl ul : List AT) (h1 : L.l = t :: tl) (h2 : M.l = u :: ul) (h3 : L'.l = tl) (h4 : M'.l = ul) (h5 : La.l = t.l) (h6 : Ma.l = u.l) :
    stk f (S ++ [(L, M)]) = orI (hdA f t u) (stk f (S ++ [(L', M')] ++ [(La, Ma)])) := by
  rw [stk_snoc, stk_snoc, stk_snoc, h1, h2, h3, h4, h5, h6]
  simp only [AT.ptL, PT.cmpL]
  rw [cmpA, orI_assoc, orI_assoc]
def wt (S : List Lev2) : Nat := (S.map fun p => 2 * PT.cntL (AT.ptL p.1.l) + 1).sum
theorem wt_append (S R : List Lev2) : wt (S ++ R) = wt S + wt R := by simp [wt]
theorem wt_step (S : List Lev2) (L M L' M' La Ma : Lev) (t : AT) (tl : List AT) (h1 : L.l = t :: tl) (h3 : L'.l = tl) (h5 : La.l = t.l) : wt (S ++ [(L, M)]) = wt (S ++ [(L', M')] ++ [(La, Ma)]) + 1 := by
  rw [wt_append, wt_append, wt_append]
  have hc : t.pt.cnt = PT.cntL (AT.ptL t.l) + 1 := by cases t; simp [AT.pt, PT.cnt, AT.l]
  simp only [wt, List.map_cons, List.map_nil, List.sum_cons, List.sum_nil, h1, h3, h5, AT.ptL, PT.cntL, hc]
  omega
theorem wt_len (S : List Lev2) : S.length ≤ wt S := by
  induction S with
  | nil => simp
  | cons p S ih => simp only [wt, List.map_cons, List.sum_cons, List.length_cons] at *; omega
structure StkAt (w : World) (N B g cap : Nat) (S : List Lev2) : Prop where
  row : w.ownsRow B 116 2 (.slice (some ⟨g, 0, none⟩) S.length cap) S.length (lvcells S)
  lv : ∀ p ∈ S, Lv w N p.1.a p.1.cap p.1.l ∧ Lv w N p.2.a p.2.cap p.2.l
  nB : N ≤ B
theorem StkAt.lt {w : World} {N B g cap : Nat} {S : List Lev2} (h : StkAt w N B g cap S) : B ≤ g ∧ g < w.heap.size := h.row.lt g rfl
theorem StkAt.kept {w w' : World} {N B g cap : Nat} {S : List Lev2} (h : StkAt w N B g cap S) (hk : ∀ k, k = g ∨ k < N → w'.heap[k]? = w.heap[k]?) : StkAt w' N B g cap S where
  row := own_heap h.row (fun k hg => hk k (.inl (by simp [Value.ownBlock] at hg; exact hg.symm)))
  lv p hp := ⟨(h.lv p hp).1.kept fun k hkN => hk k (.inr hkN), (h.lv p hp).2.kept fun k hkN => hk k (.inr hkN)⟩
  nB := h.nB
theorem StkAt.blw {w w' : World} {N B g cap : Nat} {S : List Lev2} (h : StkAt w N B g cap S) (hb : Below w.heap.size w w') : StkAt w' N B g cap S := by
  have hl := h.lt
  have h2 := h.nB
  exact h.kept fun k hk => hb.block k (by rcases hk with rfl | hk <;> omega)
theorem own_take2 {w : World} {B E n cap g k : Nat} {xs : List Value} (h : w.ownsRow B E 2 (.slice (some ⟨g, 0, none⟩) n cap) n xs) (hk : k ≤ n) : w.ownsRow B E 2 (.slice (some ⟨g, 0, none⟩) k cap) k (xs.take (k * 2)) := by
  have hl := h.1
  refine ⟨by rw [List.length_take]; omega, ?_⟩
  rcases h.2 with ⟨h, _⟩ | ⟨g', cap', cur, h, hb, hg, hnc, hcm, hcs, htake⟩
  · cases h
  · injection h with h1 h2 h3
    injection h1 with h1
    injection h1 with h1
    subst h1
    subst h3
    refine .inr ⟨g, cap, cur, rfl, hb, hg, by omega, hcm, hcs, ?_⟩
    rw [← htake, List.take_take]
    congr 1
    omega
theorem StkAt.pop {w : World} {N B g cap : Nat} {S : List Lev2} {p : Lev2} (h : StkAt w N B g cap (S ++ [p])) : StkAt w N B g cap S where
  row := by
    have := own_take2 h.row (k := S.length) (by simp)
    rwa [lvcells_append, List.take_append_of_le_length (by rw [lvcells_length]; exact Nat.le_refl _), List.take_of_length_le (by rw [lvcells_length]; exact Nat.le_refl _)] at this
  lv q hq := h.lv q (by simp [hq])
  nB := h.nB
theorem StkAt.top {w : World} {N B g cap : Nat} {S : List Lev2} {L M : Lev} (h : StkAt w N B g cap (S ++ [(L, M)])) :
    w.cell? ⟨g, S.length * 2, none⟩ = some L.val ∧ w.cell? ⟨g, S.length * 2 + 1, none⟩ = some M.val ∧ (∀ o, w.frozen? ⟨g, o, none⟩ = false) ∧ Lv w N L.a L.cap L.l ∧ Lv w N M.a M.cap M.l := by
  have h0 := h.row.cellAt (S.length * 2) (by rw [List.length_append, List.length_singleton]; omega)
  have h1 := h.row.cellAt (S.length * 2 + 1) (by rw [List.length_append, List.length_singleton]; omega)
  rw [lvcells_append, List.getElem?_append_right (by rw [lvcells_length]; omega), lvcells_length] at h0 h1
  have hl := h.lv (L, M) (by simp)
  exact ⟨by rw [h0, Nat.sub_self]; simp [lvcells], by rw [h1, show S.length * 2 + 1 - S.length * 2 = 1 by omega]; simp [lvcells], h.row.frozenAt, hl.1, hl.2⟩
theorem StkAt.setTop {w : World} {N B g cap : Nat} {S : List Lev2} {L M : Lev} (h : StkAt w N B g cap (S ++ [(L, M)])) (L' M' : Lev) (hL : Lv w N L'.a L'.cap L'.l) (hM : Lv w N M'.a M'.cap M'.l) :
    StkAt ((w.setCell ⟨g, S.length * 2, none⟩ L'.val).setCell ⟨g, S.length * 2 + 1, none⟩ M'.val) N B g cap (S ++ [(L', M')]) where
  row := by
    have h1 := (h.row.stored (S.length * 2) L'.val).1
    have h2 := (h1.stored (S.length * 2 + 1) M'.val).1
    rw [lvcells_append, lvcells_one] at h2
    rw [lvcells_append, lvcells_one]
    have hl := lvcells_length S
    rw [List.set_append, if_neg (by omega), List.set_append, if_neg (by omega), hl, Nat.sub_self, show S.length * 2 + 1 - S.length * 2 = 1 by omega] at h2
    simpa using h2
  lv p hp := by
    have hk : ∀ k, k < N → ((w.setCell ⟨g, S.length * 2, none⟩ L'.val).setCell ⟨g, S.length * 2 + 1, none⟩ M'.val).heap[k]? = w.heap[k]? := fun k hk => by
      have := h.lt; have := h.nB
      exact (Below.heap_setCell _ _ _ _ (by show k ≠ g; omega)).trans (Below.heap_setCell _ _ _ _ (by show k ≠ g; omega))
    rcases List.mem_append.1 hp with hp | hp
    · exact ⟨(h.lv p (by simp [hp])).1.kept hk, (h.lv p (by simp [hp])).2.kept hk⟩
    · obtain rfl : p = (L', M') := by simpa using hp
      exact ⟨hL.kept hk, hM.kept hk⟩
  nB := h.nB
theorem levInfo : (Try.prog.info? 116).map (fun i => (i.zero, i.size, i.bytes)) = some (some (.agg #[.slice none 0 0, .slice none 0 0]), 2, 48) := by kernel_rfl
/-- a stack of one level in a new block -/
theorem stk_new (w : World) (N : Nat) (L M : Lev) (hL : Lv w N L.a L.cap L.l) (hM : Lv w N M.a M.cap M.l) (hN : N ≤ w.heap.size) : StkAt (w.alloc (.cells #[L.val, M.val] 116)) N w.heap.size w.heap.size 1 [(L, M)] where
  row := ⟨rfl, .inr ⟨w.heap.size, 1, #[L.val, M.val], rfl, Nat.le_refl _, heap_alloc_new w _, Nat.le_refl _, by unfold maxLen; omega, rfl, rfl⟩⟩
  lv p hp := by
    obtain rfl : p = (L, M) := by simpa using hp
    exact ⟨hL.below (vbox w _) hN, hM.below (vbox w _) hN⟩
  nB := hN
/-- behind the append of a level -/
theorem StkAt.push {w w1 : World} {N B g cap gg cap2 : Nat} {S : List Lev2} {L M : Lev} {ob : Obj} (h : StkAt w N B g cap S) (hL : Lv w N L.a L.cap L.l) (hM : Lv w N M.a M.cap M.l) {n c : Nat}
    (hown : w1.ownsRow B 116 2 (.slice (some ⟨gg, 0, none⟩) (S.length + 1) cap2) (S.length + 1) (lvcells S ++ [L.val, M.val])) (hgrow : (w.alloc ob).grownBy w1 (Value.slice (some ⟨g, 0, none⟩) n c).ownBlock) :
    StkAt w1 N B gg cap2 (S ++ [(L, M)]) ∧ Below B w w1 := by
  have hl := h.lt
  have hn := h.nB
  have hO : Only g w w1 := (Only.of_below (vbox w ob)).trans (.of_grown hgrow)
  have hk : ∀ k, k < N → w1.heap[k]? = w.heap[k]? := fun k hk => hO.block k (by omega) (by omega)
  refine ⟨⟨by rw [List.length_append, List.length_singleton, lvcells_append, lvcells_one]; exact hown, fun p hp => ?_, hn⟩, hO.below B hl.1 (by omega)⟩
  rcases List.mem_append.1 hp with hp | hp
  · exact ⟨(h.lv p hp).1.kept hk, (h.lv p hp).2.kept hk⟩
  · obtain rfl : p = (L, M) := by simpa using hp
    exact ⟨hL.kept hk, hM.kept hk⟩
theorem StkAt.cap {w : World} {N B g cap : Nat} {S : List Lev2} (h : StkAt w N B g cap S) : S.length ≤ cap ∧ cap ≤ maxLen := (own_cap h.row).2
end Go.Proofs.Ytnikcgmbkmbloaa
