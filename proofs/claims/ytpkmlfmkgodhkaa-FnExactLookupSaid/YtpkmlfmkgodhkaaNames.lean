/- The names of a map: plain, NamesOf of the model, namesIn of the program. -/
import Derived.Test.YtpkmlfmkgodhkaaCopyVal
import Derived.Test.YtpkmlfmkgodhkaaCmpNum
import Derived.Test.YtpkmlfmkgodhkaaSameMath
import Derived.Deep.AppendLies
namespace Go.Proofs.Ytpkmlfmkgodhkaa
open Go.RowKit
set_option maxRecDepth 100000
def evens {α : Type} : List α → List α
  | [] => []
  | [x] => [x]
  | x :: _ :: l => x :: evens l
theorem evens_length {α : Type} (l : List α) : (evens l).length = (l.length + 1) / 2 := by
  induction l using evens.induct with
  | case1 => simp [evens]
  | case2 => simp [evens]
  | case3 x y l ih => simp only [evens, List.length_cons, ih]; omega
theorem evens_get {α : Type} (l : List α) (j : Nat) (hj : 2 * j < l.length) : (evens l)[j]? = some l[2 * j] := by
  induction l using evens.induct generalizing j with
  | case1 => simp at hj
  | case2 x =>
    obtain rfl : j = 0 := by simp at hj; omega
    simp [evens]
  | case3 x y l ih =>
    cases j with
    | zero => simp [evens]
    | succ j =>
      simp only [evens, List.getElem?_cons_succ]
      rw [ih j (by simp at hj; omega)]
      simp only [Nat.mul_add, Nat.mul_one, List.getElem_cons_succ]
theorem evens_map {α β : Type} (f : α → β) (l : List α) : (evens l).map f = evens (l.map f) := by
  induction l using evens.induct with
  | case1 => simp [evens]
  | case2 => simp [evens]
  | case3 x y l ih => simp only [evens, List.map_cons, ih]
theorem evens_mem {α : Type} {l : List α} {x : α} (h : x ∈ evens l) : x ∈ l := by
  induction l using evens.induct with
  | case1 => cases h
  | case2 => exact h
  | case3 y z l ih =>
    simp only [evens, List.mem_cons] at h ⊢
    rcases h with h | h
    · exact .inl h
    · exact .inr (.inr (ih h))
def PT.names : PT → List PT
  | .mk k _ _ _ l => if k = 10 then evens l else []
def AT.names (T : AT) : List AT := if T.k = 10 then evens T.l else []
theorem names_pt (T : AT) : AT.ptL T.names = T.pt.names := by
  obtain ⟨k, n, x, s, a, cap, l⟩ := T
  show AT.ptL (if k = 10 then evens l else []) = if k = 10 then evens (AT.ptL l) else []
  by_cases h : k = 10
  · rw [if_pos h, if_pos h, AT.ptL_eq, AT.ptL_eq, evens_map]
  · rw [if_neg h, if_neg h]; simp [AT.ptL]
theorem names_mem {T t : AT} (h : t ∈ T.names) : t ∈ T.l := by
  unfold AT.names at h
  split at h
  · exact evens_mem h
  · cases h
theorem evens_take {l : List AT} {j : Nat} (hj : 2 * j < l.length) : (evens l).take (j + 1) = (evens l).take j ++ [l[2 * j]] := by
  have hl : j < (evens l).length := by rw [evens_length]; omega
  rw [List.take_succ_eq_append_getElem hl]
  congr 2
  have := evens_get l j hj
  rw [List.getElem?_eq_getElem hl] at this
  simpa using this
set_option maxHeartbeats 2000000 in
theorem names_spec (T : AT) (w : World) (N : Nat) (hin : T.In w N) (hsz : T.pt.sz ≤ 1048576) (hN : N ≤ w.heap.size) : Calls Try.prog 52 #[T.val] w (FreshL w T.pt.names) := by
  obtain ⟨i0, hi, hz0, hz1, hz2⟩ := info_parts valInfo
  have hcp : ∀ t ∈ T.l, t.pt.sz ≤ 1048576 := fun t ht => by
    have h1 := szL_ge ht
    have h2 : PT.szL (AT.ptL T.l) ≤ T.pt.sz := by obtain ⟨k, n, x, s, a, cap, l⟩ := T; simp [AT.pt, PT.sz, AT.l]; omega
    omega
  have hll : T.l.length ≤ 1048576 := by
    have h2 : T.l.length ≤ T.pt.sz := by obtain ⟨k, n, x, s, a, cap, l⟩ := T; simp [AT.pt, PT.sz, AT.l]; omega
    omega
  have HCP := Lib.hid (fun (t : AT) (ht : t ∈ T.l) (w1 : World) (hb : Below w.heap.size w w1) => l6Copy_any t (hcp t ht) w1 N ((hin.lv'.sub t ht).blw hb hN) (Nat.le_trans hN hb.size))
  have H := Lib.hid hin.lv'
  have hnm := names_pt T
  obtain ⟨p, hp⟩ : ∃ p, p = T.pt.names := ⟨_, rfl⟩
  rw [← hp] at hnm ⊢
  clear hin hsz hcp hp
  obtain ⟨k, n, x, s, a, cap, l⟩ := T
  simp only [AT.l, AT.a, AT.cap] at H HCP hll
  show Calls Try.prog 52 #[.agg #[.int .i64 k, .int .i64 n, .int .i64 x, .string ⟨s.toArray⟩, .slice a l.length cap]] w _
  have hvb : VC (w.alloc (.cells #[.int .i64 k, .int .i64 n, .int .i64 x, .string ⟨s.toArray⟩, .slice a l.length cap] 26)) w.heap.size k n x ⟨s.toArray⟩ a l.length cap := by refine ⟨?_, ?_, ?_, ?_, ?_⟩ <;> simp [go_sem]
  have hB0 := vbox w (.cells #[.int .i64 k, .int .i64 n, .int .i64 x, .string ⟨s.toArray⟩, .slice a l.length cap] 26)
  have hz : (w.alloc (.cells #[.int .i64 k, .int .i64 n, .int .i64 x, .string ⟨s.toArray⟩, .slice a l.length cap] 26)).heap.size = w.heap.size + 1 := by simp
  go_enter Try.func52, Try.ntmps52
  go_wp2_with fail
  generalize w.alloc (.cells #[.int .i64 k, .int .i64 n, .int .i64 x, .string ⟨s.toArray⟩, .slice a l.length cap] 26) = W0 at *
  have HVB := Lib.hid hvb
  have HB0 := Lib.hid hB0
  rw [← hz]
  have hwz : w.heap.size ≤ W0.heap.size := by omega
  clear hB0 hz
  by_cases hk : k = 10
  · subst hk
    have HNM : Hid (AT.ptL (evens l) = p) := Lib.hid (by rw [← hnm]; rfl)
    clear hnm hvb
    go_loopw [3, 4] (fun v i wr => ∃ (lr : List AT) (a' : Option Addr) (cap' q : Nat), v = .slice a' lr.length cap' ∧ i = .int .i64 q ∧ Hid (q = 2 * lr.length) ∧ 2 * lr.length ≤ l.length + 1 ∧ AT.ptL lr = AT.ptL ((evens l).take lr.length) ∧ OwnL wr W0.heap.size a' cap' lr ∧ ((a'.map (·.block)).toList ++ AT.blksL lr).Nodup ∧ Rl W0 wr) (fun _ i _ => l.length + 1 - (intOf i).toNat)
    case atStart => exact ⟨[], _, _, 0, rfl, rfl, Lib.hid rfl, by simp, by simp [AT.ptL], emptyRow W0 _ (Nat.le_refl _), by simp [AT.blksL], (Rl.refl W0).alloc _⟩
    case round =>
      obtain ⟨lr, a', cap', q, rfl, rfl, HQ, hlr, hpt, hown, hnd, hb⟩ := hrel
      have HO := Lib.hid hown
      have HB := Lib.hid hb
      have HD := Lib.hid hnd
      have HP := Lib.hid hpt
      have HBw := Lib.hid (HB0.out.trans (hb.b.mono HB0.out.size))
      obtain ⟨v0, v1, v2, v3, v4⟩ := HVB.out.blw hb.b
      clear hpt hnd hown
      by_cases hlt : q < l.length
      · obtain ⟨b, o, rfl, hbN, hC⟩ := H.out.cell q hlt
        have hC := hC.keep (HBw.out.block b (by omega))
        have hc := fun w' hw => HCP.out l[q] (List.getElem_mem hlt) w' hw
        have HPt : Hid (AT.ptL ((evens l).take (lr.length + 1)) = AT.ptL ((evens l).take lr.length) ++ [(l[q]).pt]) := Lib.hid (by
          have hq := HQ.out
          subst hq
          rw [evens_take hlt]; simp [AT.ptL_eq])
        obtain ⟨T, hT⟩ : ∃ T, T = l[q] := ⟨_, rfl⟩
        rw [← hT] at hC hc HPt
        clear hT
        obtain ⟨c0, c1, c2, c3, c4⟩ := hC
        have HC := Lib.hid hc
        have hlt' : (q : Int) < l.length := by omega
        clear hc hb
        go_wp2_with fail
        refine (HC.out wr HBw.out).mono ?_
        rintro e w2 ⟨T', hT', rfl, hOT, hNT, hb2⟩
        have hO2 := (HO.out.blw hb2)
        have hdis : ∀ k ∈ T'.blks, k ∉ (a'.map (·.block)).toList ++ AT.blksL lr := fun k hk hk2 => by
          have h1 := (hOT.lt k hk).1
          have h2 := (HO.out.lt k hk2).2
          omega
        have HX := Lib.hid hT'
        have HOT := Lib.hid (hOT.base HB.out.z)
        have HNT := Lib.hid hNT
        have HB2 := Lib.hid (HB.out.below hb2)
        have HO2 := Lib.hid hO2
        have HDI := Lib.hid hdis
        clear hT' hOT hNT hb2 hO2 hdis c0 c1 c2 c3 c4 v0 v1 v2 v3 v4
        go_wp2_with (refine wpList_append_lies _ (by rfl) _ _ _ (by rfl) W0.heap.size 26 i0 _ 5 64 Try.underlying24 hi hz0 hz1 hz2 rfl (by omega) _ lr.length _ (by rfl) (own_heap HO2.out.row (fun k hk => (((vbox w2 _).trans ((vbox _ _).mono (by simp))).block k (HO2.out.row.lt k hk).2))) ⟨w2.heap.size + 1, 0, none⟩ 1 1 T'.cells (by rfl) (by rfl) ?news (cells_one T') (by omega) (by unfold maxLen; omega) (by omega) (by have := HB2.out.z; simp; omega) (w2.heap.size + 2) (by simp) ?_)
        case news =>
          have := news_of_cells (w2.alloc (.cells #[.int .i64 T'.k, .int .i64 T'.n, .int .i64 T'.x, .string ⟨T'.s.toArray⟩, .slice T'.a T'.l.length T'.cap] 26)) T'
          simpa using this
        intro gg cap2 w3 hown3 hgrow hat hlt3
        have hbW : Below w2.heap.size w2 ((w2.alloc (.cells #[.int .i64 T'.k, .int .i64 T'.n, .int .i64 T'.x, .string ⟨T'.s.toArray⟩, .slice T'.a T'.l.length T'.cap] 26)).alloc (.cells #[.int .i64 T'.k, .int .i64 T'.n, .int .i64 T'.x, .string ⟨T'.s.toArray⟩, .slice T'.a T'.l.length T'.cap] 26)) := boxes2 w2 _ _
        obtain ⟨hnew, hnd3⟩ := row_push (HO2.out.blw hbW) HD.out (HOT.out.blw hbW) HNT.out HDI.out hown3 hgrow (by simpa using hat)
        have hb3 : Rl W0 w3 := ⟨HB2.out.b.trans (below_push hgrow (fun k hk => (HO2.out.row.lt k hk).1) hbW HB2.out.z), by have h1 := HB2.out.z; have h2 := hbW.size; have h3 := hgrow.size; omega⟩
        have HNEW := Lib.hid hnew
        have HND3 := Lib.hid hnd3
        have HB3 := Lib.hid hb3
        have HPT : Hid (AT.ptL (lr ++ [T']) = AT.ptL ((evens l).take (lr.length + 1))) := Lib.hid (by
          rw [AT.ptL_eq, List.map_append, ← AT.ptL_eq, HP.out, List.map_singleton, HX.out, HPt.out])
        have hwr : IntKind.i64.wrap ((q : Int) + 2) = (q : Int) + 2 := IntWalk.i64_in _ (by omega)
        clear hown3 hgrow hat hlt3 hbW hnew hnd3 hb3
        go_wp2
        go_roundw
        case rel => exact ⟨lr ++ [T'], some ⟨gg, 0, none⟩, cap2, q + 2, by rw [List.length_append]; rfl, by go_num, Lib.hid (by rw [List.length_append, List.length_singleton]; have := HQ.out; omega), by rw [List.length_append, List.length_singleton]; have := HQ.out; omega, by rw [List.length_append, List.length_singleton]; exact HPT.out, HNEW.out, HND3.out, HB3.out⟩
        case measure => simp [intOf]; omega
      · have heq : lr.length = (evens l).length := by rw [evens_length]; have := HQ.out; omega
        have HE := Lib.hid heq
        clear hb heq
        have hnl : ¬ (q : Int) < l.length := by omega
        go_wp2
        go_ret
        exact ⟨a', cap', lr, by rw [HP.out, HE.out, List.take_length, HNM.out], rfl, ⟨own_base' HO.out.row hwz, fun t ht => (HO.out.sub t ht).base hwz⟩, HD.out, HBw.out⟩
  · have HNM : Hid (p = []) := Lib.hid (by rw [← hnm]; simp [AT.names, AT.k, hk, AT.ptL])
    clear hnm
    go_loopw [3, 4] (fun v i wr => v = .slice (some ⟨W0.heap.size, 0, none⟩) 0 0 ∧ i = .int .i64 0 ∧ wr = W0.alloc (.cells #[] 26)) (fun _ i _ => 0)
    case atStart => exact ⟨rfl, rfl, rfl⟩
    case round =>
      obtain ⟨rfl, rfl, rfl⟩ := hrel
      obtain ⟨v0, v1, v2, v3, v4⟩ := HVB.out.blw (vbox W0 (.cells #[] 26))
      have hkb : (k == 10) = false := by simpa using hk
      by_cases hl0 : (0 : Int) < l.length
      · go_wp2
        go_ret
        exact ⟨some ⟨W0.heap.size, 0, none⟩, 0, [], by rw [HNM.out]; rfl, rfl, emptyRow W0 _ hwz, by simp [AT.blksL], HB0.out.trans ((vbox W0 _).mono hwz)⟩
      · go_wp2
        go_ret
        exact ⟨some ⟨W0.heap.size, 0, none⟩, 0, [], by rw [HNM.out]; rfl, rfl, emptyRow W0 _ hwz, by simp [AT.blksL], HB0.out.trans ((vbox W0 _).mono hwz)⟩
/-- a row of one's own whose elements' elements are foreign -/
structure RowL (w : World) (B N : Nat) (a : Option Addr) (cap : Nat) (l : List AT) : Prop where
  row : w.ownsRow B 26 5 (.slice a l.length cap) l.length (cellsL l)
  sub : ∀ t ∈ l, t.In w N
theorem RowL.lv {w : World} {B N : Nat} {a : Option Addr} {cap : Nat} {l : List AT} (h : RowL w B N a cap l) (hN : N ≤ w.heap.size) : Lv w w.heap.size a cap l where
  hc := (own_cap h.row).2.1
  cell j hj := by
    obtain ⟨g, ha, _, hlt, hC⟩ := own_cellL h.row j hj
    exact ⟨g, 0, ha, hlt, hC⟩
  sub t ht := (h.sub t ht).mono hN
theorem RowL.blw {w w' : World} {B N : Nat} {a : Option Addr} {cap : Nat} {l : List AT} (h : RowL w B N a cap l) (hN : N ≤ w.heap.size) (hb : Below w.heap.size w w') : RowL w' B N a cap l :=
  ⟨own_heap h.row fun k hk => hb.block k (h.row.lt k hk).2, fun t ht => (h.sub t ht).blw hb hN⟩
set_option maxHeartbeats 2000000 in
theorem names_impl (T : AT) (w : World) (N : Nat) (hin : T.In w N) (hll : T.l.length ≤ 1048576) (hN : N ≤ w.heap.size) : Calls Try.prog 100 #[T.val] w fun e w' => ∃ a cap, e = .returned (.slice a T.names.length cap) ∧ RowL w' w.heap.size N a cap T.names ∧ Below w.heap.size w w' := by
  obtain ⟨i0, hi, hz0, hz1, hz2⟩ := info_parts valInfo
  have H := Lib.hid hin.lv'
  clear hin
  obtain ⟨k, n, x, s, a, cap, l⟩ := T
  simp only [AT.l, AT.a, AT.cap] at H hll
  have hnm : (AT.mk k n x s a cap l).names = if k = 10 then evens l else [] := rfl
  rw [hnm]
  clear hnm
  show Calls Try.prog 100 #[.agg #[.int .i64 k, .int .i64 n, .int .i64 x, .string ⟨s.toArray⟩, .slice a l.length cap]] w _
  have hvb : VC (w.alloc (.cells #[.int .i64 k, .int .i64 n, .int .i64 x, .string ⟨s.toArray⟩, .slice a l.length cap] 26)) w.heap.size k n x ⟨s.toArray⟩ a l.length cap := by refine ⟨?_, ?_, ?_, ?_, ?_⟩ <;> simp [go_sem]
  have hB0 := vbox w (.cells #[.int .i64 k, .int .i64 n, .int .i64 x, .string ⟨s.toArray⟩, .slice a l.length cap] 26)
  have hz : (w.alloc (.cells #[.int .i64 k, .int .i64 n, .int .i64 x, .string ⟨s.toArray⟩, .slice a l.length cap] 26)).heap.size = w.heap.size + 1 := by simp
  by_cases hk : k = 10
  · subst hk
    rw [if_pos rfl]
    go_enter Try.func100, Try.ntmps100
    go_wp2_with fail
    generalize w.alloc (.cells #[.int .i64 10, .int .i64 n, .int .i64 x, .string ⟨s.toArray⟩, .slice a l.length cap] 26) = W0 at *
    have HVB := Lib.hid hvb
    have HB0 := Lib.hid hB0
    rw [← hz]
    have hwz : w.heap.size ≤ W0.heap.size := by omega
    clear hB0 hz hvb
    go_loopw [3, 4] (fun v i wr => ∃ (j : Nat) (a' : Option Addr) (cap' q : Nat), v = .slice a' j cap' ∧ i = .int .i64 q ∧ Hid (q = 2 * j) ∧ Hid (j ≤ (evens l).length) ∧ Hid (wr.ownsRow W0.heap.size 26 5 (.slice a' j cap') j (cellsL ((evens l).take j))) ∧ Hid (Rl W0 wr)) (fun _ i _ => l.length + 1 - (intOf i).toNat)
    case atStart => exact ⟨0, _, _, 0, rfl, rfl, Lib.hid rfl, Lib.hid (Nat.zero_le _), Lib.hid (by simpa using (emptyRow W0 W0.heap.size (Nat.le_refl _)).row), Lib.hid ((Rl.refl W0).alloc _)⟩
    case round =>
      obtain ⟨j, a', cap', q, rfl, rfl, HQ, HJ, HO, HB⟩ := hrel
      have HBw := Lib.hid (HB0.out.trans (HB.out.b.mono HB0.out.size))
      obtain ⟨v0, v1, v2, v3, v4⟩ := HVB.out.blw HB.out.b
      by_cases hlt : q < l.length
      · obtain ⟨b, o, rfl, hbN, hC⟩ := H.out.cell q hlt
        have hC := hC.keep (HBw.out.block b (by omega))
        have HPt : Hid ((evens l).take (j + 1) = (evens l).take j ++ [l[q]]) := Lib.hid (by
          have hq := HQ.out
          subst hq
          exact evens_take hlt)
        have HJ2 : Hid (j + 1 ≤ (evens l).length) := Lib.hid (by rw [evens_length]; have := HQ.out; omega)
        have hj3 : j ≤ 1048576 := by have h1 := HJ.out; rw [evens_length] at h1; omega
        obtain ⟨T, hT⟩ : ∃ T, T = l[q] := ⟨_, rfl⟩
        rw [← hT] at hC HPt
        clear hT
        obtain ⟨c0, c1, c2, c3, c4⟩ := hC
        have hlt' : (q : Int) < l.length := by omega
        go_wp2_with (refine wpList_append_lies _ (by rfl) _ _ _ (by rfl) W0.heap.size 26 i0 _ 5 64 Try.underlying24 hi hz0 hz1 hz2 rfl (by omega) _ j _ (by rfl) (own_heap HO.out (fun k hk => ((vbox wr _).block k (HO.out.lt k hk).2))) ⟨wr.heap.size, 0, none⟩ 1 1 T.cells (by rfl) (by rfl) (news_of_cells wr T) (cells_one T) (by omega) (by unfold maxLen; omega) (by omega) (by have := HB.out.z; simp; omega) (wr.heap.size + 1) (by simp) ?_)
        intro gg cap2 w3 hown3 hgrow hat hlt3
        have hb3 : Rl W0 w3 := ⟨HB.out.b.trans (below_push hgrow (fun k hk => (HO.out.lt k hk).1) (vbox wr _) HB.out.z), by have h1 := HB.out.z; have h2 := (vbox wr (.cells #[.int .i64 T.k, .int .i64 T.n, .int .i64 T.x, .string ⟨T.s.toArray⟩, .slice T.a T.l.length T.cap] 26)).size; have h3 := hgrow.size; omega⟩
        have HNEW : Hid (w3.ownsRow W0.heap.size 26 5 (.slice (some ⟨gg, 0, none⟩) (j + 1) cap2) (j + 1) (cellsL ((evens l).take (j + 1)))) := Lib.hid (by rw [HPt.out, cellsL_append, cellsL_one]; exact hown3)
        have HB3 := Lib.hid hb3
        clear hown3 hgrow hat hlt3 hb3 c0 c1 c2 c3 c4 v0 v1 v2 v3 v4
        go_wp2
        go_roundw
        case rel => exact ⟨j + 1, some ⟨gg, 0, none⟩, cap2, q + 2, rfl, by go_num, Lib.hid (by have := HQ.out; omega), HJ2, HNEW, HB3⟩
        case measure => simp [intOf]; omega
      · have heq : j = (evens l).length := by have h1 := HJ.out; rw [evens_length] at *; have := HQ.out; omega
        subst heq
        have hnl : ¬ (q : Int) < l.length := by omega
        go_wp2
        go_ret
        refine ⟨a', cap', rfl, ⟨own_base' (by have := HO.out; rwa [List.take_length] at this) hwz, fun t ht => (H.out.sub t (evens_mem ht)).blw HBw.out hN⟩, HBw.out⟩
  · rw [if_neg hk]
    have hkb : (k != 10) = true := by simpa using hk
    go_enter Try.func100, Try.ntmps100
    go_wp2
    go_ret
    exact ⟨some ⟨w.heap.size + 1, 0, none⟩, 0, rfl, ⟨by have := (emptyRow (w.alloc (.cells #[.int .i64 k, .int .i64 n, .int .i64 x, .string ⟨s.toArray⟩, .slice a l.length cap] 26)) w.heap.size (by simp)).row; simpa using this, by simp⟩, two' _ _ _⟩
end Go.Proofs.Ytpkmlfmkgodhkaa
