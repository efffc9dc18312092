import Derived.Test.YtilgncebhgplaaaG14
import Derived.Test.YtilgncebhgplaaaG8
/- The program's copy: the steps within a round, and the measure. -/
namespace Go.Proofs.Ytilgncebhgplaaa
open Go.RowKit
theorem mid_set4 (X Y : List Value) (v0 v1 v2 v3 v4 u : Value) (p : Nat) (hx : X.length = p) : (X ++ [v0, v1, v2, v3, v4] ++ Y).set (p + 4) u = X ++ [v0, v1, v2, v3, u] ++ Y := by
  subst hx
  simp [List.set_append]
theorem drop_cells (l : List AT) (i : Nat) (h : i < l.length) : cellsL (l.drop i) = (l[i]).cells ++ cellsL (l.drop (i + 1)) := by
  rw [List.drop_eq_getElem_cons h]; rfl
theorem own_setL {w : World} {B g n cap : Nat} {ns l : List AT} {u : Value} (h : w.ownsRow B 28 5 (.slice (some ⟨g, 0, none⟩) n cap) n (cellsL ns ++ cellsL (l.drop ns.length))) (hi : ns.length < l.length) (T : AT) (hT : T = l[ns.length]) (a : Option Addr) (c : Nat) (m : List AT) (hu : u = .slice a m.length c) :
    (w.setCell ⟨g, ns.length * 5 + 4, none⟩ u).ownsRow B 28 5 (.slice (some ⟨g, 0, none⟩) n cap) n (cellsL (ns ++ [.mk T.k T.n T.x T.s a c m]) ++ cellsL (l.drop (ns ++ [AT.mk T.k T.n T.x T.s a c m]).length)) := by
  have h1 := (h.stored (ns.length * 5 + 4) u).1
  have e : cellsL ns ++ cellsL (l.drop ns.length) = cellsL ns ++ [.int .i64 T.k, .int .i64 T.n, .int .i64 T.x, .string ⟨T.s.toArray⟩, .slice T.a T.l.length T.cap] ++ cellsL (l.drop (ns.length + 1)) := by
    rw [drop_cells l ns.length hi, ← hT, ← List.append_assoc]; rfl
  rw [e, mid_set4 _ _ _ _ _ _ _ _ _ (cellsL_length ns)] at h1
  rw [cellsL_append, cellsL_one, List.length_append, List.length_singleton, hu] at *
  exact h1
theorem MidAt.facts {w1 wi : World} {N B : Nat} {Qs : List Pend} {Q : Pend} {h : Nat} {ns : List AT} {Cs : List Pend} {h' cap' : Nat} (hm : MidAt w1 wi N B Qs Q h ns Cs h' cap') :
    B ≤ Q.g ∧ Q.g < wi.heap.size ∧ B ≤ h' ∧ h' < wi.heap.size ∧ h' ≠ Q.g ∧ (∀ R ∈ Qs ++ Cs, R.g ≠ h' ∧ R.g ≠ Q.g ∧ R.g < wi.heap.size) ∧ w1.heap.size ≤ wi.heap.size := by
  have h1 := hm.rowQ.lt Q.g rfl
  have h2 := hm.row.lt h' rfl
  have hnd := hm.nd
  rw [List.nodup_cons, List.nodup_cons] at hnd
  refine ⟨h1.1, h1.2, h2.1, h2.2, fun e => hnd.1 (by rw [e]; simp), fun R hR => ⟨fun e => hnd.1 ?_, fun e => hnd.2.1 ?_, (hm.pend R hR).lt.2⟩, hm.only.size⟩
  · rw [← e]; exact List.mem_cons_of_mem _ (List.mem_map_of_mem hR)
  · rw [← e]; exact List.mem_map_of_mem hR
/-- an element without elements of its own -/
theorem MidAt.none' {w1 wi wA : World} {N B : Nat} {Qs : List Pend} {Q : Pend} {h : Nat} {ns : List AT} {Cs : List Pend} {h' cap' : Nat} (hm : MidAt w1 wi N B Qs Q h ns Cs h' cap') (hN : N ≤ B) (hi : ns.length < Q.l.length) (T : AT) (hT : T = Q.l[ns.length]) (hl : T.l = []) (hg : wi.grownBy wA none) :
    MidAt w1 (wA.setCell ⟨Q.g, ns.length * 5 + 4, none⟩ (.slice none 0 0)) N B Qs Q h (ns ++ [.mk T.k T.n T.x T.s none 0 []]) Cs h' cap' := by
  have f := hm.facts
  have hk : ∀ k, k < wi.heap.size → k ≠ Q.g → (wA.setCell ⟨Q.g, ns.length * 5 + 4, none⟩ (.slice none 0 0)).heap[k]? = wi.heap[k]? := fun k hk hne =>
    (Below.heap_setCell _ _ _ _ (by show k ≠ Q.g; exact hne)).trans (hg.block k hk (by simp))
  have hQA : wA.ownsRow B 28 5 Q.val Q.l.length (cellsL ns ++ cellsL (Q.l.drop ns.length)) := own_heap hm.rowQ fun k hk2 => hg.block k (hm.rowQ.lt k hk2).2 (by simp)
  exact {
    mt := by
      rw [List.length_append, List.length_singleton, List.take_succ_eq_append_getElem hi, ← hT]
      exact .mnone T hm.mt hl
    len := by simp; omega
    rowQ := own_setL hQA hi T hT none 0 [] rfl
    row := own_heap hm.row fun k hk2 => by
      simp [Value.ownBlock] at hk2
      subst hk2
      exact hk _ f.2.2.2.1 f.2.2.2.2.1
    pend := fun R hR => (hm.pend R hR).kept fun k hk2 => by
      have := f.2.2.2.2.2.1 R hR
      exact hk k (by rcases hk2 with rfl | h; omega; omega) (by rcases hk2 with rfl | h; omega; omega)
    new := hm.new
    nd := hm.nd
    hh := hm.hh
    only := (hm.only.trans (.of_below ⟨hg.os, hg.tape, hg.output, hg.size, fun k hk => hg.block k hk (by simp)⟩)).setP }
/-- an element whose elements are taken over into a row of its own, which is pushed -/
theorem MidAt.some' {w1 wi wA wD : World} {N B : Nat} {Qs : List Pend} {Q : Pend} {h : Nat} {ns : List AT} {Cs : List Pend} {h' cap' c capc h2 cap2 : Nat} {ob : Obj} (hm : MidAt w1 wi N B Qs Q h ns Cs h' cap') (hN : N ≤ B) (hi : ns.length < Q.l.length) (T : AT) (hT : T = Q.l[ns.length]) (hl : T.l ≠ []) (hF : Frn wi N T)
    (hg : wi.grownBy wA none) (hc : c = wi.heap.size) (hcA : c < wA.heap.size) (hown : wA.ownsRow B 28 5 (.slice (some ⟨c, 0, none⟩) T.l.length capc) T.l.length (cellsL T.l))
    (hownD : wD.ownsRow B 26 1 (.slice (some ⟨h2, 0, none⟩) ((Qs ++ Cs).length + 1) cap2) ((Qs ++ Cs).length + 1) ((Qs ++ Cs).map Pend.val ++ [(Pend.mk c capc T.l).val]))
    (hgD : ((wA.setCell ⟨Q.g, ns.length * 5 + 4, none⟩ (.slice (some ⟨c, 0, none⟩) T.l.length capc)).alloc ob).grownBy wD (some h')) (hat : some h' = some h2 ∨ h2 = wA.heap.size + 1) :
    MidAt w1 wD N B Qs Q h (ns ++ [.mk T.k T.n T.x T.s (some ⟨c, 0, none⟩) capc T.l]) (Cs ++ [⟨c, capc, T.l⟩]) h2 cap2 := by
  have f := hm.facts
  have hsA := hg.size
  have hsD : wA.heap.size + 1 ≤ wD.heap.size := by have := hgD.size; simpa [World.setCell] using this
  have hkD : ∀ k, k < wA.heap.size → k ≠ h' → wD.heap[k]? = (wA.setCell ⟨Q.g, ns.length * 5 + 4, none⟩ (.slice (some ⟨c, 0, none⟩) T.l.length capc)).heap[k]? := fun k hk hne =>
    (hgD.block k (by simp [World.setCell]; omega) (by simpa using hne)).trans (Below.heap_alloc _ _ _ (by simpa [World.setCell] using hk))
  have hkA : ∀ k, k < wA.heap.size → k ≠ h' → k ≠ Q.g → wD.heap[k]? = wA.heap[k]? := fun k hk h1 h2 => (hkD k hk h1).trans (Below.heap_setCell _ _ _ _ (by show k ≠ Q.g; exact h2))
  have hk : ∀ k, k < wi.heap.size → k ≠ h' → k ≠ Q.g → wD.heap[k]? = wi.heap[k]? := fun k hk h1 h2 => (hkA k (by omega) h1 h2).trans (hg.block k hk (by simp))
  have hQA : wA.ownsRow B 28 5 Q.val Q.l.length (cellsL ns ++ cellsL (Q.l.drop ns.length)) := own_heap hm.rowQ fun k hk2 => hg.block k (hm.rowQ.lt k hk2).2 (by simp)
  have hFD : Frn wD N T := hF.kept fun k hkN => hk k (by omega) (by omega) (by omega)
  exact {
    mt := by
      rw [List.length_append, List.length_singleton, List.take_succ_eq_append_getElem hi, ← hT]
      exact .msome T c capc hm.mt
    len := by simp; omega
    rowQ := own_heap (own_setL hQA hi T hT (some ⟨c, 0, none⟩) capc T.l rfl) fun k hk2 => by
      simp [Value.ownBlock] at hk2
      subst hk2
      exact hkD _ (by omega) (by omega)
    row := by
      rw [← List.append_assoc, List.length_append, List.map_append]
      exact hownD
    pend := fun R hR => by
      rw [← List.append_assoc, List.mem_append] at hR
      rcases hR with hR | hR
      · have := f.2.2.2.2.2.1 R hR
        exact (hm.pend R hR).kept fun k hk2 => hk k (by rcases hk2 with rfl | h; omega; omega) (by rcases hk2 with rfl | h; omega; omega) (by rcases hk2 with rfl | h; omega; omega)
      · obtain rfl := List.mem_singleton.1 hR
        exact ⟨own_heap hown fun k hk2 => by simp [Value.ownBlock] at hk2; subst hk2; exact hkA _ hcA (by omega) (by omega), fun t ht => hFD.sub ht, hl⟩
    new := fun C hC => by
      rcases List.mem_append.1 hC with hC | hC
      · exact hm.new C hC
      · obtain rfl := List.mem_singleton.1 hC
        show w1.heap.size ≤ c
        omega
    nd := by
      have hnd := hm.nd
      rw [List.nodup_cons, List.nodup_cons] at hnd
      rw [← List.append_assoc, List.map_append, List.nodup_cons, List.nodup_cons, List.nodup_append]
      have hlt : ∀ k ∈ (Qs ++ Cs).map Pend.g, k < wi.heap.size ∧ k ≠ h' ∧ k ≠ Q.g := fun k hk2 => by
        obtain ⟨R, hR, rfl⟩ := List.mem_map.1 hk2
        have := f.2.2.2.2.2.1 R hR
        exact ⟨this.2.2, this.1, this.2.1⟩
      have hh2 : h2 = h' ∨ h2 = wA.heap.size + 1 := by rcases hat with h | h; exact .inl (by injection h with h; exact h.symm); exact .inr h
      refine ⟨fun hx => ?_, fun hx => ?_, hnd.2.2, by simp, fun x hx y hy e => ?_⟩
      · simp only [List.mem_cons, List.mem_append, List.map_cons, List.map_nil, List.not_mem_nil, or_false] at hx
        rcases hx with hx | hx | hx
        · omega
        · have := hlt h2 hx; omega
        · omega
      · rw [List.mem_append] at hx
        rcases hx with hx | hx
        · exact hnd.2.1 hx
        · simp at hx; omega
      · have := hlt x hx
        simp at hy
        omega
    hh := by
      have hh2 : h2 = h' ∨ h2 = wA.heap.size + 1 := by rcases hat with h | h; exact .inl (by injection h with h; exact h.symm); exact .inr h
      have := hm.hh
      omega
    only := by
      refine ⟨?_, ?_, ?_, by omega, fun k hk2 h1 h3 => ?_⟩
      · rw [hgD.os]; exact hg.os.trans hm.only.os
      · rw [hgD.tape]; exact hg.tape.trans hm.only.tape
      · rw [hgD.output]; exact hg.output.trans hm.only.output
      · by_cases hkh : k = h'
        · have := hm.hh; omega
        · exact (hk k (by omega) hkh h1).trans (hm.only.block k hk2 h1 h3) }
theorem len_le_rest (Qs : List Pend) (h : ∀ Q ∈ Qs, Q.l ≠ []) : Qs.length ≤ restN Qs := by
  induction Qs with
  | nil => exact Nat.zero_le _
  | cons Q Qs ih =>
    have h1 := ih (fun R hR => h R (by simp [hR]))
    have h2 : 1 ≤ PT.cntL (AT.ptL Q.l) := by
      have := h Q (by simp)
      cases hq : Q.l with
      | nil => exact absurd hq this
      | cons t l => simp only [AT.ptL, PT.cntL, cnt_eq']; omega
    simp only [restN, List.map_cons, List.sum_cons, List.length_cons] at *
    omega
theorem pend_uniq {w : World} {N B N' B' : Nat} {Q R : Pend} (h : PendAt w N B Q) (h' : PendAt w N' B' R) (hv : Q.val = R.val) : Q = R := by
  obtain ⟨g, cap, l⟩ := Q
  obtain ⟨g', cap', l'⟩ := R
  simp only [Pend.val, Value.slice.injEq, Option.some.injEq, Addr.mk.injEq, and_true] at hv
  obtain ⟨rfl, hl, rfl⟩ := hv
  have i1 : (AT.mk 0 0 0 [] (some ⟨g, 0, none⟩) cap l).In w w.heap.size := AT.Own.in (B := 0) (.mk (own_base' h.row (Nat.zero_le _)) fun t ht => (h.sub t ht).1)
  have i2 : (AT.mk 0 0 0 [] (some ⟨g, 0, none⟩) cap l').In w w.heap.size := AT.Own.in (B := 0) (.mk (own_base' h'.row (Nat.zero_le _)) fun t ht => (h'.sub t ht).1)
  have := i1.uniq i2 (by simp only [AT.val, AT.k, AT.n, AT.x, AT.s, AT.a, AT.cap, AT.l, hl])
  injection this with _ _ _ _ _ _ this
  rw [this]
theorem todo_uniq {w : World} {N B N' B' h cap h' cap' : Nat} {Qs Rs : List Pend} (r1 : w.ownsRow B 26 1 (.slice (some ⟨h, 0, none⟩) Qs.length cap) Qs.length (Qs.map Pend.val)) (p1 : ∀ Q ∈ Qs, PendAt w N B Q)
    (r2 : w.ownsRow B' 26 1 (.slice (some ⟨h', 0, none⟩) Rs.length cap') Rs.length (Rs.map Pend.val)) (p2 : ∀ Q ∈ Rs, PendAt w N' B' Q) (hv : (Value.slice (some ⟨h, 0, none⟩) Qs.length cap) = .slice (some ⟨h', 0, none⟩) Rs.length cap') : Qs = Rs := by
  simp only [Value.slice.injEq, Option.some.injEq, Addr.mk.injEq, and_true] at hv
  obtain ⟨rfl, hlen, rfl⟩ := hv
  refine List.ext_getElem hlen fun j h1 h2 => ?_
  have e := (r1.cellAt j (by omega)).symm.trans (r2.cellAt j (by omega))
  rw [List.getElem?_map, List.getElem?_map, List.getElem?_eq_getElem h1, List.getElem?_eq_getElem h2] at e
  simp only [Option.map_some, Option.some.injEq] at e
  exact pend_uniq (p1 _ (List.getElem_mem h1)) (p2 _ (List.getElem_mem h2)) e
/-- the measure: what is left on the stack -/
theorem todoM_ex : ∃ M : Value → World → Nat, ∀ (w : World) (N B h cap : Nat) (Qs : List Pend), w.ownsRow B 26 1 (.slice (some ⟨h, 0, none⟩) Qs.length cap) Qs.length (Qs.map Pend.val) → (∀ Q ∈ Qs, PendAt w N B Q) → M (.slice (some ⟨h, 0, none⟩) Qs.length cap) w = restN Qs := by
  refine ⟨fun v w => Classical.epsilon fun n : Nat => ∃ N B h cap Qs, v = .slice (some ⟨h, 0, none⟩) (List.length Qs) cap ∧ w.ownsRow B 26 1 (.slice (some ⟨h, 0, none⟩) Qs.length cap) Qs.length (Qs.map Pend.val) ∧ (∀ Q ∈ Qs, PendAt w N B Q) ∧ n = restN Qs, fun w N B h cap Qs r p => ?_⟩
  have := Classical.epsilon_spec (p := fun n : Nat => ∃ N B h' cap' Rs, (Value.slice (some ⟨h, 0, none⟩) Qs.length cap) = .slice (some ⟨h', 0, none⟩) (List.length Rs) cap' ∧ w.ownsRow B 26 1 (.slice (some ⟨h', 0, none⟩) Rs.length cap') Rs.length (Rs.map Pend.val) ∧ (∀ Q ∈ Rs, PendAt w N B Q) ∧ n = restN Rs) ⟨restN Qs, N, B, h, cap, Qs, rfl, r, p, rfl⟩
  obtain ⟨_, _, _, _, Rs, hv, r', p', e⟩ := this
  show Classical.epsilon _ = _
  rw [e, todo_uniq r p r' p' hv]
end Go.Proofs.Ytilgncebhgplaaa
/- copied and ListVal of the program. -/
namespace Go.Proofs.Ytilgncebhgplaaa
open Go.RowKit
theorem TodoAt.start (w : World) (V : AT) (hF : Frn w w.heap.size V) :
    TodoAt ((w.alloc (.cells #[.int .i64 V.k, .int .i64 V.n, .int .i64 V.x, .string ⟨V.s.toArray⟩, .slice V.a V.l.length V.cap] 28)).alloc (.cells #[.int .i64 0, .int .i64 0, .int .i64 0, .string ⟨#[]⟩, .slice none 0 0] 28)) ((((w.alloc (.cells #[.int .i64 V.k, .int .i64 V.n, .int .i64 V.x, .string ⟨V.s.toArray⟩, .slice V.a V.l.length V.cap] 28)).alloc (.cells #[.int .i64 0, .int .i64 0, .int .i64 0, .string ⟨#[]⟩, .slice none 0 0] 28)).alloc (.cells #[.int .i64 V.k, .int .i64 V.n, .int .i64 V.x, .string ⟨V.s.toArray⟩, .slice V.a V.l.length V.cap] 28)).alloc (.cells #[.slice (some ⟨w.heap.size + 1 + 1, 0, none⟩) 1 1] 26)) w.heap.size (w.heap.size + 1 + 1) ⟨w.heap.size + 1 + 1, 1, [V]⟩ (w.heap.size + 1 + 1 + 1) 1 [⟨w.heap.size + 1 + 1, 1, [V]⟩] := by
  have hb : Below w.heap.size w ((((w.alloc (.cells #[.int .i64 V.k, .int .i64 V.n, .int .i64 V.x, .string ⟨V.s.toArray⟩, .slice V.a V.l.length V.cap] 28)).alloc (.cells #[.int .i64 0, .int .i64 0, .int .i64 0, .string ⟨#[]⟩, .slice none 0 0] 28)).alloc (.cells #[.int .i64 V.k, .int .i64 V.n, .int .i64 V.x, .string ⟨V.s.toArray⟩, .slice V.a V.l.length V.cap] 28)).alloc (.cells #[.slice (some ⟨w.heap.size + 1 + 1, 0, none⟩) 1 1] 26)) := (boxes3 w _ _ _).alloc (by simp; omega) _
  have hn1 := heap_alloc_new ((w.alloc (.cells #[.int .i64 V.k, .int .i64 V.n, .int .i64 V.x, .string ⟨V.s.toArray⟩, .slice V.a V.l.length V.cap] 28)).alloc (.cells #[.int .i64 0, .int .i64 0, .int .i64 0, .string ⟨#[]⟩, .slice none 0 0] 28)) (.cells #[.int .i64 V.k, .int .i64 V.n, .int .i64 V.x, .string ⟨V.s.toArray⟩, .slice V.a V.l.length V.cap] 28)
  have hn2 := heap_alloc_new (((w.alloc (.cells #[.int .i64 V.k, .int .i64 V.n, .int .i64 V.x, .string ⟨V.s.toArray⟩, .slice V.a V.l.length V.cap] 28)).alloc (.cells #[.int .i64 0, .int .i64 0, .int .i64 0, .string ⟨#[]⟩, .slice none 0 0] 28)).alloc (.cells #[.int .i64 V.k, .int .i64 V.n, .int .i64 V.x, .string ⟨V.s.toArray⟩, .slice V.a V.l.length V.cap] 28)) (.cells #[.slice (some ⟨w.heap.size + 1 + 1, 0, none⟩) 1 1] 26)
  simp only [World.size_alloc] at hn1 hn2
  exact {
    row := ⟨rfl, .inr ⟨w.heap.size + 1 + 1 + 1, 1, _, rfl, by omega, hn2, Nat.le_refl _, by unfold maxLen; omega, rfl, rfl⟩⟩
    pend := fun Q hQ => by
      obtain rfl := List.mem_singleton.1 hQ
      refine ⟨⟨rfl, .inr ⟨w.heap.size + 1 + 1, 1, _, rfl, Nat.le_refl _, (Below.heap_alloc _ _ _ (by simp)).trans hn1, Nat.le_refl _, by unfold maxLen; omega, rfl, rfl⟩⟩, fun t ht => ?_, by simp⟩
      obtain rfl := List.mem_singleton.1 ht
      exact hF.kept fun k hk => hb.block k hk
    nd := by simp
    nB := by omega
    wand := fun w' bss hd _ _ _ => by
      cases bss with
      | nil => exact hd.elim
      | cons bs bss => exact ⟨bs, hd.1⟩
    w0B := by simp
    below := boxes2 _ _ _ }
theorem cellsL_one' (l : List AT) : ∀ u ∈ cellsL l, u.oneCell' = true := by
  intro u hu
  obtain ⟨t, _, ht⟩ := List.mem_flatMap.1 hu
  exact cells_one t u ht
theorem cnt_mem {l : List AT} {t : AT} (h : t ∈ l) : t.pt.cnt ≤ PT.cntL (AT.ptL l) := by
  induction l with
  | nil => simp at h
  | cons u l ih =>
    simp only [AT.ptL, PT.cntL]
    rcases List.mem_cons.1 h with rfl | h
    · omega
    · have := ih h; omega
set_option maxHeartbeats 4000000 in
set_option maxRecDepth 100000 in
theorem copied_any (V : AT) (w : World) (B0 : Nat) (hown : V.Own w B0) (hsz : V.pt.sz ≤ 1048576) : Calls Try.prog 21 #[V.val] w (FreshV w V.pt) := by
  obtain ⟨i0, hi, hz0, hz1, hz2⟩ := info_parts valInfo
  obtain ⟨j0, hj, hy0, hy1, hy2⟩ := info_parts walkInfo
  obtain ⟨M, hM⟩ := todoM_ex
  have HM := Lib.hid hM
  have HF : Hid (Frn w w.heap.size V) := Lib.hid ⟨hown.base (Nat.zero_le _), fun k hk => (hown.lt k hk).2⟩
  have hcnt : V.pt.cnt ≤ 1048577 := by have := cnt_le_sz V.pt; omega
  have HCNT := Lib.hid hcnt
  have HSZ := Lib.hid hsz
  clear hM hown hcnt hsz
  show Calls Try.prog 21 #[.agg #[.int .i64 V.k, .int .i64 V.n, .int .i64 V.x, .string ⟨V.s.toArray⟩, .slice V.a V.l.length V.cap]] w _
  go_enter Try.func21, Try.ntmps21
  go_wp2_with fail
  have hst := TodoAt.start w V HF.out
  have hr : ∀ wr : World, Below ((w.alloc (.cells #[.int .i64 V.k, .int .i64 V.n, .int .i64 V.x, .string ⟨V.s.toArray⟩, .slice V.a V.l.length V.cap] 28)).alloc (.cells #[.int .i64 0, .int .i64 0, .int .i64 0, .string ⟨#[]⟩, .slice none 0 0] 28)).heap.size ((w.alloc (.cells #[.int .i64 V.k, .int .i64 V.n, .int .i64 V.x, .string ⟨V.s.toArray⟩, .slice V.a V.l.length V.cap] 28)).alloc (.cells #[.int .i64 0, .int .i64 0, .int .i64 0, .string ⟨#[]⟩, .slice none 0 0] 28)) wr → wr.cell? ⟨w.heap.size + 1, 0, none⟩ = some (.int .i64 0) ∧ wr.cell? ⟨w.heap.size + 1, 1, none⟩ = some (.int .i64 0) ∧ wr.cell? ⟨w.heap.size + 1, 2, none⟩ = some (.int .i64 0) ∧ wr.cell? ⟨w.heap.size + 1, 3, none⟩ = some (.string ⟨#[]⟩) ∧ wr.cell? ⟨w.heap.size + 1, 4, none⟩ = some (.slice none 0 0) ∧ ∀ o, wr.frozen? ⟨w.heap.size + 1, o, none⟩ = false := fun wr hb => by
    refine ⟨?_, ?_, ?_, ?_, ?_, fun o => (hb.frozen (by simp)).trans (by simp [go_sem])⟩ <;> exact (hb.cell (by simp)).trans (by simp [go_sem])
  have hw0 : Below w.heap.size w ((w.alloc (.cells #[.int .i64 V.k, .int .i64 V.n, .int .i64 V.x, .string ⟨V.s.toArray⟩, .slice V.a V.l.length V.cap] 28)).alloc (.cells #[.int .i64 0, .int .i64 0, .int .i64 0, .string ⟨#[]⟩, .slice none 0 0] 28)) := boxes2 _ _ _
  have HST := Lib.hid hst
  have HRR := Lib.hid hr
  have HW0 := Lib.hid hw0
  have hroot : restN [Pend.mk (w.heap.size + 1 + 1) 1 [V]] ≤ 1048577 := by
    have := HCNT.out
    simp only [restN, List.map_cons, List.map_nil, List.sum_cons, List.sum_nil, AT.ptL, PT.cntL]
    omega
  have HROOT := Lib.hid hroot
  clear hst hr hw0 hroot
  generalize ((((w.alloc (.cells #[.int .i64 V.k, .int .i64 V.n, .int .i64 V.x, .string ⟨V.s.toArray⟩, .slice V.a V.l.length V.cap] 28)).alloc (.cells #[.int .i64 0, .int .i64 0, .int .i64 0, .string ⟨#[]⟩, .slice none 0 0] 28)).alloc (.cells #[.int .i64 V.k, .int .i64 V.n, .int .i64 V.x, .string ⟨V.s.toArray⟩, .slice V.a V.l.length V.cap] 28)).alloc (.cells #[.slice (some ⟨w.heap.size + 1 + 1, 0, none⟩) 1 1] 26)) = W at *
  generalize ((w.alloc (.cells #[.int .i64 V.k, .int .i64 V.n, .int .i64 V.x, .string ⟨V.s.toArray⟩, .slice V.a V.l.length V.cap] 28)).alloc (.cells #[.int .i64 0, .int .i64 0, .int .i64 0, .string ⟨#[]⟩, .slice none 0 0] 28)) = W0 at *
  go_loopw [4] (fun v wr => ∃ (Qs : List Pend) (h cap : Nat), v = .slice (some ⟨h, 0, none⟩) Qs.length cap ∧ TodoAt W0 wr w.heap.size (w.heap.size + 1 + 1) ⟨w.heap.size + 1 + 1, 1, [V]⟩ h cap Qs ∧ restN Qs ≤ 1048577) (fun v wr => M v wr)
  case atStart => exact ⟨_, _, _, rfl, HST.out, HROOT.out⟩
  case round =>
    obtain ⟨Qs, h, cap, rfl, htd, hrest⟩ := hrel
    have HTD := Lib.hid htd
    have HRS := Lib.hid hrest
    clear hrest
    rcases snoc_or Qs with rfl | ⟨Qs0, Q, rfl⟩
    · obtain ⟨bs, l', ho, hp, hbs, hnd⟩ := htd.wand wr [] trivial (by simp) (by simp) (fun _ _ _ _ => rfl)
      obtain ⟨V', rfl⟩ : ∃ V', l' = [V'] := by
        have := congrArg List.length hp
        simp only [AT.ptL_length, List.length_singleton] at this
        exact List.length_eq_one_iff.1 this
      have hVp : V'.pt = V.pt := by simpa [AT.ptL] using hp
      obtain ⟨g, hg, _, _, hC⟩ := own_cellL ho.row 0 (by simp)
      obtain rfl : w.heap.size + 1 + 1 = g := by injection hg with hg; injection hg
      obtain ⟨d0, d1, d2, d3, d4⟩ := hC
      obtain ⟨q0, q1, q2, q3, q4, qf⟩ := HRR.out wr htd.below
      have HVP := Lib.hid hVp
      have HO := Lib.hid (ho.sub V' (by simp))
      have HND := Lib.hid (hbs ▸ hnd)
      have HBL := Lib.hid (HW0.out.trans (htd.below.mono HW0.out.size))
      simp only [Nat.zero_add, Nat.zero_mul, List.getElem_cons_zero] at d0 d1 d2 d3 d4
      clear htd ho hp hbs hnd hVp hg HM
      go_wp2
      refine bodyPost_ret (v := V'.val) (by simp [results, Try.results21, go_sem, q0, q1, q2, q3, q4]) rfl ⟨V', HVP.out, rfl, ?_, ?_, ?_⟩
      · refine AT.Own.base (B := w.heap.size + 1 + 1) ?_ (by omega)
        exact AT.Own.set (AT.Own.set (AT.Own.set (AT.Own.set (AT.Own.set HO.out (by omega)) (by omega)) (by omega)) (by omega)) (by omega)
      · have := HND.out
        rw [List.nodup_cons, AT.blksL_one] at this
        exact this.2
      · exact bset (bset (bset (bset (bset HBL.out (by omega)) (by omega)) (by omega)) (by omega)) (by omega)
    · obtain ⟨wo, rfl⟩ : ∃ wo, wo = wr := ⟨_, rfl⟩
      have hrow := htd.row
      have hlQ : (Qs0 ++ [Q]).length = Qs0.length + 1 := by simp
      have hcl := hrow.cellAt Qs0.length (by simp)
      rw [List.map_append, List.getElem?_append_right (by simp)] at hcl
      simp only [List.length_map, Nat.sub_self, List.map_cons, List.map_nil, List.getElem?_cons_zero] at hcl
      replace hcl : wo.cell? ⟨h, Qs0.length, none⟩ = some (.slice (some ⟨Q.g, 0, none⟩) Q.l.length Q.cap) := hcl
      have hcap := own_cap hrow
      rw [hlQ] at hcap ⊢
      obtain ⟨_, hcap1, hcap2⟩ := hcap
      unfold maxLen at hcap2
      have hq0 := own_cap (htd.pend Q (by simp)).row
      have hq1 : Q.l.length ≤ 1048577 := by
        have h1 := HRS.out
        rw [restN_append] at h1
        have h2 := len_le_cnt Q.l
        simp only [restN, List.map_cons, List.map_nil, List.sum_cons, List.sum_nil] at h1
        omega
      have hqs : Qs0.length ≤ 1048577 := by
        have h1 := len_le_rest (Qs0 ++ [Q]) (fun R hR => (HTD.out.pend R hR).ne)
        have h2 := HRS.out
        rw [hlQ] at h1
        omega
      have HQ0 := Lib.hid hq0
      have hmid0 : MidAt wo wo w.heap.size (w.heap.size + 1 + 1) Qs0 Q h [] [] h cap := by
        have hnd := htd.nd
        rw [List.map_append, List.nodup_cons, List.nodup_append] at hnd
        refine { mt := .mnil, len := Nat.zero_le _, rowQ := by simpa using (htd.pend Q (by simp)).row, row := ?_, pend := fun R hR => htd.pend R (by simp at hR; simp [hR]), new := by simp, nd := ?_, hh := .inl rfl, only := Only2.refl _ _ _ }
        · rw [List.append_nil]
          exact own_sub (ys := [Q.val]) (by simpa using hrow) (by simp)
        · rw [List.append_nil, List.nodup_cons, List.nodup_cons]
          refine ⟨fun hx => hnd.1 ?_, fun hx => ?_, hnd.2.1⟩
          · simp only [List.mem_cons, List.mem_append, List.map_cons, List.map_nil, List.not_mem_nil, or_false] at hx ⊢
            rcases hx with hx | hx
            · exact .inr hx
            · exact .inl hx
          · exact hnd.2.2.2 Q.g hx Q.g (by simp) rfl
      have HMID := Lib.hid hmid0
      have hfr0 : ∀ t ∈ Q.l, Frn wo w.heap.size t := (htd.pend Q (by simp)).sub
      have HFR := Lib.hid hfr0
      have hsq : ∀ t ∈ Q.l, t.l.length ≤ 1048577 := fun t ht => by
        have h1 := HRS.out
        rw [restN_append] at h1
        simp only [restN, List.map_cons, List.map_nil, List.sum_cons, List.sum_nil] at h1
        have h2 := cnt_mem ht
        have h3 := cnt_eq' t
        have h4 := len_le_cnt t.l
        omega
      have HSQ := Lib.hid hsq
      have hcs : ∀ (ns : List AT) (Cs : List Pend) wi h' cap', MidAt wo wi w.heap.size (w.heap.size + 1 + 1) Qs0 Q h ns Cs h' cap' → (Qs0 ++ Cs).length ≤ 1048577 ∧ restN (Qs0 ++ Cs) + ns.length ≤ restN (Qs0 ++ [Q]) := fun ns Cs wi h' cap' hm => by
        have h1 := len_le_rest (Qs0 ++ Cs) (fun R hR => (hm.pend R hR).ne)
        have h2 := hm.mt.rest
        have h3 : PT.cntL (AT.ptL (Q.l.take ns.length)) ≤ PT.cntL (AT.ptL Q.l) := by
          have := cntL_take_le (AT.ptL Q.l) ns.length
          rw [AT.ptL_eq, List.map_take, ← AT.ptL_eq]; exact this
        have h4 := HRS.out
        have h5 : (Q.l.take ns.length).length = ns.length := by rw [List.length_take]; have := hm.len; omega
        rw [restN_append] at h1 h4 ⊢
        rw [restN_append]
        simp only [restN, List.map_cons, List.map_nil, List.sum_cons, List.sum_nil] at *
        omega
      have HCS := Lib.hid hcs
      have HLQ := Lib.hid hlQ
      clear hrow htd hq0 hlQ hmid0 hfr0 hsq hcs
      go_wp2_with fail
      go_loopw [4, 27] (fun v i wi => ∃ (ns : List AT) (Cs : List Pend) (h' cap' : Nat), v = .slice (some ⟨h', 0, none⟩) (Qs0 ++ Cs).length cap' ∧ i = .int .i64 ns.length ∧ MidAt wo wi w.heap.size (w.heap.size + 1 + 1) Qs0 Q h ns Cs h' cap') (fun _ i _ => Q.l.length - (intOf i).toNat)
      case atStart => exact ⟨[], [], h, cap, by simp, rfl, HMID.out⟩
      case round =>
        obtain ⟨ns, Cs, h', cap', rfl, rfl, hmid⟩ := hrel
        have HMI := Lib.hid hmid
        have hnl := hmid.len
        obtain ⟨hCs1, hCs2⟩ := HCS.out _ _ _ _ _ hmid
        have HC2 := Lib.hid hCs2
        clear hCs2
        by_cases hlt : ns.length < Q.l.length
        · obtain ⟨T, hT⟩ : ∃ T, T = Q.l[ns.length] := ⟨_, rfl⟩
          have hmem : T ∈ Q.l := by rw [hT]; exact List.getElem_mem hlt
          have hf := hmid.facts
          have hFT : Frn wr w.heap.size T := (HFR.out T hmem).kept fun k hk => hmid.only.block k (by have := (HTD.out.pend Q (by simp)).lt; omega) (by omega) (by have := (HTD.out.row.lt h rfl).1; omega)
          have hc4 : wr.cell? ⟨Q.g, ns.length * 5 + 4, none⟩ = some (.slice T.a T.l.length T.cap) := by
            rw [hmid.rowQ.cellAt (ns.length * 5 + 4) (by omega), List.getElem?_append_right (by rw [cellsL_length]; omega), cellsL_length, drop_cells Q.l ns.length hlt, ← hT]
            rw [show ns.length * 5 + 4 - ns.length * 5 = 4 by omega]
            rfl
          have hfg := hmid.rowQ.frozenAt
          have hTl := HSQ.out T hmem
          have HT := Lib.hid hT
          have HFT := Lib.hid hFT
          have HF := Lib.hid hf
          have hlt2 : (ns.length : Int) < Q.l.length := by omega
          clear hmid hT hf hFT
          by_cases hl0 : T.l = []
          · have hg0 : T.l.length = 0 := by rw [hl0]; rfl
            have hrowT := HFT.out.1.l'.row
            rw [hg0] at hc4 hrowT
            have fin : ∀ wA : World, wr.grownBy wA none → MidAt wo (wA.setCell ⟨Q.g, ns.length * 5 + 4, none⟩ (.slice none 0 0)) w.heap.size (w.heap.size + 1 + 1) Qs0 Q h (ns ++ [.mk T.k T.n T.x T.s none 0 []]) Cs h' cap' := fun wA hg => HMI.out.none' (by omega) hlt T HT.out hl0 hg
            have FIN := Lib.hid fin
            have HL0 := Lib.hid hl0
            have hkA : ∀ wA : World, wr.grownBy wA none → wA.cell? ⟨Q.g, ns.length * 5 + 4, none⟩ = wr.cell? ⟨Q.g, ns.length * 5 + 4, none⟩ ∧ wA.frozen? ⟨Q.g, ns.length * 5 + 4, none⟩ = wr.frozen? ⟨Q.g, ns.length * 5 + 4, none⟩ := fun wA hg => by
              have := hg.block Q.g HF.out.2.1 (by simp)
              exact ⟨World.cell?_of_block this, frozen_blk this⟩
            have HKA := Lib.hid hkA
            clear hl0 hg0 fin hkA
            rcases hTa : T.a with _ | ad
            · rw [hTa] at hc4 hrowT
              have hcap0 : T.cap = 0 := by
                rcases hrowT.2 with ⟨h1, _⟩ | ⟨g, c, cur, h1, _⟩
                · injection h1
                · injection h1 with h1; cases h1
              rw [hcap0] at hc4
              have HT2 := Lib.hid (And.intro hTa hcap0)
              clear hTa hcap0 hrowT
              go_wp2_with (refine wpList_append_own_none rfl _ _ _ rfl (w.heap.size + 1 + 1) 28 i0 5 Try.underlying26 hi _ 0 [] rfl (World.ownsRow_nil _ _ _ _) rfl ?_)
              refine ⟨⟨_, Cs, h', cap', by rw [List.length_append], by rw [List.length_append]; go_num, FIN.out wr (World.grownBy.refl _ _)⟩, by simp [intOf]; omega⟩
            · rw [hTa] at hc4 hrowT
              obtain ⟨b, rfl⟩ : ∃ b, ad = ⟨b, 0, none⟩ := by
                rcases hrowT.2 with ⟨h1, _⟩ | ⟨g, c, cur, h1, _⟩
                · injection h1 with h1; cases h1
                · injection h1 with h1; injection h1 with h1; exact ⟨g, h1⟩
              have HTa := Lib.hid hTa
              clear hTa hrowT
              go_wp2_with (refine wpList_append_own_at _ rfl _ _ _ rfl (w.heap.size + 1 + 1) 28 i0 _ 5 64 Try.underlying26 hi hz0 hz1 hz2 rfl (by omega) _ 0 [] rfl (World.ownsRow_nil _ _ _ _) ⟨b, 0, none⟩ 0 T.cap [] rfl rfl (by simp) (by simp) (by unfold maxLen; omega) (by omega) (by have := HF.out; omega) ?_)
              intro v' wA hownA hgrow hnil hat
              obtain rfl : v' = .slice none 0 0 := by first | exact hnil | exact hnil.2 ⟨rfl, rfl⟩
              obtain ⟨k1, k2⟩ := HKA.out wA hgrow
              have k3 : wA.frozen? ⟨Q.g, ns.length * 5 + 4, none⟩ = false := k2.trans (hfg _)
              rw [hc4] at k1
              have HG := Lib.hid hgrow
              clear hownA hgrow hnil hat k2
              go_wp2
              refine ⟨⟨_, Cs, h', cap', by rw [List.length_append], by rw [List.length_append]; go_num, FIN.out wA HG.out⟩, by simp [intOf]; omega⟩
          · have hrowT := HFT.out.1.l'.row
            obtain ⟨b, hTa, hx1, hx2, hx3⟩ := own_cellL hrowT 0 (List.length_pos_iff.2 hl0)
            clear hx1 hx2 hx3
            have hpos : 0 < T.l.length := List.length_pos_iff.2 hl0
            rw [hTa] at hc4 hrowT
            have HL0 := Lib.hid hl0
            have HTa := Lib.hid hTa
            have hnews := World.ownsRow.cells hrowT (g := b) rfl
            have HRT := Lib.hid hrowT
            clear hl0 hTa hrowT
            go_wp2_with (refine wpList_append_lies _ (by rfl) _ _ _ (by rfl) (w.heap.size + 1 + 1) 28 i0 _ 5 64 Try.underlying26 hi hz0 hz1 hz2 rfl (by omega) _ 0 [] (by rfl) (World.ownsRow_nil _ _ _ _) ⟨b, 0, none⟩ T.l.length T.cap (cellsL T.l) (by rfl) (cellsL_length T.l) hnews (cellsL_one' T.l) hpos (by unfold maxLen; omega) (by omega) (by have := HF.out; omega) wr.heap.size rfl ?_)
            intro c capc wA hownA hgrow hat hcA
            have hc : c = wr.heap.size := by simpa [Value.ownBlock] using hat
            have hownA : wA.ownsRow (w.heap.size + 1 + 1) 28 5 (.slice (some ⟨c, 0, none⟩) T.l.length capc) T.l.length (cellsL T.l) := by simpa using hownA
            have hblk : ∀ k, k < wr.heap.size → wA.heap[k]? = wr.heap[k]? := fun k hk => hgrow.block k hk (by simp [Value.ownBlock])
            have k1 : wA.cell? ⟨Q.g, ns.length * 5 + 4, none⟩ = some (.slice (some ⟨b, 0, none⟩) T.l.length T.cap) := by rw [World.cell?_of_block (hblk Q.g HF.out.2.1)]; exact hc4
            have k3 : wA.frozen? ⟨Q.g, ns.length * 5 + 4, none⟩ = false := by rw [frozen_blk (hblk Q.g HF.out.2.1)]; exact hfg _
            have hgs := hgrow.size
            have hrowH : ∀ u : Value, ((wA.setCell ⟨Q.g, ns.length * 5 + 4, none⟩ (.slice (some ⟨c, 0, none⟩) T.l.length capc)).alloc (.cells #[u] 26)).ownsRow (w.heap.size + 1 + 1) 26 1 (.slice (some ⟨h', 0, none⟩) (Qs0.length + Cs.length) cap') (Qs0.length + Cs.length) ((Qs0 ++ Cs).map Pend.val) := fun u => by
              have := own_heap HMI.out.row (w' := ((wA.setCell ⟨Q.g, ns.length * 5 + 4, none⟩ (.slice (some ⟨c, 0, none⟩) T.l.length capc)).alloc (.cells #[u] 26))) (fun k hk => by
                simp [Value.ownBlock] at hk
                subst hk
                have hf := HF.out
                exact (Below.heap_alloc _ _ _ (by simp [World.setCell]; omega)).trans ((Below.heap_setCell _ _ _ _ (by show h' ≠ Q.g; omega)).trans (hblk h' hf.2.2.2.1)))
              rwa [List.length_append] at this
            have HOA := Lib.hid hownA
            have HGR := Lib.hid hgrow
            have HC := Lib.hid hc
            have HRH := Lib.hid hrowH
            have HF2 := Lib.hid (And.intro hgs (And.intro HF.out.2.2.2.1 HF.out.1))
            have hlpos : (0 : Int) < T.l.length := by omega
            have hCs3 : Qs0.length + Cs.length ≤ 1048577 := by rw [List.length_append] at hCs1; exact hCs1
            have HCA := Lib.hid hcA
            clear hownA hgrow hat hblk hgs hrowH hc hc4 hnews hcA
            go_wp2_with (refine wpList_append_lies _ (by rfl) _ _ _ (by rfl) (w.heap.size + 1 + 1) 26 j0 _ 1 24 Try.underlying49 hj hy0 hy1 hy2 rfl (by omega) _ (Qs0.length + Cs.length) _ (by rfl) (HRH.out _) ⟨wA.heap.size, 0, none⟩ 1 1 [.slice (some ⟨c, 0, none⟩) T.l.length capc] (by rfl) (by rfl) ?news (by simp [Value.oneCell']) (by omega) (by unfold maxLen; omega) (by omega) (by have h1 := HF.out; have h2 := HF2.out; simp; omega) (wA.heap.size + 1) (by simp) ?_)
            case news =>
              have := World.news_of_block (cs := #[.slice (some ⟨c, 0, none⟩) T.l.length capc]) (t := 26) (fr := (0, 0)) (heap_alloc_new (wA.setCell ⟨Q.g, ns.length * 5 + 4, none⟩ (.slice (some ⟨c, 0, none⟩) T.l.length capc)) (.cells #[.slice (some ⟨c, 0, none⟩) T.l.length capc] 26))
              simpa using this
            intro h2 cap2 wD hownD hgD hatD hltD
            have hmidD := HMI.out.some' (wD := wD) (h2 := h2) (cap2 := cap2) (ob := .cells #[.slice (some ⟨c, 0, none⟩) T.l.length capc] 26) (by omega) hlt T HT.out HL0.out HFT.out HGR.out HC.out HCA.out HOA.out (by rw [List.length_append, List.map_append]; simpa using hownD) (by simpa [Value.ownBlock] using hgD) (by simpa [Value.ownBlock] using hatD)
            have HMD := Lib.hid hmidD
            clear hownD hgD hatD hltD hmidD
            go_wp2
            refine ⟨⟨_, Cs ++ [⟨c, capc, T.l⟩], h2, cap2, ?_, by rw [List.length_append]; go_num, HMD.out⟩, by simp [intOf]; omega⟩
            simp only [List.length_append, List.length_cons, List.length_nil]
            rw [Nat.add_assoc]
        · have hend : ns.length = Q.l.length := by omega
          have hnext := HTD.out.next hmid hend
          have hne := (HTD.out.pend Q (by simp)).ne
          have hpos : 0 < Q.l.length := List.length_pos_iff.2 hne
          have hms : M (.slice (some ⟨h', 0, none⟩) (Qs0 ++ Cs).length cap') wr < M (.slice (some ⟨h, 0, none⟩) (Qs0.length + 1) cap) wo := by
            rw [HM.out _ _ _ _ _ _ hnext.row hnext.pend, ← HLQ.out, HM.out _ _ _ _ _ _ HTD.out.row HTD.out.pend]
            have := HC2.out
            omega
          have HN := Lib.hid hnext
          have HMS := Lib.hid hms
          have HRN : Hid (restN (Qs0 ++ Cs) ≤ 1048577) := Lib.hid (by have := HC2.out; have := HRS.out; omega)
          clear hmid hnext hms hne hend
          go_wp2
          exact ⟨⟨Qs0 ++ Cs, h', cap', rfl, HN.out, HRN.out⟩, HMS.out⟩
end Go.Proofs.Ytilgncebhgplaaa
/- NamesOf of the program. -/
namespace Go.Proofs.Ytilgncebhgplaaa
open Go.RowKit
set_option maxRecDepth 100000
theorem evens_sub {l : List PT} : (evens l).length + PT.szL (evens l) ≤ l.length + PT.szL l := by
  induction l using evens.induct with
  | case1 => simp [evens]
  | case2 => simp [evens]
  | case3 x y l ih => simp only [evens, List.length_cons, PT.szL] at *; omega
theorem names_sz (p : PT) : p.names.length + PT.szL p.names ≤ p.sz := by
  obtain ⟨k, n, x, s, l⟩ := p
  simp only [PT.names, PT.sz]
  split
  · have := evens_sub (l := l); omega
  · simp [PT.szL]
end Go.Proofs.Ytilgncebhgplaaa
/- The value of a name: plain, Lookup of the model. -/
namespace Go.Proofs.Ytilgncebhgplaaa
open Go.RowKit
set_option maxRecDepth 100000
/-- the value of the last pair whose name is m -/
def lookL : List PT → PT → Option PT
  | n :: v :: l, m => (lookL l m).or (if n.same m then some v else none)
  | _, _ => none
def PT.even : PT → Bool
  | .mk k _ _ _ l => k == 10 && l.length % 2 == 0
def PT.look (p m : PT) : PT × Bool := match p with
  | .mk k n x s l => if (PT.mk k n x s l).even = true then (match lookL l m with | some v => (v, true) | none => (zeroPT, false)) else (zeroPT, false)
theorem lookL_none (l : List PT) (m : PT) (h : ∀ j (hj : 2 * j + 1 < l.length), (l[2 * j]).same m = false) : lookL l m = none := by
  induction l using evens.induct with
  | case1 => rfl
  | case2 => rfl
  | case3 x y l ih =>
    simp only [lookL]
    have h0 : x.same m = false := h 0 (by simp)
    rw [ih (fun j hj => by
      have := h (j + 1) (by simp; omega)
      simpa [Nat.mul_add] using this), h0]
    rfl
theorem lookL_some (l : List PT) (m : PT) (j : Nat) (hj : 2 * j + 1 < l.length) (h : (l[2 * j]).same m = true) (h2 : ∀ i (hi : 2 * i + 1 < l.length), j < i → (l[2 * i]).same m = false) : lookL l m = some l[2 * j + 1] := by
  induction l using evens.induct generalizing j with
  | case1 => simp at hj
  | case2 => simp at hj
  | case3 x y l ih =>
    simp only [lookL]
    cases j with
    | zero =>
      have h0 : x.same m = true := h
      rw [lookL_none l m (fun i hi => by
        have := h2 (i + 1) (by simp; omega) (by omega)
        simpa [Nat.mul_add] using this), h0]
      rfl
    | succ j =>
      have hj' : 2 * j + 1 < l.length := by simp at hj; omega
      have := ih j hj' (by simpa [Nat.mul_add] using h) (fun i hi hji => by
        have := h2 (i + 1) (by simp; omega) (by omega)
        simpa [Nat.mul_add] using this)
      rw [this]
      simp [Nat.mul_add]
theorem lookL_mem {l : List PT} {m v : PT} (h : lookL l m = some v) : v ∈ l := by
  induction l using evens.induct with
  | case1 => cases h
  | case2 => cases h
  | case3 x y l ih =>
    simp only [lookL] at h
    cases hl : lookL l m with
    | some u =>
      rw [hl] at h
      obtain rfl : u = v := by simpa using h
      exact List.mem_cons_of_mem _ (List.mem_cons_of_mem _ (ih hl))
    | none =>
      rw [hl] at h
      cases hs : x.same m
      · rw [hs] at h; cases h
      · rw [hs] at h
        obtain rfl : y = v := by simpa using h
        simp
theorem cnt_mem' {l : List PT} {t : PT} (h : t ∈ l) : t.cnt ≤ PT.cntL l := by
  induction l with
  | nil => cases h
  | cons u l ih =>
    simp only [PT.cntL]
    rcases List.mem_cons.1 h with rfl | h
    · omega
    · have := ih h; omega
theorem look_wf (p m : PT) (h : p.Wf) (hc : p.cnt ≤ 1048578) : (p.look m).1.Wf ∧ (p.look m).1.cnt ≤ 1048578 := by
  obtain ⟨k, n, x, s, l⟩ := p
  have hz : zeroPT.Wf ∧ zeroPT.cnt ≤ 1048578 := ⟨.mk (by omega) (by omega) (by omega) (by simp) (by simp) (by simp), by simp [zeroPT, PT.cnt, PT.cntL]⟩
  simp only [PT.look]
  split
  · cases hl : lookL l m with
    | none => exact hz
    | some v =>
      have hm := lookL_mem hl
      have := cnt_mem' hm
      simp only [PT.cnt] at hc
      exact ⟨h.sub' v hm, by show v.cnt ≤ _; omega⟩
  · exact hz
theorem even_iff {k n x : Int} {s : List UInt8} {l : List PT} : (PT.mk k n x s l).even = true ↔ k = 10 ∧ l.length % 2 = 0 := by simp [PT.even]
theorem l7map_spec (T : AT) (w : World) (hl : T.l.length ≤ 9223372036854775807) : Calls Try.prog 18 #[T.val] w fun e w' => e = .returned (.bool T.pt.even) ∧ Below w.heap.size w w' := by
  obtain ⟨k, n, x, s, a, cap, l⟩ := T
  have hev : (AT.mk k n x s a cap l).pt.even = (k == 10 && l.length % 2 == 0) := by simp [AT.pt, PT.even]
  rw [hev]
  simp only [AT.l] at hl
  show Calls Try.prog 18 #[.agg #[.int .i64 k, .int .i64 n, .int .i64 x, .string ⟨s.toArray⟩, .slice a l.length cap]] w _
  by_cases hk : k = 10
  · subst hk
    have hm : ((l.length : Int) % 2 == 0) = (l.length % 2 == 0) := by
      cases h : l.length % 2 == 0
      · rw [beq_eq_false_iff_ne] at *; omega
      · rw [beq_iff_eq] at *; omega
    rw [show ((10 : Int) == 10 && l.length % 2 == 0) = (l.length % 2 == 0) by simp]
    cases hq : l.length % 2 == 0
    · rw [hq] at hm
      go_enter Try.func18, Try.ntmps18
      go_wp2
      go_ret
      exact ⟨rfl, vbox _ _⟩
    · rw [hq] at hm
      go_enter Try.func18, Try.ntmps18
      go_wp2
      go_ret
      exact ⟨rfl, vbox _ _⟩
  · have hkb : (k == 10) = false := by simpa using hk
    rw [hkb]
    go_enter Try.func18, Try.ntmps18
    go_wp2
    go_ret
    exact ⟨rfl, vbox _ _⟩
theorem haspairs_impl (T : AT) (w : World) (hl : T.l.length ≤ 9223372036854775807) : Calls Try.prog 22 #[T.val] w fun e w' => e = .returned (.bool T.pt.even) ∧ Below w.heap.size w w' := by
  obtain ⟨k, n, x, s, a, cap, l⟩ := T
  have hev : (AT.mk k n x s a cap l).pt.even = (k == 10 && l.length % 2 == 0) := by simp [AT.pt, PT.even]
  rw [hev]
  simp only [AT.l] at hl
  show Calls Try.prog 22 #[.agg #[.int .i64 k, .int .i64 n, .int .i64 x, .string ⟨s.toArray⟩, .slice a l.length cap]] w _
  by_cases hk : k = 10
  · subst hk
    have hm : ((l.length : Int) % 2 == 0) = (l.length % 2 == 0) := by
      cases h : l.length % 2 == 0
      · rw [beq_eq_false_iff_ne] at *; omega
      · rw [beq_iff_eq] at *; omega
    rw [show ((10 : Int) == 10 && l.length % 2 == 0) = (l.length % 2 == 0) by simp]
    cases hq : l.length % 2 == 0
    · rw [hq] at hm
      go_enter Try.func22, Try.ntmps22
      go_wp2
      go_ret
      exact ⟨rfl, vbox _ _⟩
    · rw [hq] at hm
      go_enter Try.func22, Try.ntmps22
      go_wp2
      go_ret
      exact ⟨rfl, vbox _ _⟩
  · have hkb : (k == 10) = false := by simpa using hk
    rw [hkb]
    go_enter Try.func22, Try.ntmps22
    go_wp2
    go_ret
    exact ⟨rfl, vbox _ _⟩
theorem three_boxes (w : World) (k n x k2 n2 x2 : Int) (s s2 : ByteArray) (a a2 : Option Addr) (len cap len2 cap2 : Nat) (t : TypeId) :
    let W := ((w.alloc (.cells #[.int .i64 k, .int .i64 n, .int .i64 x, .string s, .slice a len cap] t)).alloc (.cells #[.int .i64 k2, .int .i64 n2, .int .i64 x2, .string s2, .slice a2 len2 cap2] t)).alloc (.cells #[.int .i64 0, .int .i64 0, .int .i64 0, .string ⟨#[]⟩, .slice none 0 0] t)
    VC W w.heap.size k n x s a len cap ∧ VC W (w.heap.size + 1) k2 n2 x2 s2 a2 len2 cap2 ∧ VC W (w.heap.size + 2) 0 0 0 ⟨#[]⟩ none 0 0 ∧ (∀ o, W.frozen? ⟨w.heap.size + 2, o, none⟩ = false) ∧ Below w.heap.size w W ∧ W.heap.size = w.heap.size + 3 := by
  refine ⟨⟨?_, ?_, ?_, ?_, ?_⟩, ⟨?_, ?_, ?_, ?_, ?_⟩, ⟨?_, ?_, ?_, ?_, ?_⟩, fun o => ?_, boxes3 w _ _ _, by simp⟩ <;> simp [go_sem]
end Go.Proofs.Ytilgncebhgplaaa
