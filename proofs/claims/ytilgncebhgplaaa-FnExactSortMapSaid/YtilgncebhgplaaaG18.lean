import Derived.Test.YtilgncebhgplaaaG16
import Derived.Test.YtilgncebhgplaaaG17
import Derived.Test.YtilgncebhgplaaaG15
import Derived.Test.YtilgncebhgplaaaG14
/- SortMap of the model: pairs inserted, from the right, into a row of its own. -/
namespace Go.Proofs.Ytilgncebhgplaaa
open Go.RowKit
set_option maxRecDepth 100000
theorem sb_start2 (w : World) (T C : AT) (w1 : World) (hb : Below (((w.alloc (.cells #[.int .i64 T.k, .int .i64 T.n, .int .i64 T.x, .string ⟨T.s.toArray⟩, .slice T.a T.l.length T.cap] 28)).alloc (.cells #[.int .i64 0, .int .i64 0, .int .i64 0, .string ⟨#[]⟩, .slice none 0 0] 28))).heap.size ((w.alloc (.cells #[.int .i64 T.k, .int .i64 T.n, .int .i64 T.x, .string ⟨T.s.toArray⟩, .slice T.a T.l.length T.cap] 28)).alloc (.cells #[.int .i64 0, .int .i64 0, .int .i64 0, .string ⟨#[]⟩, .slice none 0 0] 28)) w1) :
    SB (w1.alloc (.cells #[.int .i64 C.k, .int .i64 C.n, .int .i64 C.x, .string ⟨C.s.toArray⟩, .slice C.a C.l.length C.cap] 28)) w1.heap.size (w.heap.size + 1) C ∧ Below w.heap.size w (w1.alloc (.cells #[.int .i64 C.k, .int .i64 C.n, .int .i64 C.x, .string ⟨C.s.toArray⟩, .slice C.a C.l.length C.cap] 28)) ∧ w.heap.size + 2 ≤ w1.heap.size ∧ VC (w1.alloc (.cells #[.int .i64 C.k, .int .i64 C.n, .int .i64 C.x, .string ⟨C.s.toArray⟩, .slice C.a C.l.length C.cap] 28)) w.heap.size T.k T.n T.x ⟨T.s.toArray⟩ T.a T.l.length T.cap := by
  obtain ⟨h1, _, h3⟩ := sb_start w T w1 C hb
  have hs : w.heap.size + 2 ≤ w1.heap.size := by have := hb.size; simp at this; omega
  have hba : Below w1.heap.size w1 (w1.alloc (.cells #[.int .i64 C.k, .int .i64 C.n, .int .i64 C.x, .string ⟨C.s.toArray⟩, .slice C.a C.l.length C.cap] 28)) := (Below.refl _ _).alloc (Nat.le_refl _) _
  have h4 := h1.blw hba
  refine ⟨⟨?_, fun o => ?_, h4.z, h4.zf⟩, h3.trans (hba.mono h3.size), hs, h4.v⟩
  · refine ⟨?_, ?_, ?_, ?_, ?_⟩ <;> simp [go_sem]
  · simp [go_sem]
theorem sort_end2 {w W w3 : World} {n x : Int} {s : List UInt8} {a : Option Addr} {cap g cap' bc : Nat} {p : PT} {l : List AT} {Ps : List (AT × AT)} (hC : (AT.mk 10 n x s a cap l).pt = p) (hmod : l.length % 2 = 0) (hPs : Ps = sortR lessAA (pairsOf l)) (hO : AT.Own w3 (w.heap.size + 2) (.mk 10 n x s a cap l)) (hN : (AT.mk 10 n x s a cap l).blks.Nodup) (hB : Below w.heap.size w w3) (ho : Only bc w3 W) (hbc : w.heap.size ≤ bc) (hbl : ∀ k ∈ (AT.mk 10 n x s a cap l).blks, k < bc)
    (hz : w.heap.size + 2 ≤ w3.heap.size) (hrow : W.ownsRow w3.heap.size 28 5 (.slice (some ⟨g, 0, none⟩) l.length cap') l.length (cellsL (flatOf Ps))) : FreshV w p.sorted (.returned (AT.mk 10 n x s (some ⟨g, 0, none⟩) cap' (sortA l)).val) (boxV W (w.heap.size + 1) (AT.mk 10 n x s (some ⟨g, 0, none⟩) cap' (sortA l))) := by
  have hlen := sortA_length hmod
  have hS : flatOf Ps = sortA l := by rw [hPs]; rfl
  rw [hS] at hrow
  have hev : (PT.mk 10 n x s (AT.ptL l)).even = true := even_iff.2 ⟨rfl, by rw [AT.ptL_eq, List.length_map]; exact hmod⟩
  have hn : ((a.map (·.block)).toList ++ AT.blksL l).Nodup := by simpa [AT.blks] using hN
  have hgl := hrow.lt g rfl
  have hsub : ∀ t ∈ sortA l, t.Own W (w.heap.size + 2) := fun t ht => (hO.l.sub t ((sortA_perm hmod).mem_iff.1 ht)).only ho (fun hk => by
    have htl := (sortA_perm hmod).mem_iff.1 ht
    have := hbl bc (by simp only [AT.blks, List.mem_append]; exact .inr (AT.mem_blksL.2 ⟨t, htl, hk⟩))
    omega)
  have hown : AT.Own W (w.heap.size + 2) (.mk 10 n x s (some ⟨g, 0, none⟩) cap' (sortA l)) := OwnL.own ⟨own_base' (by rw [hlen]; exact hrow) hz, hsub⟩
  have hbo := boxV_only W (w.heap.size + 1) (AT.mk 10 n x s (some ⟨g, 0, none⟩) cap' (sortA l))
  refine ⟨.mk 10 n x s (some ⟨g, 0, none⟩) cap' (sortA l), ?_, rfl, ?_, ?_, ?_⟩
  · rw [← hC]
    show PT.mk 10 n x s (AT.ptL (sortA l)) = (PT.mk 10 n x s (AT.ptL l)).sorted
    rw [sorted_yes hev, sortA_pt]
  · exact (hown.only hbo (fun hk => by have := (hown.lt _ hk).1; omega)).base (by omega)
  · have hn2 : (AT.blksL (sortA l)).Nodup := (sortA_blks hmod).nodup_iff.2 (List.nodup_append.1 hn).2.1
    have hg : g ∉ AT.blksL (sortA l) := fun hk => by
      obtain ⟨t, ht, hk⟩ := AT.mem_blksL.1 hk
      have := ((hO.l.sub t ((sortA_perm hmod).mem_iff.1 ht)).lt g hk).2
      omega
    have : (g :: AT.blksL (sortA l)).Nodup := List.nodup_cons.2 ⟨hg, hn2⟩
    simpa [AT.blks] using this
  · have hb3 := ho.below w.heap.size hbc hB.size
    exact (hB.trans hb3).trans (hbo.below w.heap.size (by omega) (hB.trans hb3).size)
theorem sort_end3 {w W w3 : World} {n x : Int} {s : List UInt8} {a : Option Addr} {cap g cap' bc : Nat} {p : PT} {l : List AT} (hC : (AT.mk 10 n x s a cap l).pt = p) (hmod : l.length % 2 = 0) (hO : AT.Own w3 (w.heap.size + 2) (.mk 10 n x s a cap l)) (hN : (AT.mk 10 n x s a cap l).blks.Nodup) (hB : Below w.heap.size w w3) (ho : Only bc w3 W) (hbc : w.heap.size ≤ bc) (hbl : ∀ k ∈ (AT.mk 10 n x s a cap l).blks, k < bc)
    (hz : w.heap.size + 2 ≤ w3.heap.size) (hrow : W.ownsRow w3.heap.size 28 5 (.slice (some ⟨g, 0, none⟩) l.length cap') l.length (cellsL (flatOf (sortR lessAA (pairsOf l))))) : FreshV w p.sorted (.returned (.agg #[.int .i64 10, .int .i64 n, .int .i64 x, .string ⟨s.toArray⟩, .slice (some ⟨g, 0, none⟩) l.length cap']))
      (((((W.setCell ⟨w.heap.size + 1, 0, none⟩ (.int .i64 10)).setCell ⟨w.heap.size + 1, 1, none⟩ (.int .i64 n)).setCell ⟨w.heap.size + 1, 2, none⟩ (.int .i64 x)).setCell ⟨w.heap.size + 1, 3, none⟩ (.string ⟨s.toArray⟩)).setCell ⟨w.heap.size + 1, 4, none⟩ (.slice (some ⟨g, 0, none⟩) l.length cap')) := by
  have h := sort_end2 hC hmod rfl hO hN hB ho hbc hbl hz hrow
  have hlen := sortA_length hmod
  have e : (AT.mk 10 n x s (some ⟨g, 0, none⟩) cap' (sortA l)).l.length = l.length := hlen
  simp only [boxV, AT.val, e, AT.k, AT.n, AT.x, AT.s, AT.a, AT.cap] at h
  exact h
theorem flat_get2 {α : Type} : ∀ (Q : List (α × α)) (m : Nat) (h : m < Q.length), (flatOf Q)[m * 2]? = some (Q[m]).1
  | p :: Q, 0, _ => rfl
  | p :: Q, m + 1, h => by
    have ih := flat_get2 Q m (by simp at h; omega)
    show (p.1 :: p.2 :: flatOf Q)[(m + 1) * 2]? = _
    rw [show (m + 1) * 2 = m * 2 + 1 + 1 by omega, List.getElem?_cons_succ, List.getElem?_cons_succ, ih]
    rfl
theorem step_append_rl {w w3 : World} {ops : Array Oper} {o : Oper} {a : Act} {K : Act → World → Prop} {Q : Exit → Act → World → Prop} {E : Prop} (hgd : o.guard = none) (s x : Operand)
    (ho : o.op = .call { callee := .builtin .append, args := #[s, x], argTypes := #[26, 26] }) (hr : Rl w3 w)
    (g0 n cap0 : Nat) (xs : List Value) (hs : a.eval s = .slice (some ⟨g0, 0, none⟩) n cap0) (hown : w.ownsRow w3.heap.size 28 5 (.slice (some ⟨g0, 0, none⟩) n cap0) n xs)
    (ad : Addr) (m c : Nat) (news : List Value) (hx : a.eval x = .slice (some ad) m c) (hl : news.length = m * 5) (hnews : ∀ j u, news[j]? = some u → w.cell? (ad.add j) = some u) (h1 : ∀ u ∈ news, u.oneCell' = true) (h63 : n + m ≤ 3000000)
    (h : ∀ g cap w', w'.ownsRow w3.heap.size 28 5 (.slice (some ⟨g, 0, none⟩) (n + m) cap) (n + m) (xs ++ news) → Rl w3 w' → K (a.put o.dst (.slice (some ⟨g, 0, none⟩) (n + m) cap)) w') :
    if Region.wanted o (yielded ops a.tmps) = true then Oper.wp Try.prog o a w K Q else E := by
  obtain ⟨i0, hi, hz0, hz1, hz2⟩ := info_parts valInfo
  refine step_append_any hgd s x _ ho w3.heap.size 28 i0 _ 5 64 Try.underlying26 hi hz0 hz1 hz2 rfl (by omega) g0 n cap0 xs hs hown ad m c news hx hl hnews h1 (by unfold maxLen; omega) (by omega) hr.z _ rfl fun g cap w' h2 h3 h4 h5 => ?_
  have hg := (hown.lt g0 rfl).1
  obtain ⟨e1, e2, e3, e4, e5⟩ := h3
  refine h g cap w' h2 ⟨hr.b.trans ⟨e1, e2, e3, Nat.le_trans (Nat.le_refl _) e4, fun k hk => e5 k (Nat.lt_of_lt_of_le hk hr.z) (fun e => by injection e with e; omega)⟩, Nat.le_trans hr.z e4⟩
theorem second_new (w : World) (o1 o2 : Obj) : ((w.alloc o1).alloc o2).heap[w.heap.size + 1]? = some o2 := by
  have := heap_alloc_new (w.alloc o1) o2
  rwa [show (w.alloc o1).heap.size = w.heap.size + 1 by simp] at this
theorem first_new (w : World) (o1 o2 : Obj) : ((w.alloc o1).alloc o2).heap[w.heap.size]? = some o1 := (Below.heap_alloc _ _ _ (by simp)).trans (heap_alloc_new w o1)
theorem row_e {W : World} {B b : Nat} (hB : B ≤ b) (h : W.heap[b]? = some (.cells #[] 28 (0, 0))) : W.ownsRow B 28 5 (.slice (some ⟨b, 0, none⟩) 0 0) 0 [] :=
  ⟨rfl, .inr ⟨b, 0, #[], rfl, hB, h, Nat.le_refl _, by decide, rfl, rfl⟩⟩
/-- append to a row of one's own; what stays of the blocks beside it -/
theorem step_append_rk {w w3 : World} {ops : Array Oper} {o : Oper} {a : Act} {K : Act → World → Prop} {Q : Exit → Act → World → Prop} {E : Prop} (hgd : o.guard = none) (s x : Operand)
    (ho : o.op = .call { callee := .builtin .append, args := #[s, x], argTypes := #[26, 26] }) (hr : Rl w3 w)
    (g0 n cap0 : Nat) (xs : List Value) (hs : a.eval s = .slice (some ⟨g0, 0, none⟩) n cap0) (hown : w.ownsRow w3.heap.size 28 5 (.slice (some ⟨g0, 0, none⟩) n cap0) n xs)
    (ad : Addr) (m c : Nat) (news : List Value) (hx : a.eval x = .slice (some ad) m c) (hl : news.length = m * 5) (hnews : ∀ j u, news[j]? = some u → w.cell? (ad.add j) = some u) (h1 : ∀ u ∈ news, u.oneCell' = true) (h63 : n + m ≤ 3000000) (n' : Nat) (hn' : n' = n + m)
    (h : ∀ g cap w', w'.ownsRow w3.heap.size 28 5 (.slice (some ⟨g, 0, none⟩) n' cap) n' (xs ++ news) → Rl w3 w' → (∀ b ob, w.heap[b]? = some ob → b ≠ g0 → w'.heap[b]? = some ob) → K (a.put o.dst (.slice (some ⟨g, 0, none⟩) n' cap)) w') :
    if Region.wanted o (yielded ops a.tmps) = true then Oper.wp Try.prog o a w K Q else E := by
  obtain ⟨i0, hi, hz0, hz1, hz2⟩ := info_parts valInfo
  subst hn'
  refine step_append_any hgd s x _ ho w3.heap.size 28 i0 _ 5 64 Try.underlying26 hi hz0 hz1 hz2 rfl (by omega) g0 n cap0 xs hs hown ad m c news hx hl hnews h1 (by unfold maxLen; omega) (by omega) hr.z _ rfl fun g cap w' h2 h3 h4 h5 => ?_
  have hg := (hown.lt g0 rfl).1
  have hk := h3.block
  obtain ⟨e1, e2, e3, e4, e5⟩ := h3
  refine h g cap w' h2 ⟨hr.b.trans ⟨e1, e2, e3, Nat.le_trans (Nat.le_refl _) e4, fun k hk => e5 k (Nat.lt_of_lt_of_le hk hr.z) (fun e => by injection e with e; omega)⟩, Nat.le_trans hr.z e4⟩ fun b ob hb hne => ?_
  have hlt : b < w.heap.size := by
    rcases Nat.lt_or_ge b w.heap.size with h1 | h1
    · exact h1
    · rw [Array.getElem?_eq_none h1] at hb; cases hb
  rw [hk b hlt (fun e => hne (by injection e))]
  exact hb
/-- the two cells' blocks -/
theorem two_at (X Y : AT) (W : World) (b : Nat) (h : W.heap[b]? = some (.cells #[.int .i64 X.k, .int .i64 X.n, .int .i64 X.x, .string ⟨X.s.toArray⟩, .slice X.a X.l.length X.cap, .int .i64 Y.k, .int .i64 Y.n, .int .i64 Y.x, .string ⟨Y.s.toArray⟩, .slice Y.a Y.l.length Y.cap] 28 (0, 0))) : ∀ j u, (cellsL [X, Y])[j]? = some u → W.cell? ((⟨b, 0, none⟩ : Addr).add j) = some u := by
  have e : cellsL [X, Y] = [.int .i64 X.k, .int .i64 X.n, .int .i64 X.x, .string ⟨X.s.toArray⟩, .slice X.a X.l.length X.cap, .int .i64 Y.k, .int .i64 Y.n, .int .i64 Y.x, .string ⟨Y.s.toArray⟩, .slice Y.a Y.l.length Y.cap] := by simp [cellsL, AT.cells]
  rw [e]
  exact World.news_of_block (cs := #[.int .i64 X.k, .int .i64 X.n, .int .i64 X.x, .string ⟨X.s.toArray⟩, .slice X.a X.l.length X.cap, .int .i64 Y.k, .int .i64 Y.n, .int .i64 Y.x, .string ⟨Y.s.toArray⟩, .slice Y.a Y.l.length Y.cap]) h
theorem row_part {W : World} {B g n cap p : Nat} {D R : List Value} (h : W.ownsRow B 28 5 (.slice (some ⟨g, 0, none⟩) n cap) n (D ++ R)) (hp : D.length = p) :
    (∀ j u, D[j]? = some u → W.cell? ((⟨g, 0, none⟩ : Addr).add j) = some u) ∧ (∀ j u, R[j]? = some u → W.cell? ((⟨g, p, none⟩ : Addr).add j) = some u) := by
  have hl := h.1
  have hadd : ∀ o j, (⟨g, o, none⟩ : Addr).add j = ⟨g, o + j, none⟩ := fun o j => by unfold Addr.add; split <;> simp_all
  refine ⟨fun j u hu => ?_, fun j u hu => ?_⟩
  · have hlt := (List.getElem?_eq_some_iff.1 hu).1
    rw [hadd, Nat.zero_add, h.cellAt j (by rw [← hl, List.length_append]; omega), List.getElem?_append_left hlt]
    exact hu
  · have hlt := (List.getElem?_eq_some_iff.1 hu).1
    rw [hadd, h.cellAt (p + j) (by rw [← hl, List.length_append]; omega), List.getElem?_append_right (by omega), hp, Nat.add_sub_cancel_left]
    exact hu
theorem two_cells (W : World) (X Y : AT) : ∀ j u, (cellsL [X, Y])[j]? = some u → (W.alloc (.cells #[.int .i64 X.k, .int .i64 X.n, .int .i64 X.x, .string ⟨X.s.toArray⟩, .slice X.a X.l.length X.cap, .int .i64 Y.k, .int .i64 Y.n, .int .i64 Y.x, .string ⟨Y.s.toArray⟩, .slice Y.a Y.l.length Y.cap] 28)).cell? ((⟨W.heap.size, 0, none⟩ : Addr).add j) = some u := by
  have e : cellsL [X, Y] = [.int .i64 X.k, .int .i64 X.n, .int .i64 X.x, .string ⟨X.s.toArray⟩, .slice X.a X.l.length X.cap, .int .i64 Y.k, .int .i64 Y.n, .int .i64 Y.x, .string ⟨Y.s.toArray⟩, .slice Y.a Y.l.length Y.cap] := by simp [cellsL, AT.cells]
  rw [e]
  exact World.news_of_block (cs := #[.int .i64 X.k, .int .i64 X.n, .int .i64 X.x, .string ⟨X.s.toArray⟩, .slice X.a X.l.length X.cap, .int .i64 Y.k, .int .i64 Y.n, .int .i64 Y.x, .string ⟨Y.s.toArray⟩, .slice Y.a Y.l.length Y.cap]) (t := 28) (fr := (0, 0)) (heap_alloc_new W _)
set_option maxHeartbeats 4000000 in
theorem sortmap_spec (T : AT) (w : World) (N : Nat) (hwf : T.pt.Wf) (hin : T.In w N) (hN : N ≤ w.heap.size) (hsz : T.pt.sz ≤ 1048576) : Calls Try.prog 6 #[T.val] w (FreshV w T.pt.sorted) := by
  have hb2 : Below w.heap.size w ((w.alloc (.cells #[.int .i64 T.k, .int .i64 T.n, .int .i64 T.x, .string ⟨T.s.toArray⟩, .slice T.a T.l.length T.cap] 28)).alloc (.cells #[.int .i64 0, .int .i64 0, .int .i64 0, .string ⟨#[]⟩, .slice none 0 0] 28)) := ((Below.refl _ _).alloc (Nat.le_refl _) _).alloc (by simp) _
  have hcp := l6Copy_any T hsz ((w.alloc (.cells #[.int .i64 T.k, .int .i64 T.n, .int .i64 T.x, .string ⟨T.s.toArray⟩, .slice T.a T.l.length T.cap] 28)).alloc (.cells #[.int .i64 0, .int .i64 0, .int .i64 0, .string ⟨#[]⟩, .slice none 0 0] 28)) N (hin.blw hb2 hN) (Nat.le_trans hN hb2.size)
  have HSB := Lib.hid (fun w1 C hb => sb_start2 w T C w1 hb)
  have HW := Lib.hid hwf
  have HSZ := Lib.hid hsz
  clear hin hN hb2 hwf hsz
  have hsz2 : ((w.alloc (.cells #[.int .i64 T.k, .int .i64 T.n, .int .i64 T.x, .string ⟨T.s.toArray⟩, .slice T.a T.l.length T.cap] 28)).alloc (.cells #[.int .i64 0, .int .i64 0, .int .i64 0, .string ⟨#[]⟩, .slice none 0 0] 28)).heap.size = w.heap.size + 2 := by simp
  show Calls Try.prog 6 #[.agg #[.int .i64 T.k, .int .i64 T.n, .int .i64 T.x, .string ⟨T.s.toArray⟩, .slice T.a T.l.length T.cap]] w _
  go_enter Try.func6, Try.ntmps6
  go_wp2_with fail
  refine hcp.mono ?_
  rintro e w1 ⟨C, hC, rfl, hOC, hNC, hb1⟩
  rw [hsz2] at hOC
  obtain ⟨s2, b1, hw1, hvT⟩ := HSB.out w1 C hb1
  have hba : Below w1.heap.size w1 (w1.alloc (.cells #[.int .i64 C.k, .int .i64 C.n, .int .i64 C.x, .string ⟨C.s.toArray⟩, .slice C.a C.l.length C.cap] 28)) := (Below.refl _ _).alloc (Nat.le_refl _) _
  have HO := Lib.hid (hOC.blw hba)
  have HS2 := Lib.hid s2
  have HB2 := Lib.hid b1
  have HC := Lib.hid hC
  have HN := Lib.hid hNC
  have HBL := Lib.hid (show ∀ k ∈ C.blks, k < w1.heap.size from fun k hk => (hOC.lt k hk).2)
  have HVT := Lib.hid hvT
  clear hOC hNC hb1 s2 b1 hC hcp hba hvT
  have hpt : C.pt.sz ≤ 1048576 := by rw [HC.out]; exact HSZ.out
  have hll : C.l.length ≤ 1048576 := by
    have h2 : C.l.length ≤ C.pt.sz := by obtain ⟨k, n, x, s, a, cap, l⟩ := C; simp [AT.pt, PT.sz, AT.l]; omega
    omega
  have hlt : T.l.length ≤ 1048576 := by
    have h2 : T.l.length ≤ T.pt.sz := by obtain ⟨k, n, x, s, a, cap, l⟩ := T; simp [AT.pt, PT.sz, AT.l]; omega
    have := HSZ.out
    omega
  have HPT := Lib.hid hpt
  clear hpt
  (go_upto_region 2 with fail)
  generalize hW2 : (w1.alloc (.cells #[.int .i64 C.k, .int .i64 C.n, .int .i64 C.x, .string ⟨C.s.toArray⟩, .slice C.a C.l.length C.cap] 28)) = W2 at *
  clear hW2
  generalize w1.heap.size = bc at *
  have chp : ∀ W, Calls Try.prog 18 #[.agg #[.int .i64 T.k, .int .i64 T.n, .int .i64 T.x, .string ⟨T.s.toArray⟩, .slice T.a T.l.length T.cap]] W fun e w' => e = .returned (.bool T.pt.even) ∧ Below W.heap.size W w' := fun W => l7map_spec T W (by omega)
  obtain ⟨c0, c1, c2, c3, c4⟩ := HVT.out
  go_wp2_with fail
  refine (chp _).mono ?_
  rintro e w3 ⟨rfl, hb3⟩
  have HS3 := Lib.hid (HS2.out.blw hb3)
  have HO3 := Lib.hid (HO.out.blw hb3)
  have HB3 := Lib.hid (HB2.out.trans (hb3.mono HB2.out.size))
  have hz3 : w.heap.size + 2 ≤ w3.heap.size := by have := vcb_lt HS3.out.v; omega
  clear hb3 chp c0 c1 c2 c3 c4 HVT HS2 HO HB2
  rw [← HC.out]
  cases hev : C.pt.even
  · have hres : T.pt.sorted = C.pt := by rw [← HC.out]; exact sorted_no hev
    have HRES := Lib.hid hres
    obtain ⟨⟨v0, v1, v2, v3, v4⟩, vf, ⟨z0, z1, z2, z3, z4⟩, zf⟩ := HS3.out
    clear hres hev
    go_wp2
    refine bodyPost_ret (v := C.val) (by simp [results, Try.results6, go_sem, z0, z1, z2, z3, z4]) rfl ⟨C, HRES.out.symm, rfl, ?_, HN.out, ?_⟩
    · exact (HO3.out.only (boxV_only w3 (w.heap.size + 1) C) (fun hk => by have := (HO3.out.lt _ hk).1; omega)).base (by omega)
    · exact HB3.out.trans ((boxV_only w3 (w.heap.size + 1) C).below w.heap.size (by omega) HB3.out.size)
  · obtain ⟨k, n, x, s, a, cap, l⟩ := C
    have hk := even_iff.1 (by simpa [AT.pt] using hev)
    simp only [AT.k, AT.n, AT.x, AT.s, AT.a, AT.cap, AT.l] at hll
    obtain ⟨rfl, hmod⟩ := hk
    rw [AT.ptL_eq, List.length_map] at hmod
    obtain ⟨i0, hi, hz0, hz1, hz2⟩ := info_parts valInfo
    have hrow := HO3.out.l.row
    have HROW := Lib.hid hrow
    obtain ⟨⟨v0, v1, v2, v3, v4⟩, vf, zz, zf⟩ := HS3.out
    simp only [AT.k, AT.n, AT.x, AT.s, AT.a, AT.cap, AT.l] at v0 v1 v2 v3 v4
    have V4 := Lib.hid v4
    have hvlt := cell_lt v4
    have HMOD := Lib.hid hmod
    have hhalf : ∃ h, l.length = 2 * h := ⟨l.length / 2, by omega⟩
    obtain ⟨hh, hhl⟩ := hhalf
    have HHL := Lib.hid hhl
    clear hev hrow v0 v1 v2 v3 vf zz zf hhl
    go_wp2
    go_loopw [4, 5] (fun v u wr => ∃ (j g' cap' q : Nat), v = .slice (some ⟨g', 0, none⟩) q cap' ∧ u = .int .i64 q ∧ Hid (q = 2 * j) ∧ q ≤ l.length ∧ Hid (wr.ownsRow w3.heap.size 28 5 (.slice (some ⟨g', 0, none⟩) q cap') q (cellsL (flatOf (sortR lessAA ((pairsOf l).take j))))) ∧ Hid (Rl w3 wr)) (fun _ u _ => l.length + 1 - (intOf u).toNat)
    case atStart => exact ⟨0, _, _, 0, rfl, rfl, Lib.hid rfl, Nat.zero_le _, Lib.hid (by simpa [sortR, flatOf] using (emptyRow w3 w3.heap.size (Nat.le_refl _)).row), Lib.hid ((Rl.refl w3).alloc _)⟩
    case round =>
      obtain ⟨j, g', cap', q, rfl, rfl, HQ, hq, HOW, HB⟩ := hrel
      by_cases hlt : q < l.length
      · have hq2 := HQ.out
        have hlm := HHL.out
        have hj1 : q + 1 < l.length := by omega
        have hpl : (pairsOf l).length = hh := (flat_pairs hh l (by omega)).2
        have hpj : j < (pairsOf l).length := by omega
        obtain ⟨X, hX0⟩ : ∃ X, X = l[q] := ⟨_, rfl⟩
        obtain ⟨Y, hY0⟩ : ∃ Y, Y = l[q + 1] := ⟨_, rfl⟩
        have hpe : (pairsOf l)[j] = (X, Y) := by
          have h1 := pairsOf_get l j (by omega)
          rw [List.getElem?_eq_getElem hpj] at h1
          injection h1 with h1
          rw [h1, hX0, hY0]
          subst hq2
          rfl
        have hnext := sortR_take_succ lessAA hpj
        rw [hpe] at hnext
        obtain ⟨Q, hQ⟩ : ∃ Q, Q = sortR lessAA ((pairsOf l).take j) := ⟨_, rfl⟩
        have hQl : Q.length = j := by rw [hQ, sortR_length, List.length_take]; omega
        have hQm : ∀ y ∈ Q, y.1 ∈ l := fun y hy => (pairsOf_mem (List.mem_of_mem_take (sortR_mem (by rw [← hQ]; exact hy)))).1
        rw [← hQ] at hnext HOW
        obtain ⟨ga, rfl, _, hga, hX⟩ := own_cellL HROW.out q hlt
        obtain ⟨gb, hgb, _, _, hY⟩ := own_cellL HROW.out (q + 1) hj1
        obtain rfl : ga = gb := by injection hgb with e; injection e
        rw [← hX0] at hX
        rw [← hY0] at hY
        rw [Nat.zero_add] at hX hY
        have hXm : X ∈ l := by rw [hX0]; exact List.getElem_mem hlt
        have HX3 := Lib.hid hX
        have HY3 := Lib.hid hY
        have HX := Lib.hid (hX.blw HB.out.b)
        have HY := Lib.hid (hY.blw HB.out.b)
        have e4 := keep_below HB.out.b V4.out
        have E4 := Lib.hid e4
        have HNX := Lib.hid (And.intro hnext (And.intro hQl hQm))
        have HXM := Lib.hid hXm
        have hjq : j ≤ 1048576 := by omega
        clear hX hY hX0 hY0 hgb hga hq2 hpe hpj hpl hnext hQ hQm hlm hXm
        obtain ⟨wo, rfl⟩ : ∃ wo, wo = wr := ⟨_, rfl⟩
        go_wp2
        go_loopw [6] (fun v W => ∃ m k : Nat, v = .int .i64 k ∧ Hid (k = m * 2) ∧ m ≤ j ∧ Hid (posR lessAA (X, Y) Q m = posR lessAA (X, Y) Q j) ∧ Hid (Below wo.heap.size wo W)) (fun v _ => (intOf v).toNat)
        case atStart => exact ⟨j, q, rfl, Lib.hid (by have := HQ.out; omega), Nat.le_refl _, Lib.hid rfl, Lib.hid (Below.refl _ _)⟩
        case round =>
          obtain ⟨m, k, rfl, HK, hmj, hpos, hbw⟩ := hrel
          (go_upto_region 9 with fail)
          go_cut [37] from 23 to 37 (fun v37 W' => ∃ b : Bool, v37 = .bool b ∧ Hid (b = true → ∃ m' : Nat, m = m' + 1 ∧ posR lessAA (X, Y) Q m = posR lessAA (X, Y) Q m') ∧ Hid (b = false → posR lessAA (X, Y) Q m = m) ∧ Below wo.heap.size wo W')
          case first =>
            cases m with
            | zero =>
              have hbd := hbw.out
              obtain rfl : k = 0 := HK.out
              go_quiet (fail)
              go_wp2_with fail
              go_meet
              exact ⟨false, rfl, Lib.hid (fun h => by cases h), Lib.hid (fun _ => rfl), below_drewN hbd _⟩
            | succ m =>
              obtain ⟨_, hQl, hQm⟩ := HNX.out
              have hmQ : m < Q.length := by omega
              have hrowW := rowP_below HOW.out hbw.out
              have hget : Q[m]? = some Q[m] := List.getElem?_eq_getElem hmQ
              obtain ⟨y, hy⟩ : ∃ y, y = Q[m] := ⟨_, rfl⟩
              have hym : y.1 ∈ l := hQm _ (by rw [hy]; exact List.getElem_mem hmQ)
              rw [← hy] at hget
              have hfg : (flatOf Q)[m * 2]? = some y.1 := by rw [hy]; exact flat_get2 Q m hmQ
              obtain ⟨hfl, hfe⟩ := List.getElem?_eq_some_iff.1 hfg
              have hql : (flatOf Q).length = q := by rw [flatOf_length, hQl]; have := HQ.out; omega
              have hyc : CellsAt wo g' (m * 2 * 5) y.1 := by
                have h1 := HOW.out
                rw [← hql] at h1
                obtain ⟨g2, e2, _, _, hc⟩ := own_cellL h1 (m * 2) hfl
                injection e2 with e2
                injection e2 with e2
                subst e2
                rw [hfe, Nat.zero_add] at hc
                exact hc
              have HB2 := Lib.hid (And.intro (fun h : lessAA (X, Y) y = true => posR_less lessAA hget h) (fun h : lessAA (X, Y) y = false => posR_stop lessAA hget h))
              have hw : ∀ t ∈ l, t.pt.Wf := fun t ht => PT.Wf.sub' (show (AT.mk 10 n x s (some ⟨ga, 0, none⟩) cap l).pt.Wf by rw [HC.out]; exact HW.out) t.pt (by rw [AT.ptL_eq]; exact List.mem_map_of_mem ht)
              have hin : ∀ t ∈ l, ∀ W', Below w3.heap.size w3 W' → t.In W' w3.heap.size := fun t ht W' hb => (HO3.out.l.sub t ht).in.blw hb (Nat.le_refl _)
              obtain ⟨U, hU⟩ : ∃ U, U = y.1 := ⟨_, rfl⟩
              rw [← hU] at hyc hym
              have hcl : ∀ W', Below wo.heap.size wo W' → Calls Try.prog 19 #[.agg #[.int .i64 X.k, .int .i64 X.n, .int .i64 X.x, .string ⟨X.s.toArray⟩, .slice X.a X.l.length X.cap], .agg #[.int .i64 U.k, .int .i64 U.n, .int .i64 U.x, .string ⟨U.s.toArray⟩, .slice U.a U.l.length U.cap]] W' fun e w' => e = .returned (.bool (lessAA (X, Y) y)) ∧ Below W'.heap.size W' w' := fun W' hb => by
                have h := lessval_spec X U W' w3.heap.size (hw _ HXM.out) (hw _ hym) (hin _ HXM.out W' (HB.out.b.trans (hb.mono HB.out.z))) (hin _ hym W' (HB.out.b.trans (hb.mono HB.out.z))) (Nat.le_trans HB.out.z hb.size)
                rw [show X.pt.less U.pt = lessAA (X, Y) y by rw [hU]; rfl] at h
                exact h
              obtain ⟨lb, hlb2⟩ : ∃ lb, lb = lessAA (X, Y) y := ⟨_, rfl⟩
              rw [← hlb2] at hcl HB2
              have HCL := Lib.hid hcl
              obtain ⟨m2, hm2⟩ : ∃ m2, m2 = m * 2 := ⟨_, rfl⟩
              rw [← hm2] at hyc
              obtain rfl : k = m2 + 2 := by have := HK.out; omega
              have HYC := Lib.hid hyc
              have HS := Lib.hid (fun (W' : World) (hb : Below wo.heap.size wo W') => (by
                have p := HX.out.blw hb
                have r := HYC.out.blw hb
                exact ⟨hb, keep_below hb E4.out, p.c0, p.c1, p.c2, p.c3, p.c4, r.c0, r.c1, r.c2, r.c3, r.c4⟩ : Below wo.heap.size wo W' ∧ W'.cell? ⟨bc, 4, none⟩ = some (.slice (some ⟨ga, 0, none⟩) l.length cap) ∧ W'.cell? ⟨ga, q * 5, none⟩ = some (.int .i64 X.k) ∧ W'.cell? ⟨ga, q * 5 + 1, none⟩ = some (.int .i64 X.n) ∧ W'.cell? ⟨ga, q * 5 + 2, none⟩ = some (.int .i64 X.x) ∧ W'.cell? ⟨ga, q * 5 + 3, none⟩ = some (.string ⟨X.s.toArray⟩) ∧ W'.cell? ⟨ga, q * 5 + 4, none⟩ = some (.slice X.a X.l.length X.cap) ∧ W'.cell? ⟨g', m2 * 5, none⟩ = some (.int .i64 U.k) ∧ W'.cell? ⟨g', m2 * 5 + 1, none⟩ = some (.int .i64 U.n) ∧ W'.cell? ⟨g', m2 * 5 + 2, none⟩ = some (.int .i64 U.x) ∧ W'.cell? ⟨g', m2 * 5 + 3, none⟩ = some (.string ⟨U.s.toArray⟩) ∧ W'.cell? ⟨g', m2 * 5 + 4, none⟩ = some (.slice U.a U.l.length U.cap)))
              have hbd := hbw.out
              have hk0 : (0 : Int) < (m2 : Int) + 2 := by omega
              have hqz : (q : Int) < l.length := by omega
              have hmq : (m2 : Int) < q := by have := HQ.out; omega
              have hww : IntKind.i64.wrap ((m2 : Int) + 2 - 2) = m2 := by rw [Int.add_sub_cancel]; exact IntWalk.i64_in _ (by omega)
              have hw2 : IntKind.i64.wrap (m2 : Int) = m2 := IntWalk.i64_in _ (by omega)
              have hm0 : (0 : Int) ≤ m2 := by omega
              clear hQl hQm hmQ hrowW hget hy hym hU hfl hfe hfg hql hyc hw hin hcl hlb2 hm2
              rw [show ((m2 + 2 : Nat) : Int) = (m2 : Int) + 2 from by omega]
              go_region_held3 (fun W' => Below wo.heap.size wo W' ∧ W'.cell? ⟨bc, 4, none⟩ = some (.slice (some ⟨ga, 0, none⟩) l.length cap) ∧ W'.cell? ⟨ga, q * 5, none⟩ = some (.int .i64 X.k) ∧ W'.cell? ⟨ga, q * 5 + 1, none⟩ = some (.int .i64 X.n) ∧ W'.cell? ⟨ga, q * 5 + 2, none⟩ = some (.int .i64 X.x) ∧ W'.cell? ⟨ga, q * 5 + 3, none⟩ = some (.string ⟨X.s.toArray⟩) ∧ W'.cell? ⟨ga, q * 5 + 4, none⟩ = some (.slice X.a X.l.length X.cap) ∧ W'.cell? ⟨g', m2 * 5, none⟩ = some (.int .i64 U.k) ∧ W'.cell? ⟨g', m2 * 5 + 1, none⟩ = some (.int .i64 U.n) ∧ W'.cell? ⟨g', m2 * 5 + 2, none⟩ = some (.int .i64 U.x) ∧ W'.cell? ⟨g', m2 * 5 + 3, none⟩ = some (.string ⟨U.s.toArray⟩) ∧ W'.cell? ⟨g', m2 * 5 + 4, none⟩ = some (.slice U.a U.l.length U.cap)) ((refine HS.out _ ?_; first | with_reducible assumption | with_reducible exact Below.drew hbd)) ((first | (go_at_call 19; go_split_ands; refine (HCL.out _ (by with_reducible assumption)).mono ?_; rintro e wa ⟨rfl, ba⟩; have bba : Below wo.heap.size wo wa := ((by with_reducible assumption : Below wo.heap.size wo _).trans (ba.mono (by have qq := (by with_reducible assumption : Below wo.heap.size wo _); exact qq.size))))))
              all_goals
                have bcz := Lib.hid bba
                go_wp2_with fail
                go_meet
                exact ⟨lb, rfl, Lib.hid (fun h => ⟨m, rfl, HB2.out.1 h⟩), Lib.hid (fun h => HB2.out.2 h), bcz.out⟩
          case rest =>
            obtain ⟨b, rfl, ht, hf, hbx⟩ := hcut
            cases b
            · have hpm := hf.out rfl
              have HPM := Lib.hid (hpos.out.symm.trans hpm)
              clear hpm hf ht hpos hbw
              have hrl : Rl w3 wc := ⟨HB.out.b.trans (hbx.mono HB.out.z), Nat.le_trans HB.out.z hbx.size⟩
              have HRL := Lib.hid hrl
              have hrw := rowP_below HOW.out hbx
              have HRW := Lib.hid hrw
              have hX := HX.out.blw hbx
              have hY := HY.out.blw hbx
              have e4 := keep_below hbx E4.out
              have HXY := Lib.hid (And.intro e4 (And.intro hX hY))
              have HS := Lib.hid (fun (W' : World) (hb : Rl wc W') => (by
                have p := HXY.out.2.1.blw0 hb
                have r := HXY.out.2.2.blw0 hb
                exact ⟨hb, keep_below hb.b HXY.out.1, p.c0, p.c1, p.c2, p.c3, p.c4, r.c0, r.c1, r.c2, r.c3, r.c4⟩ : Rl wc W' ∧ W'.cell? ⟨bc, 4, none⟩ = some (.slice (some ⟨ga, 0, none⟩) l.length cap) ∧ W'.cell? ⟨ga, q * 5, none⟩ = some (.int .i64 X.k) ∧ W'.cell? ⟨ga, q * 5 + 1, none⟩ = some (.int .i64 X.n) ∧ W'.cell? ⟨ga, q * 5 + 2, none⟩ = some (.int .i64 X.x) ∧ W'.cell? ⟨ga, q * 5 + 3, none⟩ = some (.string ⟨X.s.toArray⟩) ∧ W'.cell? ⟨ga, q * 5 + 4, none⟩ = some (.slice X.a X.l.length X.cap) ∧ W'.cell? ⟨ga, (q + 1) * 5, none⟩ = some (.int .i64 Y.k) ∧ W'.cell? ⟨ga, (q + 1) * 5 + 1, none⟩ = some (.int .i64 Y.n) ∧ W'.cell? ⟨ga, (q + 1) * 5 + 2, none⟩ = some (.int .i64 Y.x) ∧ W'.cell? ⟨ga, (q + 1) * 5 + 3, none⟩ = some (.string ⟨Y.s.toArray⟩) ∧ W'.cell? ⟨ga, (q + 1) * 5 + 4, none⟩ = some (.slice Y.a Y.l.length Y.cap)))
              obtain ⟨hnext, hQl, hQm⟩ := HNX.out
              have hsp : cellsL (flatOf Q) = cellsL (flatOf (Q.take m)) ++ cellsL (flatOf (Q.drop m)) := by rw [← cellsL_append, ← flatOf_append, List.take_append_drop]
              have hlA : (cellsL (flatOf (Q.take m))).length = k * 5 := by rw [cellsL_length, flatOf_length, List.length_take, Nat.min_eq_left (by omega), HK.out, Nat.mul_comm 2 m]
              have hlB : (cellsL (flatOf (Q.drop m))).length = (q - k) * 5 := by rw [cellsL_length, flatOf_length, List.length_drop, hQl]; have := HQ.out; have := HK.out; omega
              have HPart := Lib.hid (fun (W' : World) (hb : Below wc.heap.size wc W') => row_part (p := k * 5) (by have h := rowP_below HRW.out hb; rw [hsp] at h; exact h) hlA)
              have HIN : Hid (flatOf (sortR lessAA ((pairsOf l).take (j + 1))) = flatOf (Q.take m) ++ ([X, Y] ++ flatOf (Q.drop m))) := Lib.hid (by
                rw [hnext]
                unfold insR
                rw [hQl, HPM.out, flatOf_append]
                rfl)
              have HLA := Lib.hid hlA
              have HLB := Lib.hid hlB
              clear hnext hQl hQm hsp hlA hlB hX hY e4
              obtain ⟨hqc, hcm⟩ := rowP_cap HRW.out
              have hkq : k ≤ q := by have := HQ.out; have := HK.out; omega
              have hk1 : (k : Int) ≤ cap' := by omega
              have hk2 : (k : Int) ≤ q := by omega
              have hk3 : (q : Int) ≤ cap' := by omega
              have hlz : (q : Int) < l.length := by omega
              have hlz2 : (q : Int) + 1 < l.length := by omega
              have hq0 : (0 : Int) ≤ (q : Int) + 1 := by omega
              have hqw : IntKind.i64.wrap ((q : Int) + 1) = (q : Int) + 1 := IntWalk.i64_in _ (by omega)
              have hqt : ((q : Int) + 1).toNat = q + 1 := by omega
              have HRC := Lib.hid (Rl.refl wc)
              obtain ⟨_, e0, e1, e2, e3, e4, e5, e6, e7, e8, e9, e10⟩ := HS.out _ HRC.out
              clear hrl hrw hbx
              (go_upto_region 11 with fail)
              have HZ1 : Hid (0 + k ≤ 3000000) := Lib.hid (by omega)
              have HZ2 : Hid (k = 0 + k) := Lib.hid (by omega)
              have HZ3 : Hid (k + 2 ≤ 3000000) := Lib.hid (by omega)
              have HZ4 : Hid (k + 2 + (q - k) ≤ 3000000) := Lib.hid (by omega)
              have HZ5 : Hid (q + 2 = k + 2 + (q - k)) := Lib.hid (by omega)
              by_cases hck : cap' = k
              · subst cap'
                have HQK : Hid (q - k = 0) := Lib.hid (by omega)
                have hqk0 : q - k = 0 := by omega
                have HNB : Hid (cellsL (flatOf (Q.drop m)) = []) := Lib.hid (List.length_eq_zero_iff.1 (by rw [HLB.out, HQK.out]))
                have HZ6 : Hid (k + 2 + 0 ≤ 3000000) := Lib.hid (by omega)
                have HZ7 : Hid (q + 2 = k + 2 + 0) := Lib.hid (by omega)
                have HNC : Hid (∀ (W : World) (ad : Addr) (j : Nat) (u : Value), (cellsL (flatOf (Q.drop m)))[j]? = some u → W.cell? (ad.add j) = some u) := Lib.hid (fun W ad j u h => by rw [HNB.out] at h; simp at h)
                have HLB0 : Hid ((cellsL (flatOf (Q.drop m))).length = 0 * 5) := Lib.hid (by rw [HNB.out]; rfl)
                go_region_held3 (fun W' => Rl wc W' ∧ W'.cell? ⟨bc, 4, none⟩ = some (.slice (some ⟨ga, 0, none⟩) l.length cap) ∧ W'.cell? ⟨ga, q * 5, none⟩ = some (.int .i64 X.k) ∧ W'.cell? ⟨ga, q * 5 + 1, none⟩ = some (.int .i64 X.n) ∧ W'.cell? ⟨ga, q * 5 + 2, none⟩ = some (.int .i64 X.x) ∧ W'.cell? ⟨ga, q * 5 + 3, none⟩ = some (.string ⟨X.s.toArray⟩) ∧ W'.cell? ⟨ga, q * 5 + 4, none⟩ = some (.slice X.a X.l.length X.cap) ∧ W'.cell? ⟨ga, (q + 1) * 5, none⟩ = some (.int .i64 Y.k) ∧ W'.cell? ⟨ga, (q + 1) * 5 + 1, none⟩ = some (.int .i64 Y.n) ∧ W'.cell? ⟨ga, (q + 1) * 5 + 2, none⟩ = some (.int .i64 Y.x) ∧ W'.cell? ⟨ga, (q + 1) * 5 + 3, none⟩ = some (.string ⟨Y.s.toArray⟩) ∧ W'.cell? ⟨ga, (q + 1) * 5 + 4, none⟩ = some (.slice Y.a Y.l.length Y.cap)) ((refine HS.out _ ?_; repeat (first | with_reducible assumption | with_reducible exact HRC.out | with_reducible refine Rl.drew ?_ | with_reducible refine Rl.alloc ?_ _))) ((first | (refine step_append_rk (w3 := wc) (by rfl) _ _ (by rfl) (by repeat (first | with_reducible assumption | with_reducible exact HRC.out | with_reducible refine Rl.drew ?_ | with_reducible refine Rl.alloc ?_ _)) _ 0 0 [] (by rfl) (row_e (by simp) (by first | exact heap_alloc_new wc _ | exact first_new wc _ _ | exact second_new wc _ _)) ⟨g', 0, none⟩ k k (cellsL (flatOf (Q.take m))) (by rfl) HLA.out (HPart.out _ (Rl.b (by repeat (first | with_reducible assumption | with_reducible exact HRC.out | with_reducible refine Rl.drew ?_ | with_reducible refine Rl.alloc ?_ _)))).1 (cellsL_one' _) HZ1.out k HZ2.out ?_; intro gA capA wA hownA hrA hkA) | (refine step_append_rk (w3 := wc) (by rfl) _ _ (by rfl) (by repeat (first | with_reducible assumption | with_reducible exact HRC.out | with_reducible refine Rl.drew ?_ | with_reducible refine Rl.alloc ?_ _)) _ k capA _ (by rfl) (by first | with_reducible exact hownA | exact World.ownsRow.drew hownA | exact World.ownsRow.alloc hownA _ | exact World.ownsRow.drew (World.ownsRow.alloc hownA _)) _ 2 2 (cellsL [X, Y]) (by rfl) (by simp [cellsL, AT.cells]) (two_at X Y _ _ (by first | exact heap_alloc_new wA _ | exact hkA _ _ (second_new wc _ _) (by simp) | exact hkA _ _ (first_new wc _ _) (by simp))) (cellsL_one' _) HZ3.out (k + 2) rfl ?_; intro gB capB wB hownB hrB hkB) | (refine step_append_rk (w3 := wc) (by rfl) _ _ (by rfl) (by repeat (first | with_reducible assumption | with_reducible exact HRC.out | with_reducible refine Rl.drew ?_ | with_reducible refine Rl.alloc ?_ _)) _ (k + 2) capB _ (by rfl) (by first | with_reducible exact hownB | exact World.ownsRow.drew hownB) _ 0 0 (cellsL (flatOf (Q.drop m))) (by rfl) HLB0.out (HNC.out _ _) (cellsL_one' _) HZ6.out (q + 2) HZ7.out ?_; intro gC capC wC hownC hrC hkC)))
                all_goals
                  have HFIN : Hid (wC.ownsRow w3.heap.size 28 5 (.slice (some ⟨gC, 0, none⟩) (q + 2) capC) (q + 2) (cellsL (flatOf (sortR lessAA ((pairsOf l).take (j + 1)))))) := Lib.hid (by
                    have h := own_base' hownC HRL.out.z
                    rw [HIN.out, cellsL_append, cellsL_append]
                    simpa [List.append_assoc] using h)
                  have HRLC : Hid (Rl w3 wC) := Lib.hid ⟨HRL.out.b.trans (hrC.b.mono HRL.out.z), Nat.le_trans HRL.out.z hrC.z⟩
                  have HQ2 : Hid (q + 2 = 2 * (j + 1)) := Lib.hid (by have := HQ.out; omega)
                  have hq3 : IntKind.i64.wrap ((q : Int) + 2) = (q : Int) + 2 := IntWalk.i64_in _ (by omega)
                  clear hownC hrC hkC hownB hrB hkB hownA hrA hkA
                  go_wp2
                  go_roundw
                  case rel => exact ⟨j + 1, gC, capC, q + 2, rfl, by go_num, HQ2, by omega, HFIN, HRLC⟩
                  case measure => (simp [intOf]; omega)

              · go_region_held3 (fun W' => Rl wc W' ∧ W'.cell? ⟨bc, 4, none⟩ = some (.slice (some ⟨ga, 0, none⟩) l.length cap) ∧ W'.cell? ⟨ga, q * 5, none⟩ = some (.int .i64 X.k) ∧ W'.cell? ⟨ga, q * 5 + 1, none⟩ = some (.int .i64 X.n) ∧ W'.cell? ⟨ga, q * 5 + 2, none⟩ = some (.int .i64 X.x) ∧ W'.cell? ⟨ga, q * 5 + 3, none⟩ = some (.string ⟨X.s.toArray⟩) ∧ W'.cell? ⟨ga, q * 5 + 4, none⟩ = some (.slice X.a X.l.length X.cap) ∧ W'.cell? ⟨ga, (q + 1) * 5, none⟩ = some (.int .i64 Y.k) ∧ W'.cell? ⟨ga, (q + 1) * 5 + 1, none⟩ = some (.int .i64 Y.n) ∧ W'.cell? ⟨ga, (q + 1) * 5 + 2, none⟩ = some (.int .i64 Y.x) ∧ W'.cell? ⟨ga, (q + 1) * 5 + 3, none⟩ = some (.string ⟨Y.s.toArray⟩) ∧ W'.cell? ⟨ga, (q + 1) * 5 + 4, none⟩ = some (.slice Y.a Y.l.length Y.cap)) ((refine HS.out _ ?_; repeat (first | with_reducible assumption | with_reducible exact HRC.out | with_reducible refine Rl.drew ?_ | with_reducible refine Rl.alloc ?_ _))) ((first | (refine step_append_rk (w3 := wc) (by rfl) _ _ (by rfl) (by repeat (first | with_reducible assumption | with_reducible exact HRC.out | with_reducible refine Rl.drew ?_ | with_reducible refine Rl.alloc ?_ _)) _ 0 0 [] (by rfl) (row_e (by simp) (by first | exact heap_alloc_new wc _ | exact first_new wc _ _ | exact second_new wc _ _)) ⟨g', 0, none⟩ k cap' (cellsL (flatOf (Q.take m))) (by rfl) HLA.out (HPart.out _ (Rl.b (by repeat (first | with_reducible assumption | with_reducible exact HRC.out | with_reducible refine Rl.drew ?_ | with_reducible refine Rl.alloc ?_ _)))).1 (cellsL_one' _) HZ1.out k HZ2.out ?_; intro gA capA wA hownA hrA hkA) | (refine step_append_rk (w3 := wc) (by rfl) _ _ (by rfl) (by repeat (first | with_reducible assumption | with_reducible exact HRC.out | with_reducible refine Rl.drew ?_ | with_reducible refine Rl.alloc ?_ _)) _ k capA _ (by rfl) (by first | with_reducible exact hownA | exact World.ownsRow.drew hownA | exact World.ownsRow.alloc hownA _ | exact World.ownsRow.drew (World.ownsRow.alloc hownA _)) _ 2 2 (cellsL [X, Y]) (by rfl) (by simp [cellsL, AT.cells]) (two_at X Y _ _ (by first | exact heap_alloc_new wA _ | exact hkA _ _ (second_new wc _ _) (by simp) | exact hkA _ _ (first_new wc _ _) (by simp))) (cellsL_one' _) HZ3.out (k + 2) rfl ?_; intro gB capB wB hownB hrB hkB) | (refine step_append_rk (w3 := wc) (by rfl) _ _ (by rfl) (by repeat (first | with_reducible assumption | with_reducible exact HRC.out | with_reducible refine Rl.drew ?_ | with_reducible refine Rl.alloc ?_ _)) _ (k + 2) capB _ (by rfl) (by first | with_reducible exact hownB | exact World.ownsRow.drew hownB) ⟨g', k * 5, none⟩ (q - k) (cap' - k) (cellsL (flatOf (Q.drop m))) (by rfl) HLB.out (HPart.out _ (Rl.b (by repeat (first | with_reducible assumption | with_reducible exact HRC.out | with_reducible refine Rl.drew ?_ | with_reducible refine Rl.alloc ?_ _)))).2 (cellsL_one' _) HZ4.out (q + 2) HZ5.out ?_; intro gC capC wC hownC hrC hkC)))
                all_goals
                  have HFIN : Hid (wC.ownsRow w3.heap.size 28 5 (.slice (some ⟨gC, 0, none⟩) (q + 2) capC) (q + 2) (cellsL (flatOf (sortR lessAA ((pairsOf l).take (j + 1)))))) := Lib.hid (by
                    have h := own_base' hownC HRL.out.z
                    rw [HIN.out, cellsL_append, cellsL_append]
                    simpa [List.append_assoc] using h)
                  have HRLC : Hid (Rl w3 wC) := Lib.hid ⟨HRL.out.b.trans (hrC.b.mono HRL.out.z), Nat.le_trans HRL.out.z hrC.z⟩
                  have HQ2 : Hid (q + 2 = 2 * (j + 1)) := Lib.hid (by have := HQ.out; omega)
                  have hq3 : IntKind.i64.wrap ((q : Int) + 2) = (q : Int) + 2 := IntWalk.i64_in _ (by omega)
                  clear hownC hrC hkC hownB hrB hkB hownA hrA hkA
                  go_wp2
                  go_roundw
                  case rel => exact ⟨j + 1, gC, capC, q + 2, rfl, by go_num, HQ2, by omega, HFIN, HRLC⟩
                  case measure => (simp [intOf]; omega)
            · obtain ⟨m', rfl, he⟩ := ht.out rfl
              have HP2 := Lib.hid (he.symm.trans hpos.out)
              have HBX := Lib.hid hbx
              obtain ⟨k2, rfl⟩ : ∃ k2, k = k2 + 2 := ⟨m' * 2, by have := HK.out; omega⟩
              have hw2 : IntKind.i64.wrap (k2 : Int) = k2 := IntWalk.i64_in _ (by have := HK.out; omega)
              have hw1 : IntKind.i64.wrap ((k2 : Int) + 2 - 2) = k2 := by rw [Int.add_sub_cancel]; exact hw2
              have HK2 : Hid (k2 = m' * 2) := Lib.hid (by have := HK.out; omega)
              rw [show ((k2 + 2 : Nat) : Int) = (k2 : Int) + 2 from by omega]
              clear he hpos ht hf hbx hbw
              go_wp2
              go_round
              case rel => exact ⟨m', k2, rfl, HK2, by omega, HP2, HBX⟩
              case measure => (simp [intOf]; omega)
      · have hqe : q = l.length := by omega
        have hjh : j = hh := by have := HQ.out; have := HHL.out; omega
        have htk : (pairsOf l).take j = pairsOf l := List.take_of_length_le (by have := (flat_pairs hh l (by have := HHL.out; omega)).2; omega)
        rw [htk] at HOW
        subst hqe
        obtain ⟨⟨v0, v1, v2, v3, v4⟩, vf, ⟨z0, z1, z2, z3, z4⟩, zf⟩ := HS3.out.blw HB.out.b
        simp only [AT.k, AT.n, AT.x, AT.s, AT.a, AT.cap, AT.l] at v0 v1 v2 v3 v4
        have ho4 : Only bc wr (wr.setCell ⟨bc, 4, none⟩ (.slice (some ⟨g', 0, none⟩) l.length cap')) := (Only.refl bc wr).setCell _ _
        have hg3 := (HOW.out.lt g' rfl).1
        have hbc3 : bc < w3.heap.size := vcb_lt HS3.out.v
        have HEND := Lib.hid (sort_end3 HC.out HMOD.out HO3.out HN.out HB3.out ((Only.of_below HB.out.b : Only bc w3 wr).trans ho4) (by omega) HBL.out hz3 (rowP_only HOW.out ho4 (by omega)))
        have hbr : ¬ w.heap.size + 1 = bc := by omega
        clear ho4
        go_wp2
        refine bodyPost_ret (v := .agg #[.int .i64 10, .int .i64 n, .int .i64 x, .string ⟨s.toArray⟩, .slice (some ⟨g', 0, none⟩) l.length cap']) ?_ rfl ?_
        · simp [results, Try.results6, go_sem, z0, z1, z2, z3, z4, hbr]
        · with_reducible exact HEND.out
end Go.Proofs.Ytilgncebhgplaaa
/- A sorted map is as right and as large as the map: plain facts for the law. -/
namespace Go.Proofs.Ytilgncebhgplaaa
theorem sortP_perm {l : List PT} (h : l.length % 2 = 0) : (flatOf (sortR lessPP (pairsOf l))).Perm l := by
  obtain ⟨e, _⟩ := flat_pairs (l.length / 2) l (by omega)
  have := (sortR_perm lessPP (pairsOf l)).flatMap_right (fun p => [p.1, p.2])
  exact this.trans (by show (flatOf (pairsOf l)).Perm l; rw [e])
theorem cntL_perm {l m : List PT} (h : l.Perm m) : PT.cntL l = PT.cntL m := by
  induction h with
  | nil => rfl
  | cons x _ ih => rw [PT.cntL, PT.cntL, ih]
  | swap x y l => rw [PT.cntL, PT.cntL, PT.cntL, PT.cntL]; omega
  | trans _ _ h1 h2 => exact h1.trans h2
theorem sorted_wf {p : PT} (h : p.Wf) : p.sorted.Wf := by
  cases h with
  | mk hk hn hx hs hl sub =>
    rename_i k n x s l
    rw [PT.sorted]
    by_cases he : (PT.mk k n x s l).even = true
    · rw [if_pos he]
      have hp := sortP_perm (even_iff.1 he).2
      exact .mk hk hn hx hs (by rw [hp.length_eq]; exact hl) (fun t ht => sub t (hp.mem_iff.1 ht))
    · rw [if_neg he]
      exact .mk hk hn hx hs hl sub
theorem sorted_cnt (p : PT) : p.sorted.cnt = p.cnt := by
  obtain ⟨k, n, x, s, l⟩ := p
  rw [PT.sorted]
  by_cases he : (PT.mk k n x s l).even = true
  · rw [if_pos he, PT.cnt, PT.cnt, cntL_perm (sortP_perm (even_iff.1 he).2)]
  · rw [if_neg he]
end Go.Proofs.Ytilgncebhgplaaa
