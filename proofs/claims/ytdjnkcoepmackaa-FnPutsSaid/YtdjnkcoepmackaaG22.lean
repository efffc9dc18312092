import Derived.Test.YtdjnkcoepmackaaG15
import Derived.Test.YtdjnkcoepmackaaG8
import Derived.Test.YtdjnkcoepmackaaG20
/- The program's copy of a tree by a stack of rows whose elements' elements are still foreign: what holds of the stack. -/
namespace Go.Proofs.Ytdjnkcoepmackaa
open Go.RowKit
/-- a row of the call's own whose elements' elements are foreign -/
structure Pend where
  g : Nat
  cap : Nat
  l : List AT
@[reducible] def Pend.val (Q : Pend) : Value := .slice (some ⟨Q.g, 0, none⟩) Q.l.length Q.cap
/-- a tree in rows of whomever, all in blocks below N -/
def Frn (w : World) (N : Nat) (t : AT) : Prop := t.Own w 0 ∧ ∀ k ∈ t.blks, k < N
theorem Frn.kept {w w' : World} {N : Nat} {t : AT} (h : Frn w N t) (hk : ∀ k, k < N → w'.heap[k]? = w.heap[k]?) : Frn w' N t := ⟨h.1.kept fun k hkt => hk k (h.2 k hkt), h.2⟩
theorem Frn.sub {w : World} {N : Nat} {t u : AT} (h : Frn w N t) (hu : u ∈ t.l) : Frn w N u := ⟨h.1.l'.sub u hu, fun k hk => h.2 k (by rw [AT.blks_eq, List.mem_append]; exact .inr (AT.mem_blksL.2 ⟨u, hu, hk⟩))⟩
structure PendAt (w : World) (N B : Nat) (Q : Pend) : Prop where
  row : w.ownsRow B 28 5 Q.val Q.l.length (cellsL Q.l)
  sub : ∀ t ∈ Q.l, Frn w N t
  ne : Q.l ≠ []
theorem PendAt.kept {w w' : World} {N B : Nat} {Q : Pend} (h : PendAt w N B Q) (hk : ∀ k, k = Q.g ∨ k < N → w'.heap[k]? = w.heap[k]?) : PendAt w' N B Q :=
  ⟨own_heap h.row (fun k hg => hk k (.inl (by simp [Value.ownBlock] at hg; exact hg.symm))), fun t ht => (h.sub t ht).kept fun k hkN => hk k (.inr hkN), h.ne⟩
theorem PendAt.lt {w : World} {N B : Nat} {Q : Pend} (h : PendAt w N B Q) : B ≤ Q.g ∧ Q.g < w.heap.size := h.row.lt Q.g rfl
/-- the row is copied at all depths -/
def DoneAt (w' : World) (B : Nat) (Q : Pend) (bs : List Nat) : Prop := ∃ l', OwnL w' B (some ⟨Q.g, 0, none⟩) Q.cap l' ∧ AT.ptL l' = AT.ptL Q.l ∧ bs = Q.g :: AT.blksL l' ∧ bs.Nodup
def DoneL (w' : World) (B : Nat) : List Pend → List (List Nat) → Prop
  | [], [] => True
  | Q :: Qs, bs :: bss => DoneAt w' B Q bs ∧ DoneL w' B Qs bss
  | _, _ => False
theorem doneL_append {w' : World} {B : Nat} {Qs Cs : List Pend} {bss : List (List Nat)} (h : DoneL w' B (Qs ++ Cs) bss) : ∃ b1 b2, bss = b1 ++ b2 ∧ DoneL w' B Qs b1 ∧ DoneL w' B Cs b2 := by
  induction Qs generalizing bss with
  | nil => exact ⟨[], bss, rfl, trivial, h⟩
  | cons Q Qs ih =>
    cases bss with
    | nil => exact h.elim
    | cons bs bss =>
      obtain ⟨b1, b2, rfl, h1, h2⟩ := ih h.2
      exact ⟨bs :: b1, b2, rfl, ⟨h.1, h1⟩, h2⟩
theorem doneL_snoc {w' : World} {B : Nat} {Qs : List Pend} {Q : Pend} {b1 : List (List Nat)} {bs : List Nat} (h1 : DoneL w' B Qs b1) (h2 : DoneAt w' B Q bs) : DoneL w' B (Qs ++ [Q]) (b1 ++ [bs]) := by
  induction Qs generalizing b1 with
  | nil => cases b1 with
    | nil => exact ⟨h2, trivial⟩
    | cons x b1 => exact h1.elim
  | cons R Qs ih =>
    cases b1 with
    | nil => exact h1.elim
    | cons x b1 => exact ⟨h1.1, ih h1.2⟩
/-- the elements of a row, the elements that replace them, and the rows that these lead to -/
inductive Match : List AT → List AT → List Pend → Prop
  | mnil : Match [] [] []
  | mnone {ts ns : List AT} {cs : List Pend} (t : AT) (h : Match ts ns cs) (ht : t.l = []) : Match (ts ++ [t]) (ns ++ [.mk t.k t.n t.x t.s none 0 []]) cs
  | msome {ts ns : List AT} {cs : List Pend} (t : AT) (g cap : Nat) (h : Match ts ns cs) : Match (ts ++ [t]) (ns ++ [.mk t.k t.n t.x t.s (some ⟨g, 0, none⟩) cap t.l]) (cs ++ [⟨g, cap, t.l⟩])
theorem Match.len {ts ns : List AT} {cs : List Pend} (h : Match ts ns cs) : ns.length = ts.length := by
  induction h with
  | mnil => rfl
  | mnone t _ _ ih => simp [ih]
  | msome t g cap _ ih => simp [ih]
def restN (Qs : List Pend) : Nat := (Qs.map fun Q => PT.cntL (AT.ptL Q.l)).sum
theorem restN_append (Qs Cs : List Pend) : restN (Qs ++ Cs) = restN Qs + restN Cs := by simp [restN]
theorem Match.rest {ts ns : List AT} {cs : List Pend} (h : Match ts ns cs) : restN cs + ts.length = PT.cntL (AT.ptL ts) := by
  induction h with
  | mnil => rfl
  | mnone t _ ht ih =>
    rw [AT.ptL_eq, List.map_append, cntL_app, ← AT.ptL_eq, ← ih]
    simp only [List.map_cons, List.map_nil, PT.cntL, cnt_eq', ht, AT.ptL, List.length_append, List.length_cons, List.length_nil]
    omega
  | msome t g cap _ ih =>
    rw [AT.ptL_eq, List.map_append, cntL_app, ← AT.ptL_eq, ← ih, restN_append]
    simp only [List.map_cons, List.map_nil, PT.cntL, cnt_eq', restN, List.sum_cons, List.sum_nil, List.length_append, List.length_cons, List.length_nil]
    omega
/-- once the rows that a row leads to are copied, so are its elements -/
theorem Match.done {w' : World} {B : Nat} {ts ns : List AT} {cs : List Pend} (h : Match ts ns cs) : ∀ bss, DoneL w' B cs bss → ∃ l', (∀ t ∈ l', t.Own w' B) ∧ AT.ptL l' = AT.ptL ts ∧ cellsL l' = cellsL ns ∧ AT.blksL l' = bss.flatten ∧ l'.length = ts.length := by
  induction h with
  | mnil => intro bss hd; cases bss with
    | nil => exact ⟨[], by simp, rfl, rfl, rfl, rfl⟩
    | cons b bss => exact hd.elim
  | mnone t _ ht ih =>
    intro bss hd
    obtain ⟨l', h1, h2, h3, h4, h5⟩ := ih bss hd
    refine ⟨l' ++ [.mk t.k t.n t.x t.s none 0 []], ?_, ?_, ?_, ?_, by simp [h5]⟩
    · intro u hu
      rcases List.mem_append.1 hu with hu | hu
      · exact h1 u hu
      · obtain rfl := List.mem_singleton.1 hu; exact AT.leaf_own w' B _ _ _ _
    · rw [AT.ptL_eq, List.map_append, ← AT.ptL_eq, h2, AT.ptL_eq, AT.ptL_eq, List.map_append]
      congr 1
      simp only [List.map_cons, List.map_nil]
      rw [AT.pt_eq t, ht]
      simp [AT.pt, AT.ptL]
    · rw [cellsL_append, cellsL_append, h3]
    · rw [AT.blksL_append, h4]; simp [AT.blksL, AT.blks]
  | msome t g cap _ ih =>
    intro bss hd
    obtain ⟨b1, b2, rfl, hd1, hd2⟩ := doneL_append hd
    obtain ⟨bs, rfl⟩ : ∃ bs, b2 = [bs] := by
      cases b2 with
      | nil => exact hd2.elim
      | cons b b2 => cases b2 with
        | nil => exact ⟨b, rfl⟩
        | cons c b2 => exact hd2.2.elim
    obtain ⟨l', h1, h2, h3, h4, h5⟩ := ih b1 hd1
    obtain ⟨l'', k1, k2, k3, k4⟩ := hd2.1
    have hl : l''.length = t.l.length := by have := congrArg List.length k2; simpa using this
    refine ⟨l' ++ [.mk t.k t.n t.x t.s (some ⟨g, 0, none⟩) cap l''], ?_, ?_, ?_, ?_, by simp [h5]⟩
    · intro u hu
      rcases List.mem_append.1 hu with hu | hu
      · exact h1 u hu
      · obtain rfl := List.mem_singleton.1 hu; exact k1.own
    · rw [AT.ptL_eq, List.map_append, ← AT.ptL_eq, h2, AT.ptL_eq, AT.ptL_eq, List.map_append]
      congr 1
      simp only [List.map_cons, List.map_nil]
      rw [AT.pt_eq t, ← AT.ptL_eq t.l]
      simp only [AT.pt]
      rw [show AT.ptL l'' = AT.ptL t.l from k2]
    · rw [cellsL_append, cellsL_append, h3, cellsL_one, cellsL_one]
      simp [AT.cells, AT.k, AT.n, AT.x, AT.s, AT.a, AT.cap, AT.l, hl]
    · rw [AT.blksL_append, h4, AT.blksL_one, k3]
      simp [AT.blks]
structure TodoAt (w0 wr : World) (N B : Nat) (root : Pend) (h cap : Nat) (Qs : List Pend) : Prop where
  row : wr.ownsRow B 26 1 (.slice (some ⟨h, 0, none⟩) Qs.length cap) Qs.length (Qs.map Pend.val)
  pend : ∀ Q ∈ Qs, PendAt wr N B Q
  nd : (h :: Qs.map Pend.g).Nodup
  nB : N ≤ B
  wand : ∀ w' bss, DoneL w' B Qs bss → bss.flatten.Nodup → (∀ k ∈ bss.flatten, k ∈ Qs.map Pend.g ∨ wr.heap.size ≤ k) → (∀ k, k < wr.heap.size → k ∉ Qs.map Pend.g → k ≠ h → w'.heap[k]? = wr.heap[k]?) → ∃ bs, DoneAt w' B root bs
  w0B : w0.heap.size ≤ B
  below : Below w0.heap.size w0 wr
/-- within a round: the first elements of Q are replaced -/
structure MidAt (w1 wi : World) (N B : Nat) (Qs : List Pend) (Q : Pend) (h : Nat) (ns : List AT) (Cs : List Pend) (h' cap' : Nat) : Prop where
  mt : Match (Q.l.take ns.length) ns Cs
  len : ns.length ≤ Q.l.length
  rowQ : wi.ownsRow B 28 5 Q.val Q.l.length (cellsL ns ++ cellsL (Q.l.drop ns.length))
  row : wi.ownsRow B 26 1 (.slice (some ⟨h', 0, none⟩) (Qs ++ Cs).length cap') (Qs ++ Cs).length ((Qs ++ Cs).map Pend.val)
  pend : ∀ R ∈ Qs ++ Cs, PendAt wi N B R
  new : ∀ C ∈ Cs, w1.heap.size ≤ C.g
  nd : (h' :: Q.g :: (Qs ++ Cs).map Pend.g).Nodup
  hh : h' = h ∨ w1.heap.size ≤ h'
  only : Only2 Q.g h w1 wi
/-- the round's end -/
theorem TodoAt.next {w0 w1 wi : World} {N B : Nat} {root : Pend} {h cap : Nat} {Qs : List Pend} {Q : Pend} {ns : List AT} {Cs : List Pend} {h' cap' : Nat} (ht : TodoAt w0 w1 N B root h cap (Qs ++ [Q])) (hm : MidAt w1 wi N B Qs Q h ns Cs h' cap') (hl : ns.length = Q.l.length) :
    TodoAt w0 wi N B root h' cap' (Qs ++ Cs) where
  row := hm.row
  pend := hm.pend
  nd := by
    have := hm.nd
    rw [List.nodup_cons, List.nodup_cons] at this
    rw [List.nodup_cons]
    exact ⟨fun hx => this.1 (List.mem_cons_of_mem _ hx), this.2.2⟩
  nB := ht.nB
  w0B := ht.w0B
  below := by
    have h1 := (ht.pend Q (by simp)).lt
    have h2 := (ht.row.lt h rfl).1
    have h3 := ht.w0B
    exact ht.below.trans (hm.only.below (by omega) (by omega) ht.below.size)
  wand := by
    intro w' bss hd hnd hin hfr
    obtain ⟨b1, b2, rfl, hd1, hd2⟩ := doneL_append hd
    have hmt := hm.mt
    rw [hl, List.take_of_length_le (Nat.le_refl _)] at hmt
    obtain ⟨l', h1, h2, h3, h4, h5⟩ := hmt.done b2 hd2
    have hQ := ht.pend Q (by simp)
    have hQlt := hQ.lt
    have hsz := hm.only.size
    have hndm := hm.nd
    rw [List.nodup_cons, List.nodup_cons] at hndm
    have hgQ : w'.heap[Q.g]? = wi.heap[Q.g]? := hfr Q.g (by omega) hndm.2.1 (fun e => hndm.1 (by rw [e]; simp))
    have hrow : w'.ownsRow B 28 5 (.slice (some ⟨Q.g, 0, none⟩) l'.length Q.cap) l'.length (cellsL l') := by
      have := own_heap hm.rowQ (w' := w') (fun k hk => by simp [Value.ownBlock] at hk; rw [← hk]; exact hgQ)
      rw [hl, List.drop_eq_nil_of_le (Nat.le_refl _), cellsL_nil, List.append_nil] at this
      rw [h5, h3]; exact this
    rw [List.flatten_append, List.nodup_append] at hnd
    have hgn : Q.g ∉ b2.flatten := fun hx => by
      rcases hin Q.g (by rw [List.flatten_append]; simp [hx]) with hx | hx
      · exact hndm.2.1 hx
      · omega
    have hgn1 : Q.g ∉ b1.flatten := fun hx => by
      rcases hin Q.g (by rw [List.flatten_append]; simp [hx]) with hx | hx
      · exact hndm.2.1 hx
      · omega
    have hdone : DoneAt w' B Q (Q.g :: b2.flatten) := ⟨l', ⟨hrow, h1⟩, h2, by rw [h4], by rw [List.nodup_cons]; exact ⟨hgn, hnd.2.1⟩⟩
    refine ht.wand w' (b1 ++ [Q.g :: b2.flatten]) (doneL_snoc hd1 hdone) ?_ ?_ ?_
    · rw [List.flatten_append, List.nodup_append]
      refine ⟨hnd.1, by simp only [List.flatten_cons, List.flatten_nil, List.append_nil, List.nodup_cons]; exact ⟨hgn, hnd.2.1⟩, fun x hx y hy e => ?_⟩
      simp only [List.flatten_cons, List.flatten_nil, List.append_nil, List.mem_cons] at hy
      subst e
      rcases hy with rfl | hy
      · exact hgn1 hx
      · exact hnd.2.2 x hx x hy rfl
    · intro k hk
      have hcase : k = Q.g ∨ k ∈ (b1 ++ b2).flatten := by
        simp only [List.flatten_append, List.mem_append, List.flatten_cons, List.flatten_nil, List.append_nil, List.mem_cons] at hk ⊢
        rcases hk with hk | rfl | hk
        · exact .inr (.inl hk)
        · exact .inl rfl
        · exact .inr (.inr hk)
      rcases hcase with rfl | hk
      · left; simp
      · rcases hin k hk with hk | hk
        · rw [List.map_append, List.mem_append] at hk
          rcases hk with hk | hk
          · left; rw [List.map_append, List.mem_append]; exact .inl hk
          · right
            obtain ⟨C, hC, rfl⟩ := List.mem_map.1 hk
            exact hm.new C hC
        · right; omega
    · intro k hk hkn hkh
      have hkQ : k ≠ Q.g := fun e => hkn (by rw [e]; simp)
      have hkQs : k ∉ Qs.map Pend.g := fun e => hkn (by rw [List.map_append, List.mem_append]; exact .inl e)
      rw [hfr k (by omega) (fun hx => by
        rw [List.map_append, List.mem_append] at hx
        rcases hx with hx | hx
        · exact hkQs hx
        · obtain ⟨C, hC, rfl⟩ := List.mem_map.1 hx
          have := hm.new C hC
          omega) (fun e => by have := hm.hh; omega)]
      exact hm.only.block k hk hkQ hkh
end Go.Proofs.Ytdjnkcoepmackaa
/- The program's copy: the steps within a round, and the measure. -/
namespace Go.Proofs.Ytdjnkcoepmackaa
open Go.RowKit
theorem mid_set4 (X Y : List Value) (v0 v1 v2 v3 v4 u : Value) (p : Nat) (hx : X.length = p) : (X ++ [v0, v1, v2, v3, v4] ++ Y).set (p + 4) u = X ++ [v0, v1, v2, v3, u] ++ Y := by
  subst hx
  simp [List.set_append]
theorem drop_cells (l : List AT) (i : Nat) (h : i < l.length) : cellsL (l.drop i) = (l[i]).cells ++ cellsL (l.drop (i + 1)) := by
  rw [List.drop_eq_getElem_cons h]; rfl
theorem own_setL {w : World} {B g n cap : Nat} {ns l : List AT} {u : Value} (h : w.ownsRow B 28 5 (.slice (some ⟨g, 0, none⟩) n cap) n (cellsL ns ++ cellsL (l.drop ns.length))) (hi : ns.length < l.length) (T : AT) (hT : T = l[ns.length]) (a : Option Addr) (c : Nat) (m : List AT) (hu : u = .slice a m.length c) :
    (w.setCell ⟨g, ns.length * 5 + 4, none⟩ u).ownsRow B 28 5 (.slice (some ⟨g, 0, none⟩) n cap) n (cellsL (ns ++ [.mk T.k T.n T.x T.s a c m]) ++ cellsL (l.drop (ns ++ [AT.mk T.k T.n T.x T.s a c m]).length)) := by
  have h1 := (h.stored (ns.length * 5 + 4) u).1
  have e : cellsL ns ++ cellsL (l.drop ns.length) = cellsL ns ++ [.int .i64 T.k, .int .i64 T.n, .int .i64 T.x, .string ⟨T.s.toArray⟩, .slice T.a T.l.length T.cap] ++ cellsL (l.drop (ns.length + 1)) := by
    rw [drop_cells l ns.length hi, ← hT, ← List.append_assoc]; rfl
  rw [e, mid_set4 _ _ _ _ _ _ _ _ _ (cellsL_length ns)] at h1
  rw [cellsL_append, cellsL_one, List.length_append, List.length_singleton, hu] at *
  exact h1
theorem MidAt.facts {w1 wi : World} {N B : Nat} {Qs : List Pend} {Q : Pend} {h : Nat} {ns : List AT} {Cs : List Pend} {h' cap' : Nat} (hm : MidAt w1 wi N B Qs Q h ns Cs h' cap') :
    B ≤ Q.g ∧ Q.g < wi.heap.size ∧ B ≤ h' ∧ h' < wi.heap.size ∧ h' ≠ Q.g ∧ (∀ R ∈ Qs ++ Cs, R.g ≠ h' ∧ R.g ≠ Q.g ∧ R.g < wi.heap.size) ∧ w1.heap.size ≤ wi.heap.size := by
  have h1 := hm.rowQ.lt Q.g rfl
  have h2 := hm.row.lt h' rfl
  have hnd := hm.nd
  rw [List.nodup_cons, List.nodup_cons] at hnd
  refine ⟨h1.1, h1.2, h2.1, h2.2, fun e => hnd.1 (by rw [e]; simp), fun R hR => ⟨fun e => hnd.1 ?_, fun e => hnd.2.1 ?_, (hm.pend R hR).lt.2⟩, hm.only.size⟩
  · rw [← e]; exact List.mem_cons_of_mem _ (List.mem_map_of_mem hR)
  · rw [← e]; exact List.mem_map_of_mem hR
/-- an element without elements of its own -/
theorem MidAt.none' {w1 wi wA : World} {N B : Nat} {Qs : List Pend} {Q : Pend} {h : Nat} {ns : List AT} {Cs : List Pend} {h' cap' : Nat} (hm : MidAt w1 wi N B Qs Q h ns Cs h' cap') (hN : N ≤ B) (hi : ns.length < Q.l.length) (T : AT) (hT : T = Q.l[ns.length]) (hl : T.l = []) (hg : wi.grownBy wA none) :
    MidAt w1 (wA.setCell ⟨Q.g, ns.length * 5 + 4, none⟩ (.slice none 0 0)) N B Qs Q h (ns ++ [.mk T.k T.n T.x T.s none 0 []]) Cs h' cap' := by
  have f := hm.facts
  have hk : ∀ k, k < wi.heap.size → k ≠ Q.g → (wA.setCell ⟨Q.g, ns.length * 5 + 4, none⟩ (.slice none 0 0)).heap[k]? = wi.heap[k]? := fun k hk hne =>
    (Below.heap_setCell _ _ _ _ (by show k ≠ Q.g; exact hne)).trans (hg.block k hk (by simp))
  have hQA : wA.ownsRow B 28 5 Q.val Q.l.length (cellsL ns ++ cellsL (Q.l.drop ns.length)) := own_heap hm.rowQ fun k hk2 => hg.block k (hm.rowQ.lt k hk2).2 (by simp)
  exact {
    mt := by
      rw [List.length_append, List.length_singleton, List.take_succ_eq_append_getElem hi, ← hT]
      exact .mnone T hm.mt hl
    len := by simp; omega
    rowQ := own_setL hQA hi T hT none 0 [] rfl
    row := own_heap hm.row fun k hk2 => by
      simp [Value.ownBlock] at hk2
      subst hk2
      exact hk _ f.2.2.2.1 f.2.2.2.2.1
    pend := fun R hR => (hm.pend R hR).kept fun k hk2 => by
      have := f.2.2.2.2.2.1 R hR
      exact hk k (by rcases hk2 with rfl | h; omega; omega) (by rcases hk2 with rfl | h; omega; omega)
    new := hm.new
    nd := hm.nd
    hh := hm.hh
    only := (hm.only.trans (.of_below ⟨hg.os, hg.tape, hg.output, hg.size, fun k hk => hg.block k hk (by simp)⟩)).setP }
/-- an element whose elements are taken over into a row of its own, which is pushed -/
theorem MidAt.some' {w1 wi wA wD : World} {N B : Nat} {Qs : List Pend} {Q : Pend} {h : Nat} {ns : List AT} {Cs : List Pend} {h' cap' c capc h2 cap2 : Nat} {ob : Obj} (hm : MidAt w1 wi N B Qs Q h ns Cs h' cap') (hN : N ≤ B) (hi : ns.length < Q.l.length) (T : AT) (hT : T = Q.l[ns.length]) (hl : T.l ≠ []) (hF : Frn wi N T)
    (hg : wi.grownBy wA none) (hc : c = wi.heap.size) (hcA : c < wA.heap.size) (hown : wA.ownsRow B 28 5 (.slice (some ⟨c, 0, none⟩) T.l.length capc) T.l.length (cellsL T.l))
    (hownD : wD.ownsRow B 26 1 (.slice (some ⟨h2, 0, none⟩) ((Qs ++ Cs).length + 1) cap2) ((Qs ++ Cs).length + 1) ((Qs ++ Cs).map Pend.val ++ [(Pend.mk c capc T.l).val]))
    (hgD : ((wA.setCell ⟨Q.g, ns.length * 5 + 4, none⟩ (.slice (some ⟨c, 0, none⟩) T.l.length capc)).alloc ob).grownBy wD (some h')) (hat : some h' = some h2 ∨ h2 = wA.heap.size + 1) :
    MidAt w1 wD N B Qs Q h (ns ++ [.mk T.k T.n T.x T.s (some ⟨c, 0, none⟩) capc T.l]) (Cs ++ [⟨c, capc, T.l⟩]) h2 cap2 := by
  have f := hm.facts
  have hsA := hg.size
  have hsD : wA.heap.size + 1 ≤ wD.heap.size := by have := hgD.size; simpa [World.setCell] using this
  have hkD : ∀ k, k < wA.heap.size → k ≠ h' → wD.heap[k]? = (wA.setCell ⟨Q.g, ns.length * 5 + 4, none⟩ (.slice (some ⟨c, 0, none⟩) T.l.length capc)).heap[k]? := fun k hk hne =>
    (hgD.block k (by simp [World.setCell]; omega) (by simpa using hne)).trans (Below.heap_alloc _ _ _ (by simpa [World.setCell] using hk))
  have hkA : ∀ k, k < wA.heap.size → k ≠ h' → k ≠ Q.g → wD.heap[k]? = wA.heap[k]? := fun k hk h1 h2 => (hkD k hk h1).trans (Below.heap_setCell _ _ _ _ (by show k ≠ Q.g; exact h2))
  have hk : ∀ k, k < wi.heap.size → k ≠ h' → k ≠ Q.g → wD.heap[k]? = wi.heap[k]? := fun k hk h1 h2 => (hkA k (by omega) h1 h2).trans (hg.block k hk (by simp))
  have hQA : wA.ownsRow B 28 5 Q.val Q.l.length (cellsL ns ++ cellsL (Q.l.drop ns.length)) := own_heap hm.rowQ fun k hk2 => hg.block k (hm.rowQ.lt k hk2).2 (by simp)
  have hFD : Frn wD N T := hF.kept fun k hkN => hk k (by omega) (by omega) (by omega)
  exact {
    mt := by
      rw [List.length_append, List.length_singleton, List.take_succ_eq_append_getElem hi, ← hT]
      exact .msome T c capc hm.mt
    len := by simp; omega
    rowQ := own_heap (own_setL hQA hi T hT (some ⟨c, 0, none⟩) capc T.l rfl) fun k hk2 => by
      simp [Value.ownBlock] at hk2
      subst hk2
      exact hkD _ (by omega) (by omega)
    row := by
      rw [← List.append_assoc, List.length_append, List.map_append]
      exact hownD
    pend := fun R hR => by
      rw [← List.append_assoc, List.mem_append] at hR
      rcases hR with hR | hR
      · have := f.2.2.2.2.2.1 R hR
        exact (hm.pend R hR).kept fun k hk2 => hk k (by rcases hk2 with rfl | h; omega; omega) (by rcases hk2 with rfl | h; omega; omega) (by rcases hk2 with rfl | h; omega; omega)
      · obtain rfl := List.mem_singleton.1 hR
        exact ⟨own_heap hown fun k hk2 => by simp [Value.ownBlock] at hk2; subst hk2; exact hkA _ hcA (by omega) (by omega), fun t ht => hFD.sub ht, hl⟩
    new := fun C hC => by
      rcases List.mem_append.1 hC with hC | hC
      · exact hm.new C hC
      · obtain rfl := List.mem_singleton.1 hC
        show w1.heap.size ≤ c
        omega
    nd := by
      have hnd := hm.nd
      rw [List.nodup_cons, List.nodup_cons] at hnd
      rw [← List.append_assoc, List.map_append, List.nodup_cons, List.nodup_cons, List.nodup_append]
      have hlt : ∀ k ∈ (Qs ++ Cs).map Pend.g, k < wi.heap.size ∧ k ≠ h' ∧ k ≠ Q.g := fun k hk2 => by
        obtain ⟨R, hR, rfl⟩ := List.mem_map.1 hk2
        have := f.2.2.2.2.2.1 R hR
        exact ⟨this.2.2, this.1, this.2.1⟩
      have hh2 : h2 = h' ∨ h2 = wA.heap.size + 1 := by rcases hat with h | h; exact .inl (by injection h with h; exact h.symm); exact .inr h
      refine ⟨fun hx => ?_, fun hx => ?_, hnd.2.2, by simp, fun x hx y hy e => ?_⟩
      · simp only [List.mem_cons, List.mem_append, List.map_cons, List.map_nil, List.not_mem_nil, or_false] at hx
        rcases hx with hx | hx | hx
        · omega
        · have := hlt h2 hx; omega
        · omega
      · rw [List.mem_append] at hx
        rcases hx with hx | hx
        · exact hnd.2.1 hx
        · simp at hx; omega
      · have := hlt x hx
        simp at hy
        omega
    hh := by
      have hh2 : h2 = h' ∨ h2 = wA.heap.size + 1 := by rcases hat with h | h; exact .inl (by injection h with h; exact h.symm); exact .inr h
      have := hm.hh
      omega
    only := by
      refine ⟨?_, ?_, ?_, by omega, fun k hk2 h1 h3 => ?_⟩
      · rw [hgD.os]; exact hg.os.trans hm.only.os
      · rw [hgD.tape]; exact hg.tape.trans hm.only.tape
      · rw [hgD.output]; exact hg.output.trans hm.only.output
      · by_cases hkh : k = h'
        · have := hm.hh; omega
        · exact (hk k (by omega) hkh h1).trans (hm.only.block k hk2 h1 h3) }
theorem len_le_rest (Qs : List Pend) (h : ∀ Q ∈ Qs, Q.l ≠ []) : Qs.length ≤ restN Qs := by
  induction Qs with
  | nil => exact Nat.zero_le _
  | cons Q Qs ih =>
    have h1 := ih (fun R hR => h R (by simp [hR]))
    have h2 : 1 ≤ PT.cntL (AT.ptL Q.l) := by
      have := h Q (by simp)
      cases hq : Q.l with
      | nil => exact absurd hq this
      | cons t l => simp only [AT.ptL, PT.cntL, cnt_eq']; omega
    simp only [restN, List.map_cons, List.sum_cons, List.length_cons] at *
    omega
theorem pend_uniq {w : World} {N B N' B' : Nat} {Q R : Pend} (h : PendAt w N B Q) (h' : PendAt w N' B' R) (hv : Q.val = R.val) : Q = R := by
  obtain ⟨g, cap, l⟩ := Q
  obtain ⟨g', cap', l'⟩ := R
  simp only [Pend.val, Value.slice.injEq, Option.some.injEq, Addr.mk.injEq, and_true] at hv
  obtain ⟨rfl, hl, rfl⟩ := hv
  have i1 : (AT.mk 0 0 0 [] (some ⟨g, 0, none⟩) cap l).In w w.heap.size := AT.Own.in (B := 0) (.mk (own_base' h.row (Nat.zero_le _)) fun t ht => (h.sub t ht).1)
  have i2 : (AT.mk 0 0 0 [] (some ⟨g, 0, none⟩) cap l').In w w.heap.size := AT.Own.in (B := 0) (.mk (own_base' h'.row (Nat.zero_le _)) fun t ht => (h'.sub t ht).1)
  have := i1.uniq i2 (by simp only [AT.val, AT.k, AT.n, AT.x, AT.s, AT.a, AT.cap, AT.l, hl])
  injection this with _ _ _ _ _ _ this
  rw [this]
theorem todo_uniq {w : World} {N B N' B' h cap h' cap' : Nat} {Qs Rs : List Pend} (r1 : w.ownsRow B 26 1 (.slice (some ⟨h, 0, none⟩) Qs.length cap) Qs.length (Qs.map Pend.val)) (p1 : ∀ Q ∈ Qs, PendAt w N B Q)
    (r2 : w.ownsRow B' 26 1 (.slice (some ⟨h', 0, none⟩) Rs.length cap') Rs.length (Rs.map Pend.val)) (p2 : ∀ Q ∈ Rs, PendAt w N' B' Q) (hv : (Value.slice (some ⟨h, 0, none⟩) Qs.length cap) = .slice (some ⟨h', 0, none⟩) Rs.length cap') : Qs = Rs := by
  simp only [Value.slice.injEq, Option.some.injEq, Addr.mk.injEq, and_true] at hv
  obtain ⟨rfl, hlen, rfl⟩ := hv
  refine List.ext_getElem hlen fun j h1 h2 => ?_
  have e := (r1.cellAt j (by omega)).symm.trans (r2.cellAt j (by omega))
  rw [List.getElem?_map, List.getElem?_map, List.getElem?_eq_getElem h1, List.getElem?_eq_getElem h2] at e
  simp only [Option.map_some, Option.some.injEq] at e
  exact pend_uniq (p1 _ (List.getElem_mem h1)) (p2 _ (List.getElem_mem h2)) e
/-- the measure: what is left on the stack -/
theorem todoM_ex : ∃ M : Value → World → Nat, ∀ (w : World) (N B h cap : Nat) (Qs : List Pend), w.ownsRow B 26 1 (.slice (some ⟨h, 0, none⟩) Qs.length cap) Qs.length (Qs.map Pend.val) → (∀ Q ∈ Qs, PendAt w N B Q) → M (.slice (some ⟨h, 0, none⟩) Qs.length cap) w = restN Qs := by
  refine ⟨fun v w => Classical.epsilon fun n : Nat => ∃ N B h cap Qs, v = .slice (some ⟨h, 0, none⟩) (List.length Qs) cap ∧ w.ownsRow B 26 1 (.slice (some ⟨h, 0, none⟩) Qs.length cap) Qs.length (Qs.map Pend.val) ∧ (∀ Q ∈ Qs, PendAt w N B Q) ∧ n = restN Qs, fun w N B h cap Qs r p => ?_⟩
  have := Classical.epsilon_spec (p := fun n : Nat => ∃ N B h' cap' Rs, (Value.slice (some ⟨h, 0, none⟩) Qs.length cap) = .slice (some ⟨h', 0, none⟩) (List.length Rs) cap' ∧ w.ownsRow B 26 1 (.slice (some ⟨h', 0, none⟩) Rs.length cap') Rs.length (Rs.map Pend.val) ∧ (∀ Q ∈ Rs, PendAt w N B Q) ∧ n = restN Rs) ⟨restN Qs, N, B, h, cap, Qs, rfl, r, p, rfl⟩
  obtain ⟨_, _, _, _, Rs, hv, r', p', e⟩ := this
  show Classical.epsilon _ = _
  rw [e, todo_uniq r p r' p' hv]
end Go.Proofs.Ytdjnkcoepmackaa
