/- The program's copy of a tree by a stack of rows whose elements' elements are still foreign: what holds of the stack. -/
import Derived.Test.YtgfebmnlcihpnaaUniq
import Derived.Test.YtgfebmnlcihpnaaCopySpec
import Derived.Test.YtgfebmnlcihpnaaMarkMath
namespace Go.Proofs.Ytgfebmnlcihpnaa
open Go.RowKit
/-- a row of the call's own whose elements' elements are foreign -/
structure Pend where
  g : Nat
  cap : Nat
  l : List AT
@[reducible] def Pend.val (Q : Pend) : Value := .slice (some ⟨Q.g, 0, none⟩) Q.l.length Q.cap
/-- a tree in rows of whomever, all in blocks below N -/
def Frn (w : World) (N : Nat) (t : AT) : Prop := t.Own w 0 ∧ ∀ k ∈ t.blks, k < N
theorem Frn.kept {w w' : World} {N : Nat} {t : AT} (h : Frn w N t) (hk : ∀ k, k < N → w'.heap[k]? = w.heap[k]?) : Frn w' N t := ⟨h.1.kept fun k hkt => hk k (h.2 k hkt), h.2⟩
theorem Frn.sub {w : World} {N : Nat} {t u : AT} (h : Frn w N t) (hu : u ∈ t.l) : Frn w N u := ⟨h.1.l'.sub u hu, fun k hk => h.2 k (by rw [AT.blks_eq, List.mem_append]; exact .inr (AT.mem_blksL.2 ⟨u, hu, hk⟩))⟩
structure PendAt (w : World) (N B : Nat) (Q : Pend) : Prop where
  row : w.ownsRow B 26 5 Q.val Q.l.length (cellsL Q.l)
  sub : ∀ t ∈ Q.l, Frn w N t
  ne : Q.l ≠ []
theorem PendAt.kept {w w' : World} {N B : Nat} {Q : Pend} (h : PendAt w N B Q) (hk : ∀ k, k = Q.g ∨ k < N → w'.heap[k]? = w.heap[k]?) : PendAt w' N B Q :=
  ⟨own_heap h.row (fun k hg => hk k (.inl (by simp [Value.ownBlock] at hg; exact hg.symm))), fun t ht => (h.sub t ht).kept fun k hkN => hk k (.inr hkN), h.ne⟩
theorem PendAt.lt {w : World} {N B : Nat} {Q : Pend} (h : PendAt w N B Q) : B ≤ Q.g ∧ Q.g < w.heap.size := h.row.lt Q.g rfl
/-- the row is copied at all depths -/
def DoneAt (w' : World) (B : Nat) (Q : Pend) (bs : List Nat) : Prop := ∃ l', OwnL w' B (some ⟨Q.g, 0, none⟩) Q.cap l' ∧ AT.ptL l' = AT.ptL Q.l ∧ bs = Q.g :: AT.blksL l' ∧ bs.Nodup
def DoneL (w' : World) (B : Nat) : List Pend → List (List Nat) → Prop
  | [], [] => True
  | Q :: Qs, bs :: bss => DoneAt w' B Q bs ∧ DoneL w' B Qs bss
  | _, _ => False
theorem doneL_append {w' : World} {B : Nat} {Qs Cs : List Pend} {bss : List (List Nat)} (h : DoneL w' B (Qs ++ Cs) bss) : ∃ b1 b2, bss = b1 ++ b2 ∧ DoneL w' B Qs b1 ∧ DoneL w' B Cs b2 := by
  induction Qs generalizing bss with
  | nil => exact ⟨[], bss, rfl, trivial, h⟩
  | cons Q Qs ih =>
    cases bss with
    | nil => exact h.elim
    | cons bs bss =>
      obtain ⟨b1, b2, rfl, h1, h2⟩ := ih h.2
      exact ⟨bs :: b1, b2, rfl, ⟨h.1, h1⟩, h2⟩
theorem doneL_snoc {w' : World} {B : Nat} {Qs : List Pend} {Q : Pend} {b1 : List (List Nat)} {bs : List Nat} (h1 : DoneL w' B Qs b1) (h2 : DoneAt w' B Q bs) : DoneL w' B (Qs ++ [Q]) (b1 ++ [bs]) := by
  induction Qs generalizing b1 with
  | nil => cases b1 with
    | nil => exact ⟨h2, trivial⟩
    | cons x b1 => exact h1.elim
  | cons R Qs ih =>
    cases b1 with
    | nil => exact h1.elim
    | cons x b1 => exact ⟨h1.1, ih h1.2⟩
/-- the elements of a row, the elements that replace them, and the rows that these lead to -/
inductive Match : List AT → List AT → List Pend → Prop
  | mnil : Match [] [] []
  | mnone {ts ns : List AT} {cs : List Pend} (t : AT) (h : Match ts ns cs) (ht : t.l = []) : Match (ts ++ [t]) (ns ++ [.mk t.k t.n t.x t.s none 0 []]) cs
  | msome {ts ns : List AT} {cs : List Pend} (t : AT) (g cap : Nat) (h : Match ts ns cs) : Match (ts ++ [t]) (ns ++ [.mk t.k t.n t.x t.s (some ⟨g, 0, none⟩) cap t.l]) (cs ++ [⟨g, cap, t.l⟩])
theorem Match.len {ts ns : List AT} {cs : List Pend} (h : Match ts ns cs) : ns.length = ts.length := by
  induction h with
  | mnil => rfl
  | mnone t _ _ ih => simp [ih]
  | msome t g cap _ ih => simp [ih]
def restN (Qs : List Pend) : Nat := (Qs.map fun Q => PT.cntL (AT.ptL Q.l)).sum
theorem restN_append (Qs Cs : List Pend) : restN (Qs ++ Cs) = restN Qs + restN Cs := by simp [restN]
theorem Match.rest {ts ns : List AT} {cs : List Pend} (h : Match ts ns cs) : restN cs + ts.length = PT.cntL (AT.ptL ts) := by
  induction h with
  | mnil => rfl
  | mnone t _ ht ih =>
    rw [AT.ptL_eq, List.map_append, cntL_app, ← AT.ptL_eq, ← ih]
    simp only [List.map_cons, List.map_nil, PT.cntL, cnt_eq', ht, AT.ptL, List.length_append, List.length_cons, List.length_nil]
    omega
  | msome t g cap _ ih =>
    rw [AT.ptL_eq, List.map_append, cntL_app, ← AT.ptL_eq, ← ih, restN_append]
    simp only [List.map_cons, List.map_nil, PT.cntL, cnt_eq', restN, List.sum_cons, List.sum_nil, List.length_append, List.length_cons, List.length_nil]
    omega
/-- once the rows that a row leads to are copied, so are its elements -/
theorem Match.done {w' : World} {B : Nat} {ts ns : List AT} {cs : List Pend} (h : Match ts ns cs) : ∀ bss, DoneL w' B cs bss → ∃ l', (∀ t ∈ l', t.Own w' B) ∧ AT.ptL l' = AT.ptL ts ∧ cellsL l' = cellsL ns ∧ AT.blksL l' = bss.flatten ∧ l'.length = ts.length := by
  induction h with
  | mnil => intro bss hd; cases bss with
    | nil => exact ⟨[], by simp, rfl, rfl, rfl, rfl⟩
    | cons b bss => exact hd.elim
  | mnone t _ ht ih =>
    intro bss hd
    obtain ⟨l', h1, h2, h3, h4, h5⟩ := ih bss hd
    refine ⟨l' ++ [.mk t.k t.n t.x t.s none 0 []], ?_, ?_, ?_, ?_, by simp [h5]⟩
    · intro u hu
      rcases List.mem_append.1 hu with hu | hu
      · exact h1 u hu
      · obtain rfl := List.mem_singleton.1 hu; exact AT.leaf_own w' B _ _ _ _
    · rw [AT.ptL_eq, List.map_append, ← AT.ptL_eq, h2, AT.ptL_eq, AT.ptL_eq, List.map_append]
      congr 1
      simp only [List.map_cons, List.map_nil]
      rw [AT.pt_eq t, ht]
      simp [AT.pt, AT.ptL]
    · rw [cellsL_append, cellsL_append, h3]
    · rw [AT.blksL_append, h4]; simp [AT.blksL, AT.blks]
  | msome t g cap _ ih =>
    intro bss hd
    obtain ⟨b1, b2, rfl, hd1, hd2⟩ := doneL_append hd
    obtain ⟨bs, rfl⟩ : ∃ bs, b2 = [bs] := by
      cases b2 with
      | nil => exact hd2.elim
      | cons b b2 => cases b2 with
        | nil => exact ⟨b, rfl⟩
        | cons c b2 => exact hd2.2.elim
    obtain ⟨l', h1, h2, h3, h4, h5⟩ := ih b1 hd1
    obtain ⟨l'', k1, k2, k3, k4⟩ := hd2.1
    have hl : l''.length = t.l.length := by have := congrArg List.length k2; simpa using this
    refine ⟨l' ++ [.mk t.k t.n t.x t.s (some ⟨g, 0, none⟩) cap l''], ?_, ?_, ?_, ?_, by simp [h5]⟩
    · intro u hu
      rcases List.mem_append.1 hu with hu | hu
      · exact h1 u hu
      · obtain rfl := List.mem_singleton.1 hu; exact k1.own
    · rw [AT.ptL_eq, List.map_append, ← AT.ptL_eq, h2, AT.ptL_eq, AT.ptL_eq, List.map_append]
      congr 1
      simp only [List.map_cons, List.map_nil]
      rw [AT.pt_eq t, ← AT.ptL_eq t.l]
      simp only [AT.pt]
      rw [show AT.ptL l'' = AT.ptL t.l from k2]
    · rw [cellsL_append, cellsL_append, h3, cellsL_one, cellsL_one]
      simp [AT.cells, AT.k, AT.n, AT.x, AT.s, AT.a, AT.cap, AT.l, hl]
    · rw [AT.blksL_append, h4, AT.blksL_one, k3]
      simp [AT.blks]
structure TodoAt (w0 wr : World) (N B : Nat) (root : Pend) (h cap : Nat) (Qs : List Pend) : Prop where
  row : wr.ownsRow B 24 1 (.slice (some ⟨h, 0, none⟩) Qs.length cap) Qs.length (Qs.map Pend.val)
  pend : ∀ Q ∈ Qs, PendAt wr N B Q
  nd : (h :: Qs.map Pend.g).Nodup
  nB : N ≤ B
  wand : ∀ w' bss, DoneL w' B Qs bss → bss.flatten.Nodup → (∀ k ∈ bss.flatten, k ∈ Qs.map Pend.g ∨ wr.heap.size ≤ k) → (∀ k, k < wr.heap.size → k ∉ Qs.map Pend.g → k ≠ h → w'.heap[k]? = wr.heap[k]?) → ∃ bs, DoneAt w' B root bs
  w0B : w0.heap.size ≤ B
  below : Below w0.heap.size w0 wr
/-- within a round: the first elements of Q are replaced -/
structure MidAt (w1 wi : World) (N B : Nat) (Qs : List Pend) (Q : Pend) (h : Nat) (ns : List AT) (Cs : List Pend) (h' cap' : Nat) : Prop where
  mt : Match (Q.l.take ns.length) ns Cs
  len : ns.length ≤ Q.l.length
  rowQ : wi.ownsRow B 26 5 Q.val Q.l.length (cellsL ns ++ cellsL (Q.l.drop ns.length))
  row : wi.ownsRow B 24 1 (.slice (some ⟨h', 0, none⟩) (Qs ++ Cs).length cap') (Qs ++ Cs).length ((Qs ++ Cs).map Pend.val)
  pend : ∀ R ∈ Qs ++ Cs, PendAt wi N B R
  new : ∀ C ∈ Cs, w1.heap.size ≤ C.g
  nd : (h' :: Q.g :: (Qs ++ Cs).map Pend.g).Nodup
  hh : h' = h ∨ w1.heap.size ≤ h'
  only : Only2 Q.g h w1 wi
/-- the round's end -/
theorem TodoAt.next {w0 w1 wi : World} {N B : Nat} {root : Pend} {h cap : Nat} {Qs : List Pend} {Q : Pend} {ns : List AT} {Cs : List Pend} {h' cap' : Nat} (ht : TodoAt w0 w1 N B root h cap (Qs ++ [Q])) (hm : MidAt w1 wi N B Qs Q h ns Cs h' cap') (hl : ns.length = Q.l.length) :
    TodoAt w0 wi N B root h' cap' (Qs ++ Cs) where
  row := hm.row
  pend := hm.pend
  nd := by
    have := hm.nd
    rw [List.nodup_cons, List.nodup_cons] at this
    rw [List.nodup_cons]
    exact ⟨fun hx => this.1 (List.mem_cons_of_mem _ hx), this.2.2⟩
  nB := ht.nB
  w0B := ht.w0B
  below := by
    have h1 := (ht.pend Q (by simp)).lt
    have h2 := (ht.row.lt h rfl).1
    have h3 := ht.w0B
    exact ht.below.trans (hm.only.below (by omega) (by omega) ht.below.size)
  wand := by
    intro w' bss hd hnd hin hfr
    obtain ⟨b1, b2, rfl, hd1, hd2⟩ := doneL_append hd
    have hmt := hm.mt
    rw [hl, List.take_of_length_le (Nat.le_refl _)] at hmt
    obtain ⟨l', h1, h2, h3, h4, h5⟩ := hmt.done b2 hd2
    have hQ := ht.pend Q (by simp)
    have hQlt := hQ.lt
    have hsz := hm.only.size
    have hndm := hm.nd
    rw [List.nodup_cons, List.nodup_cons] at hndm
    have hgQ : w'.heap[Q.g]? = wi.heap[Q.g]? := hfr Q.g (by omega) hndm.2.1 (fun e => hndm.1 (by rw [e]; simp))
    have hrow : w'.ownsRow B 26 5 (.slice (some ⟨Q.g, 0, none⟩) l'.length Q.cap) l'.length (cellsL l') := by
      have := own_heap hm.rowQ (w' := w') (fun k hk => by simp [Value.ownBlock] at hk; rw [← hk]; exact hgQ)
      rw [hl, List.drop_eq_nil_of_le (Nat.le_refl _), cellsL_nil, List.append_nil] at this
      rw [h5, h3]; exact this
    rw [List.flatten_append, List.nodup_append] at hnd
    have hgn : Q.g ∉ b2.flatten := fun hx => by
      rcases hin Q.g (by rw [List.flatten_append]; simp [hx]) with hx | hx
      · exact hndm.2.1 hx
      · omega
    have hgn1 : Q.g ∉ b1.flatten := fun hx => by
      rcases hin Q.g (by rw [List.flatten_append]; simp [hx]) with hx | hx
      · exact hndm.2.1 hx
      · omega
    have hdone : DoneAt w' B Q (Q.g :: b2.flatten) := ⟨l', ⟨hrow, h1⟩, h2, by rw [h4], by rw [List.nodup_cons]; exact ⟨hgn, hnd.2.1⟩⟩
    refine ht.wand w' (b1 ++ [Q.g :: b2.flatten]) (doneL_snoc hd1 hdone) ?_ ?_ ?_
    · rw [List.flatten_append, List.nodup_append]
      refine ⟨hnd.1, by simp only [List.flatten_cons, List.flatten_nil, List.append_nil, List.nodup_cons]; exact ⟨hgn, hnd.2.1⟩, fun x hx y hy e => ?_⟩
      simp only [List.flatten_cons, List.flatten_nil, List.append_nil, List.mem_cons] at hy
      subst e
      rcases hy with rfl | hy
      · exact hgn1 hx
      · exact hnd.2.2 x hx x hy rfl
    · intro k hk
      have hcase : k = Q.g ∨ k ∈ (b1 ++ b2).flatten := by
        simp only [List.flatten_append, List.mem_append, List.flatten_cons, List.flatten_nil, List.append_nil, List.mem_cons] at hk ⊢
        rcases hk with hk | rfl | hk
        · exact .inr (.inl hk)
        · exact .inl rfl
        · exact .inr (.inr hk)
      rcases hcase with rfl | hk
      · left; simp
      · rcases hin k hk with hk | hk
        · rw [List.map_append, List.mem_append] at hk
          rcases hk with hk | hk
          · left; rw [List.map_append, List.mem_append]; exact .inl hk
          · right
            obtain ⟨C, hC, rfl⟩ := List.mem_map.1 hk
            exact hm.new C hC
        · right; omega
    · intro k hk hkn hkh
      have hkQ : k ≠ Q.g := fun e => hkn (by rw [e]; simp)
      have hkQs : k ∉ Qs.map Pend.g := fun e => hkn (by rw [List.map_append, List.mem_append]; exact .inl e)
      rw [hfr k (by omega) (fun hx => by
        rw [List.map_append, List.mem_append] at hx
        rcases hx with hx | hx
        · exact hkQs hx
        · obtain ⟨C, hC, rfl⟩ := List.mem_map.1 hx
          have := hm.new C hC
          omega) (fun e => by have := hm.hh; omega)]
      exact hm.only.block k hk hkQ hkh
end Go.Proofs.Ytgfebmnlcihpnaa
