/- PutAt in plain trees and in trees of one's own: an element at a path is replaced. -/
import Derived.Test.YtgfebmnlcihpnaaPathMath
import Derived.Test.YtgfebmnlcihpnaaMarkMath
namespace Go.Proofs.Ytgfebmnlcihpnaa
open Go.RowKit
set_option maxRecDepth 100000
def PT.setL (t : PT) (j : Nat) (y : PT) : PT := match t with | .mk k n x s l => .mk k n x s (l.set j y)
/-- the tree with x at the path, if the path leads to a value -/
def PT.putO : List St → PT → PT → Option PT
  | [], _, x => some x
  | s :: p, t, x => (plc t.k t.l.length s).bind fun j => (t.l[j]?).bind fun u => (PT.putO p u x).map fun y => t.setL j y
def putR (t : PT) (o : Option PT) : PT × Bool := match o with | some y => (y, true) | none => (t, false)
theorem putO_none {T : AT} {s : St} {p : List St} {x : PT} (h : plc T.k T.l.length s = none) : PT.putO (s :: p) T.pt x = none := by
  simp only [PT.putO]; rw [ptk, ptl, List.length_map, h]; rfl
theorem putO_some {T : AT} {s : St} {p : List St} {x : PT} {j : Nat} (h : plc T.k T.l.length s = some j) (hj : j < T.l.length) : PT.putO (s :: p) T.pt x = (PT.putO p (T.l[j]).pt x).map fun y => T.pt.setL j y := by
  simp only [PT.putO]; rw [ptk, ptl, List.length_map, h]
  simp [List.getElem?_eq_getElem hj]
theorem szL_set_le : ∀ (l : List PT) (j : Nat) (y : PT) (m : Nat), y.sz ≤ m → PT.szL (l.set j y) ≤ PT.szL l + m
  | [], _, _, _, _ => by simp
  | t :: l, 0, y, m, h => by simp only [List.set_cons_zero, PT.szL]; omega
  | t :: l, j + 1, y, m, h => by
    simp only [List.set_cons_succ, PT.szL]
    have := szL_set_le l j y m h
    omega
theorem szL_set_of : ∀ (l : List PT) (j : Nat) (y u : PT) (m : Nat), l[j]? = some u → y.sz ≤ u.sz + m → PT.szL (l.set j y) ≤ PT.szL l + m
  | [], _, _, _, _, h, _ => by simp at h
  | t :: l, 0, y, u, m, h, hm => by simp at h; subst h; simp only [List.set_cons_zero, PT.szL]; omega
  | t :: l, j + 1, y, u, m, h, hm => by
    simp only [List.set_cons_succ, PT.szL]
    have := szL_set_of l j y u m (by simpa using h) hm
    omega
theorem putO_wf : ∀ (p : List St) {t x y : PT}, PT.putO p t x = some y → t.Wf → x.Wf → y.Wf ∧ y.sz ≤ t.sz + x.sz
  | [], t, x, y, h, _, hx => by injection h with h; subst h; exact ⟨hx, by omega⟩
  | s :: p, t, x, y, h, ht, hx => by
    obtain ⟨j, _, h1⟩ := Option.bind_eq_some_iff.1 h
    obtain ⟨u, hu, h2⟩ := Option.bind_eq_some_iff.1 h1
    obtain ⟨z, hz, rfl⟩ := Option.map_eq_some_iff.1 h2
    obtain ⟨k, n, a, s, l⟩ := t
    have hm : u ∈ l := List.mem_of_getElem? hu
    have := putO_wf p hz (wf_sub ht hm) hx
    refine ⟨?_, ?_⟩
    · cases ht with
      | mk hk hn hx' hs hl sub =>
        refine .mk hk hn hx' hs (by simpa using hl) (fun v hv => ?_)
        rcases List.mem_or_eq_of_mem_set hv with hv | rfl
        · exact sub v hv
        · exact this.1
    · have h3 := szL_set_of l j z u x.sz hu this.2
      simp only [PT.setL, PT.sz, List.length_set]
      omega
theorem putR_wf (p : List St) (t x : PT) (ht : t.Wf) (hx : x.Wf) (hs : t.sz + x.sz ≤ 1048576) : (putR t (PT.putO p t x)).1.Wf ∧ (putR t (PT.putO p t x)).1.cnt ≤ 1048578 := by
  cases h : PT.putO p t x with
  | none => have := cnt_le_sz t; exact ⟨ht, by show t.cnt ≤ _; omega⟩
  | some y =>
    have h1 := putO_wf p h ht hx
    have h2 := cnt_le_sz y
    exact ⟨h1.1, by show y.cnt ≤ _; omega⟩
/-- the subtree at places -/
def AT.sub : List Nat → AT → Option AT
  | [], T => some T
  | j :: js, T => (T.l[j]?).bind (AT.sub js)
def AT.setL (T : AT) (j : Nat) (Y : AT) : AT := match T with | .mk k n x s a cap l => .mk k n x s a cap (l.set j Y)
/-- the tree with X at places -/
def AT.put : List Nat → AT → AT → AT
  | [], _, X => X
  | j :: js, T, X => match T.l[j]? with | some U => T.setL j (AT.put js U X) | none => T
def PT.plug : List Nat → PT → PT → PT
  | [], _, x => x
  | j :: js, t, x => match t.l[j]? with | some u => t.setL j (PT.plug js u x) | none => t
theorem setL_pt (T : AT) (j : Nat) (Y : AT) : (T.setL j Y).pt = T.pt.setL j Y.pt := by
  obtain ⟨k, n, x, s, a, cap, l⟩ := T
  simp only [AT.setL, AT.pt, PT.setL, AT.ptL_eq, List.map_set]
theorem put_pt : ∀ (js : List Nat) (T X : AT), (AT.put js T X).pt = PT.plug js T.pt X.pt
  | [], _, _ => rfl
  | j :: js, T, X => by
    simp only [AT.put, PT.plug, ptl, List.getElem?_map]
    cases T.l[j]? with
    | none => rfl
    | some U => simp only [Option.map_some]; rw [setL_pt, put_pt js U X]
theorem sub_snoc : ∀ (js : List Nat) (T Y Z : AT) (j : Nat), AT.sub js T = some Y → Y.l[j]? = some Z → AT.sub (js ++ [j]) T = some Z
  | [], T, Y, Z, j, h, hz => by injection h with h; subst h; simp [AT.sub, hz]
  | i :: js, T, Y, Z, j, h, hz => by
    obtain ⟨U, hU, h2⟩ := Option.bind_eq_some_iff.1 h
    simp only [List.cons_append, AT.sub, hU, Option.bind_some]
    exact sub_snoc js U Y Z j h2 hz
theorem plug_snoc : ∀ (js : List Nat) (T Y : AT) (j : Nat) (x z : PT), AT.sub js T = some Y → Y.pt.l[j]? = some z → PT.plug (js ++ [j]) T.pt x = PT.plug js T.pt (Y.pt.setL j x)
  | [], T, Y, j, x, z, h, hz => by injection h with h; subst h; simp [PT.plug, hz]
  | i :: js, T, Y, j, x, z, h, hz => by
    obtain ⟨U, hU, h2⟩ := Option.bind_eq_some_iff.1 h
    simp only [List.cons_append, PT.plug, ptl, List.getElem?_map, hU, Option.map_some]
    rw [plug_snoc js U Y j x z h2 hz]
/-- where the value at places (at least one) lies: the row's block, the offset -/
def AT.spot : List Nat → AT → Option (Nat × Nat)
  | [], _ => none
  | [j], T => T.a.map fun p => (p.block, j * 5)
  | j :: js, T => (T.l[j]?).bind (AT.spot js)
theorem spot_snoc : ∀ (js : List Nat) (T Y : AT) (j g : Nat), AT.sub js T = some Y → Y.a = some ⟨g, 0, none⟩ → AT.spot (js ++ [j]) T = some (g, j * 5)
  | [], T, Y, j, g, h, ha => by injection h with h; subst h; simp [AT.spot, ha]
  | i :: js, T, Y, j, g, h, ha => by
    obtain ⟨U, hU, h2⟩ := Option.bind_eq_some_iff.1 h
    have := spot_snoc js U Y j g h2 ha
    cases js with
    | nil => simpa [AT.spot, hU] using this
    | cons i2 js => simpa [AT.spot, hU] using this
theorem spot_mem : ∀ (js : List Nat) (T : AT) (b o : Nat), AT.spot js T = some (b, o) → b ∈ T.blks
  | [], _, _, _, h => by simp [AT.spot] at h
  | [j], T, b, o, h => by
    obtain ⟨p, hp, e⟩ := Option.map_eq_some_iff.1 h
    rw [AT.blks_eq, hp]; simp; left; exact (Prod.mk.inj e).1.symm
  | j :: j2 :: js, T, b, o, h => by
    obtain ⟨U, hU, h2⟩ := Option.bind_eq_some_iff.1 h
    rw [AT.blks_eq, List.mem_append]
    exact .inr (AT.mem_blksL.2 ⟨U, List.mem_of_getElem? hU, spot_mem (j2 :: js) U b o h2⟩)
theorem blksL_set {l : List AT} {j : Nat} {U Y : AT} (h : l[j]? = some U) : AT.blksL l = AT.blksL (l.take j) ++ (U.blks ++ AT.blksL (l.drop (j + 1))) ∧ AT.blksL (l.set j Y) = AT.blksL (l.take j) ++ (Y.blks ++ AT.blksL (l.drop (j + 1))) := by
  obtain ⟨hj, hU⟩ := List.getElem?_eq_some_iff.1 h
  constructor
  · conv => lhs; rw [← List.take_append_drop j l, List.drop_eq_getElem_cons hj, hU]
    rw [AT.blksL_append]; rfl
  · rw [List.set_eq_take_append_cons_drop, if_pos hj, AT.blksL_append]; rfl
/-- five cells are set to a tree's root -/
@[reducible] def put5 (w : World) (b o : Nat) (X : AT) : World := ((((w.setCell ⟨b, o, none⟩ (.int .i64 X.k)).setCell ⟨b, o + 1, none⟩ (.int .i64 X.n)).setCell ⟨b, o + 2, none⟩ (.int .i64 X.x)).setCell ⟨b, o + 3, none⟩ (.string ⟨X.s.toArray⟩)).setCell ⟨b, o + 4, none⟩ (.slice X.a X.l.length X.cap)
theorem put5_own {w : World} {B b o : Nat} {T X : AT} (h : T.Own w B) (hb : b ∉ T.blks) : T.Own (put5 w b o X) B := ((((h.setg' hb).setg' hb).setg' hb).setg' hb).setg' hb
theorem put5_block {w : World} {b o k : Nat} {X : AT} (h : k ≠ b) : (put5 w b o X).heap[k]? = w.heap[k]? :=
  (Below.heap_setCell _ _ _ _ h).trans ((Below.heap_setCell _ _ _ _ h).trans ((Below.heap_setCell _ _ _ _ h).trans ((Below.heap_setCell _ _ _ _ h).trans (Below.heap_setCell _ _ _ _ h))))
theorem cellsL_put (l : List AT) (j : Nat) (X : AT) (hj : j < l.length) :
    (((((cellsL l).set (j * 5) (.int .i64 X.k)).set (j * 5 + 1) (.int .i64 X.n)).set (j * 5 + 2) (.int .i64 X.x)).set (j * 5 + 3) (.string ⟨X.s.toArray⟩)).set (j * 5 + 4) (.slice X.a X.l.length X.cap) = cellsL (l.set j X) := by
  have h1 : cellsL l = cellsL (l.take j) ++ cellsL (l.drop j) := by rw [← cellsL_append, List.take_append_drop]
  have h2 : cellsL (l.drop j) = (l[j]).cells ++ cellsL (l.drop (j + 1)) := by rw [List.drop_eq_getElem_cons hj]; rfl
  rw [h1, set_five _ _ _ _ _ _ _ _ (by rw [cellsL_length, List.length_take]; omega) (by rw [h2, List.length_append, AT.cells_length]; omega), h2, List.drop_append_of_le_length (by rw [AT.cells_length]; exact Nat.le_refl _)]
  rw [List.drop_of_length_le (by rw [AT.cells_length]; exact Nat.le_refl _), List.nil_append, List.set_eq_take_append_cons_drop, if_pos hj, cellsL_append]
  rw [List.append_assoc]; rfl
theorem cellsL_same {l : List AT} {j : Nat} {U Z : AT} (h : l[j]? = some U) (hc : Z.cells = U.cells) : cellsL (l.set j Z) = cellsL l := by
  obtain ⟨hj, hU⟩ := List.getElem?_eq_some_iff.1 h
  refine cellsL_ext _ _ (by simp) fun i h1 h2 => ?_
  by_cases e : i = j
  · subst e; simp [hc, hU]
  · rw [List.getElem_set_ne (fun h => e h.symm)]
theorem nodup_mid {A U C Y : List Nat} (h : (A ++ (U ++ C)).Nodup) (hY : Y.Nodup) (hd : ∀ k ∈ Y, k ∉ A ∧ k ∉ C) : (A ++ (Y ++ C)).Nodup := by
  rw [List.nodup_append] at h ⊢
  obtain ⟨h1, h2, h3⟩ := h
  rw [List.nodup_append] at h2 ⊢
  refine ⟨h1, ⟨hY, h2.2.1, fun x hx y hy e => (hd x hx).2 (e ▸ hy)⟩, fun x hx y hy e => ?_⟩
  rcases List.mem_append.1 hy with hy | hy
  · exact (hd y hy).1 (e ▸ hx)
  · exact h3 x hx y (List.mem_append.2 (.inr hy)) e
theorem put_own : ∀ (js : List Nat) (T X Y : AT) (w : World) (B b o : Nat), T.Own w B → T.blks.Nodup → AT.sub js T = some Y → AT.spot js T = some (b, o) → X.Own w B → X.blks.Nodup → (∀ k ∈ X.blks, k ∉ T.blks) →
    (AT.put js T X).Own (put5 w b o X) B ∧ (AT.put js T X).blks.Nodup ∧ (∀ k ∈ (AT.put js T X).blks, k ∈ T.blks ∨ k ∈ X.blks) ∧ (AT.put js T X).cells = T.cells
  | [], T, X, Y, w, B, b, o, hT, hn, hs, hsp, hX, hxn, hd => by simp [AT.spot] at hsp
  | [j], T, X, Y, w, B, b, o, hT, hn, hs, hsp, hX, hxn, hd => by
    obtain ⟨k, n, x, s, a, cap, l⟩ := T
    obtain ⟨U, hU, _⟩ := Option.bind_eq_some_iff.1 hs
    replace hU : l[j]? = some U := hU
    obtain ⟨hj, hUj⟩ := List.getElem?_eq_some_iff.1 hU
    have hO := hT.l
    obtain ⟨g, rfl, hBg, hgl, _⟩ := own_cellL hO.row j hj
    have he : b = g ∧ o = j * 5 := by
      simp only [AT.spot, AT.a, Option.map_some, Option.some.injEq, Prod.mk.injEq] at hsp
      exact ⟨hsp.1.symm, hsp.2.symm⟩
    obtain ⟨rfl, rfl⟩ := he
    have hn2 : (b :: AT.blksL l).Nodup := by simpa [AT.blks] using hn
    rw [List.nodup_cons] at hn2
    have hmem : ∀ k', k' ∈ AT.blksL l → k' ∈ (AT.mk k n x s (some ⟨b, 0, none⟩) cap l).blks := fun k' hk => by simp [AT.blks, hk]
    have hbm : b ∈ (AT.mk k n x s (some ⟨b, 0, none⟩) cap l).blks := by simp [AT.blks]
    have hbX : b ∉ X.blks := fun h => hd b h hbm
    have e : AT.put [j] (.mk k n x s (some ⟨b, 0, none⟩) cap l) X = .mk k n x s (some ⟨b, 0, none⟩) cap (l.set j X) := by simp [AT.put, AT.l, hU, AT.setL]
    obtain ⟨b1, b2⟩ := blksL_set (Y := X) hU
    rw [e]
    refine ⟨OwnL.own ⟨?_, fun t ht => ?_⟩, ?_, fun k' hk => ?_, by simp [AT.cells, AT.k, AT.n, AT.x, AT.s, AT.a, AT.cap, AT.l]⟩
    · have h1 := (hO.row.stored (j * 5) (.int .i64 X.k)).1
      have h2 := (h1.stored (j * 5 + 1) (.int .i64 X.n)).1
      have h3 := (h2.stored (j * 5 + 2) (.int .i64 X.x)).1
      have h4 := (h3.stored (j * 5 + 3) (.string ⟨X.s.toArray⟩)).1
      have h5 := (h4.stored (j * 5 + 4) (.slice X.a X.l.length X.cap)).1
      rw [cellsL_put l j X hj] at h5
      simpa using h5
    · rcases List.mem_or_eq_of_mem_set ht with ht | rfl
      · exact put5_own (hO.sub t ht) (fun h => hn2.1 (AT.mem_blksL.2 ⟨t, ht, h⟩))
      · exact put5_own hX hbX
    · show ([b] ++ AT.blksL (l.set j X)).Nodup
      rw [List.singleton_append, List.nodup_cons, b2]
      rw [b1] at hn2
      refine ⟨fun h => ?_, nodup_mid hn2.2 hxn fun k' hk => ⟨fun h => hd k' hk (hmem k' (by rw [b1]; simp [h])), fun h => hd k' hk (hmem k' (by rw [b1]; simp [h]))⟩⟩
      rcases List.mem_append.1 h with h | h
      · exact hn2.1 (by simp [h])
      · rcases List.mem_append.1 h with h | h
        · exact hbX h
        · exact hn2.1 (by simp [h])
    · have hk2 : k' = b ∨ k' ∈ AT.blksL (l.set j X) := by simpa [AT.blks] using hk
      rcases hk2 with rfl | hk2
      · exact .inl hbm
      · rw [b2] at hk2
        rcases List.mem_append.1 hk2 with h | h
        · exact .inl (hmem k' (by rw [b1]; simp [h]))
        · rcases List.mem_append.1 h with h | h
          · exact .inr h
          · exact .inl (hmem k' (by rw [b1]; simp [h]))
  | j :: j2 :: js, T, X, Y, w, B, b, o, hT, hn, hs, hsp, hX, hxn, hd => by
    obtain ⟨k, n, x, s, a, cap, l⟩ := T
    obtain ⟨U, hU, hs2⟩ := Option.bind_eq_some_iff.1 hs
    replace hU : l[j]? = some U := hU
    obtain ⟨hj, hUj⟩ := List.getElem?_eq_some_iff.1 hU
    have hUm : U ∈ l := List.mem_of_getElem? hU
    have hO := hT.l
    have hsp2 : AT.spot (j2 :: js) U = some (b, o) := by simpa [AT.spot, AT.l, hU] using hsp
    have hbU := spot_mem (j2 :: js) U b o hsp2
    obtain ⟨g, rfl, hBg, hgl, _⟩ := own_cellL hO.row j hj
    have hn2 : (g :: AT.blksL l).Nodup := by simpa [AT.blks] using hn
    rw [List.nodup_cons] at hn2
    have hmem : ∀ k', k' ∈ AT.blksL l → k' ∈ (AT.mk k n x s (some ⟨g, 0, none⟩) cap l).blks := fun k' hk => by simp [AT.blks, hk]
    have hgm : g ∈ (AT.mk k n x s (some ⟨g, 0, none⟩) cap l).blks := by simp [AT.blks]
    have hUl : ∀ k', k' ∈ U.blks → k' ∈ AT.blksL l := fun k' hk => AT.mem_blksL.2 ⟨U, hUm, hk⟩
    have hgb : g ≠ b := fun e => hn2.1 (hUl g (e ▸ hbU))
    have hUn : U.blks.Nodup := by
      have := hn2.2
      rw [(blksL_set (Y := U) hU).1, List.nodup_append, List.nodup_append] at this
      exact this.2.1.1
    obtain ⟨i1, i2, i3, i4⟩ := put_own (j2 :: js) U X Y w B b o (hO.sub U hUm) hUn hs2 hsp2 hX hxn (fun k' hk h => hd k' hk (hmem k' (hUl k' h)))
    have e : AT.put (j :: j2 :: js) (.mk k n x s (some ⟨g, 0, none⟩) cap l) X = .mk k n x s (some ⟨g, 0, none⟩) cap (l.set j (AT.put (j2 :: js) U X)) := by
      show (match (AT.mk k n x s (some ⟨g, 0, none⟩) cap l).l[j]? with | some U => (AT.mk k n x s (some ⟨g, 0, none⟩) cap l).setL j (AT.put (j2 :: js) U X) | none => _) = _
      simp only [AT.l, hU]; rfl
    generalize AT.put (j2 :: js) U X = Z at *
    obtain ⟨b1, b2⟩ := blksL_set (Y := Z) hU
    rw [e]
    have hother : ∀ i t, i ≠ j → l[i]? = some t → b ∉ t.blks := fun i t hij hit hbt => by
      have h1 := hn2.2
      rw [b1] at h1
      rw [List.nodup_append, List.nodup_append] at h1
      obtain ⟨hi, hti⟩ := List.getElem?_eq_some_iff.1 hit
      rcases Nat.lt_or_gt_of_ne hij with hlt | hgt
      · exact h1.2.2 b (AT.mem_blksL.2 ⟨t, by rw [List.mem_take_iff_getElem]; exact ⟨i, by omega, hti⟩, hbt⟩) b (List.mem_append.2 (.inl hbU)) rfl
      · exact h1.2.1.2.2 b hbU b (AT.mem_blksL.2 ⟨t, by rw [List.mem_drop_iff_getElem]; exact ⟨i - (j + 1), by omega, by simp [show i - (j + 1) + (j + 1) = i by omega, hti, show j + 1 + (i - (j + 1)) = i by omega]⟩, hbt⟩) rfl
    have hZ : ∀ k' ∈ Z.blks, k' ∈ AT.blksL l ∨ k' ∈ X.blks := fun k' hk => (i3 k' hk).imp (hUl k') id
    have hgZ : g ∉ Z.blks := fun h => (hZ g h).elim hn2.1 (fun h => hd g h hgm)
    refine ⟨OwnL.own ⟨?_, fun t ht => ?_⟩, ?_, fun k' hk => ?_, by simp [AT.cells, AT.k, AT.n, AT.x, AT.s, AT.a, AT.cap, AT.l]⟩
    · rw [cellsL_same hU i4, List.length_set]
      exact own_heap hO.row fun k' hk => by
        simp [Value.ownBlock] at hk
        subst hk
        exact put5_block hgb
    · obtain ⟨i, hi, hti⟩ := List.getElem_of_mem ht
      by_cases hij : i = j
      · subst hij
        simp at hti
        rw [← hti]; exact i1
      · rw [List.getElem_set_ne (fun h => hij h.symm)] at hti
        have hi' : i < l.length := by simpa using hi
        have := hother i t hij (by rw [List.getElem?_eq_getElem hi', hti])
        exact put5_own (hO.sub t (hti ▸ List.getElem_mem hi')) this
    · show ([g] ++ AT.blksL (l.set j Z)).Nodup
      rw [List.singleton_append, List.nodup_cons, b2]
      have h1 := hn2.2
      have hn1 := hn2.1
      rw [b1] at h1 hn1
      have hdis : ∀ k' ∈ Z.blks, k' ∉ AT.blksL (l.take j) ∧ k' ∉ AT.blksL (l.drop (j + 1)) := fun k' hk => by
        rcases i3 k' hk with h | h
        · rw [List.nodup_append, List.nodup_append] at h1
          exact ⟨fun h' => h1.2.2 k' h' k' (List.mem_append.2 (.inl h)) rfl, fun h' => h1.2.1.2.2 k' h k' h' rfl⟩
        · exact ⟨fun h' => hd k' h (hmem k' (by rw [b1]; simp [h'])), fun h' => hd k' h (hmem k' (by rw [b1]; simp [h']))⟩
      refine ⟨fun h => ?_, nodup_mid h1 i2 hdis⟩
      rcases List.mem_append.1 h with h | h
      · exact hn1 (by simp [h])
      · rcases List.mem_append.1 h with h | h
        · exact hgZ h
        · exact hn1 (by simp [h])
    · have hk2 : k' = g ∨ k' ∈ AT.blksL (l.set j Z) := by simpa [AT.blks] using hk
      rcases hk2 with rfl | hk2
      · exact .inl hgm
      · rw [b2] at hk2
        rcases List.mem_append.1 hk2 with h | h
        · exact .inl (hmem k' (by rw [b1]; simp [h]))
        · rcases List.mem_append.1 h with h | h
          · exact (hZ k' h).imp (hmem k') id
          · exact .inl (hmem k' (by rw [b1]; simp [h]))
end Go.Proofs.Ytgfebmnlcihpnaa
