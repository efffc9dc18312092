import Derived.Test.YtdjnkcoepmackaaG24
import Derived.Test.YtdjnkcoepmackaaG8
import Derived.Test.YtdjnkcoepmackaaG20
import Derived.Laws.Cover1
import Derived.Test.YtdjnkcoepmackaaG10
import Derived.Deep.CutRange
import Derived.Deep.RegionHeld3
/- Paths in plain trees: where a step leads, what stands at a path. -/
namespace Go.Proofs.Ytdjnkcoepmackaa
open Go.RowKit
/-- the place in the elements that a step into a map leads to -/
def mapOff (s : St) : Int := 2 * s.1 + (if s.2 = true then 0 else 1)
theorem mapOff_bd (s : St) : 2 * s.1 ≤ mapOff s ∧ mapOff s ≤ 2 * s.1 + 1 := by unfold mapOff; split <;> omega
/-- the place in the elements that a step leads to -/
def plc (k : Int) (len : Nat) (s : St) : Option Nat :=
  if k = 10 then (if 0 ≤ s.1 ∧ mapOff s < len then some (mapOff s).toNat else none)
  else (if s.2 = false ∧ 0 ≤ s.1 ∧ s.1 < len then some s.1.toNat else none)
theorem plc_map {k : Int} {len : Nat} {s : St} (hk : k = 10) : plc k len s = if 0 ≤ s.1 ∧ mapOff s < len then some (mapOff s).toNat else none := if_pos hk
theorem plc_else {k : Int} {len : Nat} {s : St} (hk : k ≠ 10) : plc k len s = if s.2 = false ∧ 0 ≤ s.1 ∧ s.1 < len then some s.1.toNat else none := if_neg hk
theorem plc_lt {k : Int} {len : Nat} {s : St} {j : Nat} (h : plc k len s = some j) : j < len := by
  have hb := mapOff_bd s
  by_cases hk : k = 10
  · rw [plc_map hk] at h
    by_cases h1 : 0 ≤ s.1 ∧ mapOff s < len
    · rw [if_pos h1] at h
      injection h with h
      omega
    · rw [if_neg h1] at h; cases h
  · rw [plc_else hk] at h
    by_cases h1 : s.2 = false ∧ 0 ≤ s.1 ∧ s.1 < len
    · rw [if_pos h1] at h
      injection h with h
      omega
    · rw [if_neg h1] at h; cases h
def plI (k : Int) (len : Nat) (s : St) : Int := match plc k len s with | some j => (j : Int) | none => -1
def PT.k : PT → Int | .mk k _ _ _ _ => k
def PT.l : PT → List PT | .mk _ _ _ _ l => l
theorem ptk (T : AT) : T.pt.k = T.k := by cases T; rfl
theorem ptl (T : AT) : T.pt.l = T.l.map AT.pt := by cases T; simp [AT.pt, PT.l, AT.l, AT.ptL_eq]
/-- what a step leads to -/
def PT.step (t : PT) (s : St) : Option PT := (plc t.k t.l.length s).bind fun j => t.l[j]?
/-- what stands at a path -/
def PT.at' : List St → PT → Option PT
  | [], t => some t
  | s :: p, t => (t.step s).bind (PT.at' p)
def found (o : Option PT) : PT × Bool := match o with | some t => (t, true) | none => (zeroPT, false)
theorem step_none {T : AT} {s : St} (h : plc T.k T.l.length s = none) : T.pt.step s = none := by
  unfold PT.step; rw [ptk, ptl, List.length_map, h]; rfl
theorem step_some {T : AT} {s : St} {j : Nat} (h : plc T.k T.l.length s = some j) (hj : j < T.l.length) : T.pt.step s = some (T.l[j]).pt := by
  unfold PT.step; rw [ptk, ptl, List.length_map, h]
  simp [List.getElem?_eq_getElem hj]
theorem at_drop {l : List St} {i : Nat} (h : i < l.length) (t : PT) : PT.at' (l.drop i) t = (t.step l[i]).bind (PT.at' (l.drop (i + 1))) := by
  rw [List.drop_eq_getElem_cons h]; rfl
theorem wf_sub {t u : PT} (h : t.Wf) (hu : u ∈ t.l) : u.Wf := by
  obtain ⟨k, n, x, s, l⟩ := t
  exact h.sub' u hu
theorem sz_sub {t u : PT} (hu : u ∈ t.l) : u.sz ≤ t.sz := by
  obtain ⟨k, n, x, s, l⟩ := t
  have := sz_mem (show u ∈ l from hu)
  simp only [PT.sz]
  omega
theorem step_mem {t u : PT} {s : St} (h : t.step s = some u) : u ∈ t.l := by
  unfold PT.step at h
  obtain ⟨j, _, h2⟩ := Option.bind_eq_some_iff.1 h
  exact List.mem_of_getElem? h2
theorem at_wf : ∀ (p : List St) {t u : PT}, PT.at' p t = some u → t.Wf → u.Wf ∧ u.sz ≤ t.sz
  | [], t, u, h, hw => by injection h with h; subst h; exact ⟨hw, Nat.le_refl _⟩
  | s :: p, t, u, h, hw => by
    obtain ⟨v, h1, h2⟩ := Option.bind_eq_some_iff.1 h
    have hm := step_mem h1
    have := at_wf p h2 (wf_sub hw hm)
    exact ⟨this.1, Nat.le_trans this.2 (sz_sub hm)⟩
theorem zeroPT_wf : zeroPT.Wf := .mk (by omega) (by omega) (by omega) (by simp) (by simp) (by simp)
theorem found_wf (p : List St) (t : PT) (hw : t.Wf) (hs : t.sz ≤ 1048576) : (found (PT.at' p t)).1.Wf ∧ (found (PT.at' p t)).1.cnt ≤ 1048578 := by
  cases h : PT.at' p t with
  | none => exact ⟨zeroPT_wf, by simp [found, zeroPT, PT.cnt, PT.cntL]⟩
  | some u =>
    have h1 := at_wf p h hw
    have h2 := cnt_le_sz u
    exact ⟨h1.1, by show u.cnt ≤ _; omega⟩
theorem step_wf (t : PT) (st : St) (hw : t.Wf) (hs : t.sz ≤ 1048576) : (found (t.step st)).1.Wf ∧ (found (t.step st)).1.cnt ≤ 1048578 := by
  have h := found_wf [st] t hw hs
  have e : PT.at' [st] t = t.step st := by simp [PT.at']
  rwa [e] at h
end Go.Proofs.Ytdjnkcoepmackaa
/- PutAt in plain trees and in trees of one's own: an element at a path is replaced. -/
namespace Go.Proofs.Ytdjnkcoepmackaa
open Go.RowKit
set_option maxRecDepth 100000
def PT.setL (t : PT) (j : Nat) (y : PT) : PT := match t with | .mk k n x s l => .mk k n x s (l.set j y)
/-- the tree with x at the path, if the path leads to a value -/
def PT.putO : List St → PT → PT → Option PT
  | [], _, x => some x
  | s :: p, t, x => (plc t.k t.l.length s).bind fun j => (t.l[j]?).bind fun u => (PT.putO p u x).map fun y => t.setL j y
def putR (t : PT) (o : Option PT) : PT × Bool := match o with | some y => (y, true) | none => (t, false)
theorem putO_none {T : AT} {s : St} {p : List St} {x : PT} (h : plc T.k T.l.length s = none) : PT.putO (s :: p) T.pt x = none := by
  simp only [PT.putO]; rw [ptk, ptl, List.length_map, h]; rfl
theorem putO_some {T : AT} {s : St} {p : List St} {x : PT} {j : Nat} (h : plc T.k T.l.length s = some j) (hj : j < T.l.length) : PT.putO (s :: p) T.pt x = (PT.putO p (T.l[j]).pt x).map fun y => T.pt.setL j y := by
  simp only [PT.putO]; rw [ptk, ptl, List.length_map, h]
  simp [List.getElem?_eq_getElem hj]
theorem szL_set_le : ∀ (l : List PT) (j : Nat) (y : PT) (m : Nat), y.sz ≤ m → PT.szL (l.set j y) ≤ PT.szL l + m
  | [], _, _, _, _ => by simp
  | t :: l, 0, y, m, h => by simp only [List.set_cons_zero, PT.szL]; omega
  | t :: l, j + 1, y, m, h => by
    simp only [List.set_cons_succ, PT.szL]
    have := szL_set_le l j y m h
    omega
theorem szL_set_of : ∀ (l : List PT) (j : Nat) (y u : PT) (m : Nat), l[j]? = some u → y.sz ≤ u.sz + m → PT.szL (l.set j y) ≤ PT.szL l + m
  | [], _, _, _, _, h, _ => by simp at h
  | t :: l, 0, y, u, m, h, hm => by simp at h; subst h; simp only [List.set_cons_zero, PT.szL]; omega
  | t :: l, j + 1, y, u, m, h, hm => by
    simp only [List.set_cons_succ, PT.szL]
    have := szL_set_of l j y u m (by simpa using h) hm
    omega
theorem putO_wf : ∀ (p : List St) {t x y : PT}, PT.putO p t x = some y → t.Wf → x.Wf → y.Wf ∧ y.sz ≤ t.sz + x.sz
  | [], t, x, y, h, _, hx => by injection h with h; subst h; exact ⟨hx, by omega⟩
  | s :: p, t, x, y, h, ht, hx => by
    obtain ⟨j, _, h1⟩ := Option.bind_eq_some_iff.1 h
    obtain ⟨u, hu, h2⟩ := Option.bind_eq_some_iff.1 h1
    obtain ⟨z, hz, rfl⟩ := Option.map_eq_some_iff.1 h2
    obtain ⟨k, n, a, s, l⟩ := t
    have hm : u ∈ l := List.mem_of_getElem? hu
    have := putO_wf p hz (wf_sub ht hm) hx
    refine ⟨?_, ?_⟩
    · cases ht with
      | mk hk hn hx' hs hl sub =>
        refine .mk hk hn hx' hs (by simpa using hl) (fun v hv => ?_)
        rcases List.mem_or_eq_of_mem_set hv with hv | rfl
        · exact sub v hv
        · exact this.1
    · have h3 := szL_set_of l j z u x.sz hu this.2
      simp only [PT.setL, PT.sz, List.length_set]
      omega
theorem putR_wf (p : List St) (t x : PT) (ht : t.Wf) (hx : x.Wf) (hs : t.sz + x.sz ≤ 1048576) : (putR t (PT.putO p t x)).1.Wf ∧ (putR t (PT.putO p t x)).1.cnt ≤ 1048578 := by
  cases h : PT.putO p t x with
  | none => have := cnt_le_sz t; exact ⟨ht, by show t.cnt ≤ _; omega⟩
  | some y =>
    have h1 := putO_wf p h ht hx
    have h2 := cnt_le_sz y
    exact ⟨h1.1, by show y.cnt ≤ _; omega⟩
/-- the subtree at places -/
def AT.sub : List Nat → AT → Option AT
  | [], T => some T
  | j :: js, T => (T.l[j]?).bind (AT.sub js)
def AT.setL (T : AT) (j : Nat) (Y : AT) : AT := match T with | .mk k n x s a cap l => .mk k n x s a cap (l.set j Y)
/-- the tree with X at places -/
def AT.put : List Nat → AT → AT → AT
  | [], _, X => X
  | j :: js, T, X => match T.l[j]? with | some U => T.setL j (AT.put js U X) | none => T
def PT.plug : List Nat → PT → PT → PT
  | [], _, x => x
  | j :: js, t, x => match t.l[j]? with | some u => t.setL j (PT.plug js u x) | none => t
theorem setL_pt (T : AT) (j : Nat) (Y : AT) : (T.setL j Y).pt = T.pt.setL j Y.pt := by
  obtain ⟨k, n, x, s, a, cap, l⟩ := T
  simp only [AT.setL, AT.pt, PT.setL, AT.ptL_eq, List.map_set]
theorem put_pt : ∀ (js : List Nat) (T X : AT), (AT.put js T X).pt = PT.plug js T.pt X.pt
  | [], _, _ => rfl
  | j :: js, T, X => by
    simp only [AT.put, PT.plug, ptl, List.getElem?_map]
    cases T.l[j]? with
    | none => rfl
    | some U => simp only [Option.map_some]; rw [setL_pt, put_pt js U X]
theorem sub_snoc : ∀ (js : List Nat) (T Y Z : AT) (j : Nat), AT.sub js T = some Y → Y.l[j]? = some Z → AT.sub (js ++ [j]) T = some Z
  | [], T, Y, Z, j, h, hz => by injection h with h; subst h; simp [AT.sub, hz]
  | i :: js, T, Y, Z, j, h, hz => by
    obtain ⟨U, hU, h2⟩ := Option.bind_eq_some_iff.1 h
    simp only [List.cons_append, AT.sub, hU, Option.bind_some]
    exact sub_snoc js U Y Z j h2 hz
theorem plug_snoc : ∀ (js : List Nat) (T Y : AT) (j : Nat) (x z : PT), AT.sub js T = some Y → Y.pt.l[j]? = some z → PT.plug (js ++ [j]) T.pt x = PT.plug js T.pt (Y.pt.setL j x)
  | [], T, Y, j, x, z, h, hz => by injection h with h; subst h; simp [PT.plug, hz]
  | i :: js, T, Y, j, x, z, h, hz => by
    obtain ⟨U, hU, h2⟩ := Option.bind_eq_some_iff.1 h
    simp only [List.cons_append, PT.plug, ptl, List.getElem?_map, hU, Option.map_some]
    rw [plug_snoc js U Y j x z h2 hz]
/-- where the value at places (at least one) lies: the row's block, the offset -/
def AT.spot : List Nat → AT → Option (Nat × Nat)
  | [], _ => none
  | [j], T => T.a.map fun p => (p.block, j * 5)
  | j :: js, T => (T.l[j]?).bind (AT.spot js)
theorem spot_snoc : ∀ (js : List Nat) (T Y : AT) (j g : Nat), AT.sub js T = some Y → Y.a = some ⟨g, 0, none⟩ → AT.spot (js ++ [j]) T = some (g, j * 5)
  | [], T, Y, j, g, h, ha => by injection h with h; subst h; simp [AT.spot, ha]
  | i :: js, T, Y, j, g, h, ha => by
    obtain ⟨U, hU, h2⟩ := Option.bind_eq_some_iff.1 h
    have := spot_snoc js U Y j g h2 ha
    cases js with
    | nil => simpa [AT.spot, hU] using this
    | cons i2 js => simpa [AT.spot, hU] using this
theorem spot_mem : ∀ (js : List Nat) (T : AT) (b o : Nat), AT.spot js T = some (b, o) → b ∈ T.blks
  | [], _, _, _, h => by simp [AT.spot] at h
  | [j], T, b, o, h => by
    obtain ⟨p, hp, e⟩ := Option.map_eq_some_iff.1 h
    rw [AT.blks_eq, hp]; simp; left; exact (Prod.mk.inj e).1.symm
  | j :: j2 :: js, T, b, o, h => by
    obtain ⟨U, hU, h2⟩ := Option.bind_eq_some_iff.1 h
    rw [AT.blks_eq, List.mem_append]
    exact .inr (AT.mem_blksL.2 ⟨U, List.mem_of_getElem? hU, spot_mem (j2 :: js) U b o h2⟩)
theorem blksL_set {l : List AT} {j : Nat} {U Y : AT} (h : l[j]? = some U) : AT.blksL l = AT.blksL (l.take j) ++ (U.blks ++ AT.blksL (l.drop (j + 1))) ∧ AT.blksL (l.set j Y) = AT.blksL (l.take j) ++ (Y.blks ++ AT.blksL (l.drop (j + 1))) := by
  obtain ⟨hj, hU⟩ := List.getElem?_eq_some_iff.1 h
  constructor
  · conv => lhs; rw [← List.take_append_drop j l, List.drop_eq_getElem_cons hj, hU]
    rw [AT.blksL_append]; rfl
  · rw [List.set_eq_take_append_cons_drop, if_pos hj, AT.blksL_append]; rfl
/-- five cells are set to a tree's root -/
@[reducible] def put5 (w : World) (b o : Nat) (X : AT) : World := ((((w.setCell ⟨b, o, none⟩ (.int .i64 X.k)).setCell ⟨b, o + 1, none⟩ (.int .i64 X.n)).setCell ⟨b, o + 2, none⟩ (.int .i64 X.x)).setCell ⟨b, o + 3, none⟩ (.string ⟨X.s.toArray⟩)).setCell ⟨b, o + 4, none⟩ (.slice X.a X.l.length X.cap)
theorem put5_own {w : World} {B b o : Nat} {T X : AT} (h : T.Own w B) (hb : b ∉ T.blks) : T.Own (put5 w b o X) B := ((((h.setg' hb).setg' hb).setg' hb).setg' hb).setg' hb
theorem put5_block {w : World} {b o k : Nat} {X : AT} (h : k ≠ b) : (put5 w b o X).heap[k]? = w.heap[k]? :=
  (Below.heap_setCell _ _ _ _ h).trans ((Below.heap_setCell _ _ _ _ h).trans ((Below.heap_setCell _ _ _ _ h).trans ((Below.heap_setCell _ _ _ _ h).trans (Below.heap_setCell _ _ _ _ h))))
theorem cellsL_put (l : List AT) (j : Nat) (X : AT) (hj : j < l.length) :
    (((((cellsL l).set (j * 5) (.int .i64 X.k)).set (j * 5 + 1) (.int .i64 X.n)).set (j * 5 + 2) (.int .i64 X.x)).set (j * 5 + 3) (.string ⟨X.s.toArray⟩)).set (j * 5 + 4) (.slice X.a X.l.length X.cap) = cellsL (l.set j X) := by
  have h1 : cellsL l = cellsL (l.take j) ++ cellsL (l.drop j) := by rw [← cellsL_append, List.take_append_drop]
  have h2 : cellsL (l.drop j) = (l[j]).cells ++ cellsL (l.drop (j + 1)) := by rw [List.drop_eq_getElem_cons hj]; rfl
  rw [h1, set_five _ _ _ _ _ _ _ _ (by rw [cellsL_length, List.length_take]; omega) (by rw [h2, List.length_append, AT.cells_length]; omega), h2, List.drop_append_of_le_length (by rw [AT.cells_length]; exact Nat.le_refl _)]
  rw [List.drop_of_length_le (by rw [AT.cells_length]; exact Nat.le_refl _), List.nil_append, List.set_eq_take_append_cons_drop, if_pos hj, cellsL_append]
  rw [List.append_assoc]; rfl
theorem cellsL_same {l : List AT} {j : Nat} {U Z : AT} (h : l[j]? = some U) (hc : Z.cells = U.cells) : cellsL (l.set j Z) = cellsL l := by
  obtain ⟨hj, hU⟩ := List.getElem?_eq_some_iff.1 h
  refine cellsL_ext _ _ (by simp) fun i h1 h2 => ?_
  by_cases e : i = j
  · subst e; simp [hc, hU]
  · rw [List.getElem_set_ne (fun h => e h.symm)]
theorem nodup_mid {A U C Y : List Nat} (h : (A ++ (U ++ C)).Nodup) (hY : Y.Nodup) (hd : ∀ k ∈ Y, k ∉ A ∧ k ∉ C) : (A ++ (Y ++ C)).Nodup := by
  rw [List.nodup_append] at h ⊢
  obtain ⟨h1, h2, h3⟩ := h
  rw [List.nodup_append] at h2 ⊢
  refine ⟨h1, ⟨hY, h2.2.1, fun x hx y hy e => (hd x hx).2 (e ▸ hy)⟩, fun x hx y hy e => ?_⟩
  rcases List.mem_append.1 hy with hy | hy
  · exact (hd y hy).1 (e ▸ hx)
  · exact h3 x hx y (List.mem_append.2 (.inr hy)) e
theorem put_own : ∀ (js : List Nat) (T X Y : AT) (w : World) (B b o : Nat), T.Own w B → T.blks.Nodup → AT.sub js T = some Y → AT.spot js T = some (b, o) → X.Own w B → X.blks.Nodup → (∀ k ∈ X.blks, k ∉ T.blks) →
    (AT.put js T X).Own (put5 w b o X) B ∧ (AT.put js T X).blks.Nodup ∧ (∀ k ∈ (AT.put js T X).blks, k ∈ T.blks ∨ k ∈ X.blks) ∧ (AT.put js T X).cells = T.cells
  | [], T, X, Y, w, B, b, o, hT, hn, hs, hsp, hX, hxn, hd => by simp [AT.spot] at hsp
  | [j], T, X, Y, w, B, b, o, hT, hn, hs, hsp, hX, hxn, hd => by
    obtain ⟨k, n, x, s, a, cap, l⟩ := T
    obtain ⟨U, hU, _⟩ := Option.bind_eq_some_iff.1 hs
    replace hU : l[j]? = some U := hU
    obtain ⟨hj, hUj⟩ := List.getElem?_eq_some_iff.1 hU
    have hO := hT.l
    obtain ⟨g, rfl, hBg, hgl, _⟩ := own_cellL hO.row j hj
    have he : b = g ∧ o = j * 5 := by
      simp only [AT.spot, AT.a, Option.map_some, Option.some.injEq, Prod.mk.injEq] at hsp
      exact ⟨hsp.1.symm, hsp.2.symm⟩
    obtain ⟨rfl, rfl⟩ := he
    have hn2 : (b :: AT.blksL l).Nodup := by simpa [AT.blks] using hn
    rw [List.nodup_cons] at hn2
    have hmem : ∀ k', k' ∈ AT.blksL l → k' ∈ (AT.mk k n x s (some ⟨b, 0, none⟩) cap l).blks := fun k' hk => by simp [AT.blks, hk]
    have hbm : b ∈ (AT.mk k n x s (some ⟨b, 0, none⟩) cap l).blks := by simp [AT.blks]
    have hbX : b ∉ X.blks := fun h => hd b h hbm
    have e : AT.put [j] (.mk k n x s (some ⟨b, 0, none⟩) cap l) X = .mk k n x s (some ⟨b, 0, none⟩) cap (l.set j X) := by simp [AT.put, AT.l, hU, AT.setL]
    obtain ⟨b1, b2⟩ := blksL_set (Y := X) hU
    rw [e]
    refine ⟨OwnL.own ⟨?_, fun t ht => ?_⟩, ?_, fun k' hk => ?_, by simp [AT.cells, AT.k, AT.n, AT.x, AT.s, AT.a, AT.cap, AT.l]⟩
    · have h1 := (hO.row.stored (j * 5) (.int .i64 X.k)).1
      have h2 := (h1.stored (j * 5 + 1) (.int .i64 X.n)).1
      have h3 := (h2.stored (j * 5 + 2) (.int .i64 X.x)).1
      have h4 := (h3.stored (j * 5 + 3) (.string ⟨X.s.toArray⟩)).1
      have h5 := (h4.stored (j * 5 + 4) (.slice X.a X.l.length X.cap)).1
      rw [cellsL_put l j X hj] at h5
      simpa using h5
    · rcases List.mem_or_eq_of_mem_set ht with ht | rfl
      · exact put5_own (hO.sub t ht) (fun h => hn2.1 (AT.mem_blksL.2 ⟨t, ht, h⟩))
      · exact put5_own hX hbX
    · show ([b] ++ AT.blksL (l.set j X)).Nodup
      rw [List.singleton_append, List.nodup_cons, b2]
      rw [b1] at hn2
      refine ⟨fun h => ?_, nodup_mid hn2.2 hxn fun k' hk => ⟨fun h => hd k' hk (hmem k' (by rw [b1]; simp [h])), fun h => hd k' hk (hmem k' (by rw [b1]; simp [h]))⟩⟩
      rcases List.mem_append.1 h with h | h
      · exact hn2.1 (by simp [h])
      · rcases List.mem_append.1 h with h | h
        · exact hbX h
        · exact hn2.1 (by simp [h])
    · have hk2 : k' = b ∨ k' ∈ AT.blksL (l.set j X) := by simpa [AT.blks] using hk
      rcases hk2 with rfl | hk2
      · exact .inl hbm
      · rw [b2] at hk2
        rcases List.mem_append.1 hk2 with h | h
        · exact .inl (hmem k' (by rw [b1]; simp [h]))
        · rcases List.mem_append.1 h with h | h
          · exact .inr h
          · exact .inl (hmem k' (by rw [b1]; simp [h]))
  | j :: j2 :: js, T, X, Y, w, B, b, o, hT, hn, hs, hsp, hX, hxn, hd => by
    obtain ⟨k, n, x, s, a, cap, l⟩ := T
    obtain ⟨U, hU, hs2⟩ := Option.bind_eq_some_iff.1 hs
    replace hU : l[j]? = some U := hU
    obtain ⟨hj, hUj⟩ := List.getElem?_eq_some_iff.1 hU
    have hUm : U ∈ l := List.mem_of_getElem? hU
    have hO := hT.l
    have hsp2 : AT.spot (j2 :: js) U = some (b, o) := by simpa [AT.spot, AT.l, hU] using hsp
    have hbU := spot_mem (j2 :: js) U b o hsp2
    obtain ⟨g, rfl, hBg, hgl, _⟩ := own_cellL hO.row j hj
    have hn2 : (g :: AT.blksL l).Nodup := by simpa [AT.blks] using hn
    rw [List.nodup_cons] at hn2
    have hmem : ∀ k', k' ∈ AT.blksL l → k' ∈ (AT.mk k n x s (some ⟨g, 0, none⟩) cap l).blks := fun k' hk => by simp [AT.blks, hk]
    have hgm : g ∈ (AT.mk k n x s (some ⟨g, 0, none⟩) cap l).blks := by simp [AT.blks]
    have hUl : ∀ k', k' ∈ U.blks → k' ∈ AT.blksL l := fun k' hk => AT.mem_blksL.2 ⟨U, hUm, hk⟩
    have hgb : g ≠ b := fun e => hn2.1 (hUl g (e ▸ hbU))
    have hUn : U.blks.Nodup := by
      have := hn2.2
      rw [(blksL_set (Y := U) hU).1, List.nodup_append, List.nodup_append] at this
      exact this.2.1.1
    obtain ⟨i1, i2, i3, i4⟩ := put_own (j2 :: js) U X Y w B b o (hO.sub U hUm) hUn hs2 hsp2 hX hxn (fun k' hk h => hd k' hk (hmem k' (hUl k' h)))
    have e : AT.put (j :: j2 :: js) (.mk k n x s (some ⟨g, 0, none⟩) cap l) X = .mk k n x s (some ⟨g, 0, none⟩) cap (l.set j (AT.put (j2 :: js) U X)) := by
      show (match (AT.mk k n x s (some ⟨g, 0, none⟩) cap l).l[j]? with | some U => (AT.mk k n x s (some ⟨g, 0, none⟩) cap l).setL j (AT.put (j2 :: js) U X) | none => _) = _
      simp only [AT.l, hU]; rfl
    generalize AT.put (j2 :: js) U X = Z at *
    obtain ⟨b1, b2⟩ := blksL_set (Y := Z) hU
    rw [e]
    have hother : ∀ i t, i ≠ j → l[i]? = some t → b ∉ t.blks := fun i t hij hit hbt => by
      have h1 := hn2.2
      rw [b1] at h1
      rw [List.nodup_append, List.nodup_append] at h1
      obtain ⟨hi, hti⟩ := List.getElem?_eq_some_iff.1 hit
      rcases Nat.lt_or_gt_of_ne hij with hlt | hgt
      · exact h1.2.2 b (AT.mem_blksL.2 ⟨t, by rw [List.mem_take_iff_getElem]; exact ⟨i, by omega, hti⟩, hbt⟩) b (List.mem_append.2 (.inl hbU)) rfl
      · exact h1.2.1.2.2 b hbU b (AT.mem_blksL.2 ⟨t, by rw [List.mem_drop_iff_getElem]; exact ⟨i - (j + 1), by omega, by simp [show i - (j + 1) + (j + 1) = i by omega, hti, show j + 1 + (i - (j + 1)) = i by omega]⟩, hbt⟩) rfl
    have hZ : ∀ k' ∈ Z.blks, k' ∈ AT.blksL l ∨ k' ∈ X.blks := fun k' hk => (i3 k' hk).imp (hUl k') id
    have hgZ : g ∉ Z.blks := fun h => (hZ g h).elim hn2.1 (fun h => hd g h hgm)
    refine ⟨OwnL.own ⟨?_, fun t ht => ?_⟩, ?_, fun k' hk => ?_, by simp [AT.cells, AT.k, AT.n, AT.x, AT.s, AT.a, AT.cap, AT.l]⟩
    · rw [cellsL_same hU i4, List.length_set]
      exact own_heap hO.row fun k' hk => by
        simp [Value.ownBlock] at hk
        subst hk
        exact put5_block hgb
    · obtain ⟨i, hi, hti⟩ := List.getElem_of_mem ht
      by_cases hij : i = j
      · subst hij
        simp at hti
        rw [← hti]; exact i1
      · rw [List.getElem_set_ne (fun h => hij h.symm)] at hti
        have hi' : i < l.length := by simpa using hi
        have := hother i t hij (by rw [List.getElem?_eq_getElem hi', hti])
        exact put5_own (hO.sub t (hti ▸ List.getElem_mem hi')) this
    · show ([g] ++ AT.blksL (l.set j Z)).Nodup
      rw [List.singleton_append, List.nodup_cons, b2]
      have h1 := hn2.2
      have hn1 := hn2.1
      rw [b1] at h1 hn1
      have hdis : ∀ k' ∈ Z.blks, k' ∉ AT.blksL (l.take j) ∧ k' ∉ AT.blksL (l.drop (j + 1)) := fun k' hk => by
        rcases i3 k' hk with h | h
        · rw [List.nodup_append, List.nodup_append] at h1
          exact ⟨fun h' => h1.2.2 k' h' k' (List.mem_append.2 (.inl h)) rfl, fun h' => h1.2.1.2.2 k' h k' h' rfl⟩
        · exact ⟨fun h' => hd k' h (hmem k' (by rw [b1]; simp [h'])), fun h' => hd k' h (hmem k' (by rw [b1]; simp [h']))⟩
      refine ⟨fun h => ?_, nodup_mid h1 i2 hdis⟩
      rcases List.mem_append.1 h with h | h
      · exact hn1 (by simp [h])
      · rcases List.mem_append.1 h with h | h
        · exact hgZ h
        · exact hn1 (by simp [h])
    · have hk2 : k' = g ∨ k' ∈ AT.blksL (l.set j Z) := by simpa [AT.blks] using hk
      rcases hk2 with rfl | hk2
      · exact .inl hgm
      · rw [b2] at hk2
        rcases List.mem_append.1 hk2 with h | h
        · exact .inl (hmem k' (by rw [b1]; simp [h]))
        · rcases List.mem_append.1 h with h | h
          · exact (hZ k' h).imp (hmem k') id
          · exact .inl (hmem k' (by rw [b1]; simp [h]))
end Go.Proofs.Ytdjnkcoepmackaa
/- The place that a step leads to: l8Place of the model, elementAt of the program. -/
namespace Go.Proofs.Ytdjnkcoepmackaa
open Go.RowKit
set_option maxRecDepth 100000
theorem plI_yes {k : Int} {len : Nat} {s : St} {j : Int} (hj : 0 ≤ j) (h : plc k len s = some j.toNat) : plI k len s = j := by unfold plI; rw [h]; show ((j.toNat : Nat) : Int) = j; omega
theorem plI_no {k : Int} {len : Nat} {s : St} (h : plc k len s = none) : plI k len s = -1 := by unfold plI; rw [h]
set_option maxHeartbeats 2000000 in
theorem place_spec (T : AT) (s : St) (w : World) (hl : T.l.length ≤ 1048576) : Calls Try.prog 109 #[T.val, s.val] w fun e w' => e = .returned (.int .i64 (plI T.k T.l.length s)) ∧ Below w.heap.size w w' := by
  obtain ⟨k, n, x, S, a, cap, l⟩ := T
  obtain ⟨i, b⟩ := s
  obtain ⟨len, hlen⟩ : ∃ len, len = l.length := ⟨_, rfl⟩
  show Calls Try.prog 109 #[.agg #[.int .i64 k, .int .i64 n, .int .i64 x, .string ⟨S.toArray⟩, .slice a l.length cap], .agg #[.int .i64 i, .bool b]] w fun e w' => e = .returned (.int .i64 (plI k l.length (i, b))) ∧ Below w.heap.size w w'
  replace hl : l.length ≤ 1048576 := hl
  rw [← hlen] at hl ⊢
  clear hlen
  have hw1 : IntKind.i64.wrap ((len : Int) - 1) = (len : Int) - 1 := IntWalk.i64_in _ (by omega)
  have hb2 : Below w.heap.size w ((w.alloc (.cells #[.int .i64 k, .int .i64 n, .int .i64 x, .string ⟨S.toArray⟩, .slice a len cap] 28)).alloc (.cells #[.int .i64 i, .bool b] 105)) := boxes2 _ _ _
  have HB2 := Lib.hid hb2
  clear hb2
  by_cases hk : k = 10
  · have hkb : (k == 10) = true := by simpa using hk
    by_cases h0 : i < 0
    · have hp : plI k len (i, b) = -1 := plI_no (by rw [plc_map hk, if_neg (by simp only; omega)])
      rw [hp]
      clear hp hk
      go_enter Try.func109, Try.ntmps109
      go_wp2
      go_ret
      exact ⟨rfl, HB2.out⟩
    · by_cases h1 : (len : Int) < i
      · have hp : plI k len (i, b) = -1 := plI_no (by have := mapOff_bd (i, b); rw [plc_map hk, if_neg (by simp only at this ⊢; omega)])
        rw [hp]
        clear hp hk
        go_enter Try.func109, Try.ntmps109
        go_wp2
        go_ret
        exact ⟨rfl, HB2.out⟩
      · have hw2 : IntKind.i64.wrap (2 * i) = 2 * i := IntWalk.i64_in _ (by omega)
        have hw3 : IntKind.i64.wrap (2 * i + 1) = 2 * i + 1 := IntWalk.i64_in _ (by omega)
        cases b
        · by_cases h2 : 2 * i + 1 < (len : Int)
          · have hp : plI k len (i, false) = 2 * i + 1 := plI_yes (by omega) (by rw [plc_map hk, if_pos (by simp only [mapOff]; simp; omega)]; simp [mapOff])
            rw [hp]
            have hin := fun W => in_yes (2 * i + 1) 0 ((len : Int) - 1) W (by omega) (by omega)
            clear hp hk
            go_enter Try.func109, Try.ntmps109
            go_wp2_with (first | (go_at_call 114; refine (hin _).mono ?_; rintro e w' ⟨rfl, rfl⟩) | fail)
            go_ret
            exact ⟨rfl, HB2.out⟩
          · have hp : plI k len (i, false) = -1 := plI_no (by rw [plc_map hk, if_neg (by simp only [mapOff]; simp; omega)])
            rw [hp]
            have hin := fun W => in_no (2 * i + 1) 0 ((len : Int) - 1) W (by omega)
            clear hp hk
            go_enter Try.func109, Try.ntmps109
            go_wp2_with (first | (go_at_call 114; refine (hin _).mono ?_; rintro e w' ⟨rfl, rfl⟩) | fail)
            go_ret
            exact ⟨rfl, HB2.out⟩
        · by_cases h2 : 2 * i < (len : Int)
          · have hp : plI k len (i, true) = 2 * i := plI_yes (by omega) (by rw [plc_map hk, if_pos (by simp only [mapOff]; simp; omega)]; simp [mapOff])
            rw [hp]
            have hin := fun W => in_yes (2 * i) 0 ((len : Int) - 1) W (by omega) (by omega)
            clear hp hk
            go_enter Try.func109, Try.ntmps109
            go_wp2_with (first | (go_at_call 114; refine (hin _).mono ?_; rintro e w' ⟨rfl, rfl⟩) | fail)
            go_ret
            exact ⟨rfl, HB2.out⟩
          · have hp : plI k len (i, true) = -1 := plI_no (by rw [plc_map hk, if_neg (by simp only [mapOff]; simp; omega)])
            rw [hp]
            have hin := fun W => in_no (2 * i) 0 ((len : Int) - 1) W (by omega)
            clear hp hk
            go_enter Try.func109, Try.ntmps109
            go_wp2_with (first | (go_at_call 114; refine (hin _).mono ?_; rintro e w' ⟨rfl, rfl⟩) | fail)
            go_ret
            exact ⟨rfl, HB2.out⟩
  · have hkb : (k == 10) = false := by simpa using hk
    cases b
    · by_cases h2 : 0 ≤ i ∧ i < (len : Int)
      · have hp : plI k len (i, false) = i := plI_yes h2.1 (by rw [plc_else hk, if_pos ⟨rfl, h2⟩])
        rw [hp]
        have hin := fun W => in_yes i 0 ((len : Int) - 1) W h2.1 (by omega)
        clear hp hk
        go_enter Try.func109, Try.ntmps109
        go_wp2_with (first | (go_at_call 114; refine (hin _).mono ?_; rintro e w' ⟨rfl, rfl⟩) | fail)
        go_ret
        exact ⟨rfl, HB2.out⟩
      · have hp : plI k len (i, false) = -1 := plI_no (by rw [plc_else hk, if_neg (fun h => h2 h.2)])
        rw [hp]
        have hin := fun W => in_no i 0 ((len : Int) - 1) W (by omega)
        clear hp hk
        go_enter Try.func109, Try.ntmps109
        go_wp2_with (first | (go_at_call 114; refine (hin _).mono ?_; rintro e w' ⟨rfl, rfl⟩) | fail)
        go_ret
        exact ⟨rfl, HB2.out⟩
    · have hp : plI k len (i, true) = -1 := plI_no (by rw [plc_else hk, if_neg (fun h => by cases h.1)])
      rw [hp]
      clear hp hk
      go_enter Try.func109, Try.ntmps109
      go_wp2
      go_ret
      exact ⟨rfl, HB2.out⟩
def plV (k : Int) (len : Nat) (s : St) : Value := match plc k len s with | some j => .tuple #[.int .i64 (j : Int), .bool true] | none => .tuple #[.int .i64 0, .bool false]
theorem plV_yes {k : Int} {len : Nat} {s : St} {j : Int} (hj : 0 ≤ j) (h : plc k len s = some j.toNat) : plV k len s = .tuple #[.int .i64 j, .bool true] := by unfold plV; rw [h]; show Value.tuple #[.int .i64 ((j.toNat : Nat) : Int), .bool true] = _; rw [show ((j.toNat : Nat) : Int) = j by omega]
theorem plV_no {k : Int} {len : Nat} {s : St} (h : plc k len s = none) : plV k len s = .tuple #[.int .i64 0, .bool false] := by unfold plV; rw [h]
set_option maxHeartbeats 2000000 in
theorem element_impl (T : AT) (s : St) (w : World) (hl : T.l.length ≤ 1048576) : Calls Try.prog 108 #[T.val, s.val] w fun e w' => e = .returned (plV T.k T.l.length s) ∧ Below w.heap.size w w' := by
  obtain ⟨k, n, x, S, a, cap, l⟩ := T
  obtain ⟨i, b⟩ := s
  obtain ⟨len, hlen⟩ : ∃ len, len = l.length := ⟨_, rfl⟩
  show Calls Try.prog 108 #[.agg #[.int .i64 k, .int .i64 n, .int .i64 x, .string ⟨S.toArray⟩, .slice a l.length cap], .agg #[.int .i64 i, .bool b]] w fun e w' => e = .returned (plV k l.length (i, b)) ∧ Below w.heap.size w w'
  replace hl : l.length ≤ 1048576 := hl
  rw [← hlen] at hl ⊢
  clear hlen
  have hb2 : Below w.heap.size w ((w.alloc (.cells #[.int .i64 k, .int .i64 n, .int .i64 x, .string ⟨S.toArray⟩, .slice a len cap] 28)).alloc (.cells #[.int .i64 i, .bool b] 105)) := boxes2 _ _ _
  have HB2 := Lib.hid hb2
  clear hb2
  by_cases h0 : i < 0
  · have hp : plV k len (i, b) = .tuple #[.int .i64 0, .bool false] := plV_no (by
      by_cases hk : k = 10
      · rw [plc_map hk, if_neg (by simp only; omega)]
      · rw [plc_else hk, if_neg (by simp only; omega)])
    rw [hp]
    clear hp
    go_enter Try.func108, Try.ntmps108
    go_wp2
    go_ret2
    exact ⟨rfl, HB2.out⟩
  · by_cases h1 : (len : Int) ≤ i
    · have hp : plV k len (i, b) = .tuple #[.int .i64 0, .bool false] := plV_no (by
        by_cases hk : k = 10
        · have := mapOff_bd (i, b)
          rw [plc_map hk, if_neg (by simp only at this ⊢; omega)]
        · rw [plc_else hk, if_neg (by simp only; omega)])
      rw [hp]
      clear hp
      go_enter Try.func108, Try.ntmps108
      go_wp2
      go_ret2
      exact ⟨rfl, HB2.out⟩
    · have hw2 : IntKind.i64.wrap (i * 2) = i * 2 := IntWalk.i64_in _ (by omega)
      have hw3 : IntKind.i64.wrap (i * 2 + 1) = i * 2 + 1 := IntWalk.i64_in _ (by omega)
      by_cases hk : k = 10
      · have hkb : (k == 10) = true := by simpa using hk
        have hkn : (k != 10) = false := by simpa using hk
        cases b
        · by_cases h2 : i * 2 + 1 < (len : Int)
          · have hp : plV k len (i, false) = .tuple #[.int .i64 (i * 2 + 1), .bool true] := plV_yes (by omega) (by rw [plc_map hk, if_pos (by simp only [mapOff]; simp; omega)]; simp [mapOff]; omega)
            rw [hp]
            have h3 : ¬ (len : Int) ≤ i * 2 + 1 := by omega
            clear hp hk
            go_enter Try.func108, Try.ntmps108
            go_wp2
            go_ret2
            exact ⟨rfl, HB2.out⟩
          · have hp : plV k len (i, false) = .tuple #[.int .i64 0, .bool false] := plV_no (by rw [plc_map hk, if_neg (by simp only [mapOff]; simp; omega)])
            rw [hp]
            have h3 : (len : Int) ≤ i * 2 + 1 := by omega
            clear hp hk
            go_enter Try.func108, Try.ntmps108
            go_wp2
            go_ret2
            exact ⟨rfl, HB2.out⟩
        · by_cases h2 : i * 2 < (len : Int)
          · have hp : plV k len (i, true) = .tuple #[.int .i64 (i * 2), .bool true] := plV_yes (by omega) (by rw [plc_map hk, if_pos (by simp only [mapOff]; simp; omega)]; simp [mapOff]; omega)
            rw [hp]
            have h3 : ¬ (len : Int) ≤ i * 2 := by omega
            clear hp hk
            go_enter Try.func108, Try.ntmps108
            go_wp2
            go_ret2
            exact ⟨rfl, HB2.out⟩
          · have hp : plV k len (i, true) = .tuple #[.int .i64 0, .bool false] := plV_no (by rw [plc_map hk, if_neg (by simp only [mapOff]; simp; omega)])
            rw [hp]
            have h3 : (len : Int) ≤ i * 2 := by omega
            clear hp hk
            go_enter Try.func108, Try.ntmps108
            go_wp2
            go_ret2
            exact ⟨rfl, HB2.out⟩
      · have hkb : (k == 10) = false := by simpa using hk
        have hkn : (k != 10) = true := by simpa using hk
        cases b
        · have hp : plV k len (i, false) = .tuple #[.int .i64 i, .bool true] := plV_yes (by omega) (by rw [plc_else hk, if_pos ⟨rfl, by simp only; omega⟩])
          rw [hp]
          clear hp hk
          go_enter Try.func108, Try.ntmps108
          go_wp2
          go_ret2
          exact ⟨rfl, HB2.out⟩
        · have hp : plV k len (i, true) = .tuple #[.int .i64 0, .bool false] := plV_no (by rw [plc_else hk, if_neg (fun h => by cases h.1)])
          rw [hp]
          clear hp hk
          go_enter Try.func108, Try.ntmps108
          go_wp2
          go_ret2
          exact ⟨rfl, HB2.out⟩
end Go.Proofs.Ytdjnkcoepmackaa
/- StepVal and AtPath of the model. -/
namespace Go.Proofs.Ytdjnkcoepmackaa
open Go.RowKit
set_option maxRecDepth 100000
theorem step_boxes (w : World) (k n x : Int) (s : ByteArray) (a : Option Addr) (len cap : Nat) (i : Int) (b : Bool) (t u : TypeId) :
    let W := ((w.alloc (.cells #[.int .i64 k, .int .i64 n, .int .i64 x, .string s, .slice a len cap] t)).alloc (.cells #[.int .i64 i, .bool b] u)).alloc (.cells #[.int .i64 0, .int .i64 0, .int .i64 0, .string ⟨#[]⟩, .slice none 0 0] t)
    VC W w.heap.size k n x s a len cap ∧ VC W (w.heap.size + 2) 0 0 0 ⟨#[]⟩ none 0 0 ∧ (∀ o, W.frozen? ⟨w.heap.size + 2, o, none⟩ = false) ∧ Below w.heap.size w W ∧ W.heap.size = w.heap.size + 3 := by
  refine ⟨⟨?_, ?_, ?_, ?_, ?_⟩, ⟨?_, ?_, ?_, ?_, ?_⟩, fun o => ?_, boxes3 w _ _ _, by simp⟩ <;> simp [go_sem]
/-- the five cells of a result's box are set to a tree of one's own -/
theorem found_some {w W : World} {B : Nat} {X : AT} {t : PT} (hX : X.pt = t) (hO : X.Own W w.heap.size) (hN : X.blks.Nodup) (hB : Below w.heap.size w W) (hz : w.heap.size ≤ B) (hk : B ∉ X.blks) :
    LookPost w (found (some t)) (.returned (.tuple #[X.val, .bool true])) (((((W.setCell ⟨B, 0, none⟩ (.int .i64 X.k)).setCell ⟨B, 1, none⟩ (.int .i64 X.n)).setCell ⟨B, 2, none⟩ (.int .i64 X.x)).setCell ⟨B, 3, none⟩ (.string ⟨X.s.toArray⟩)).setCell ⟨B, 4, none⟩ (.slice X.a X.l.length X.cap)) :=
  ⟨X, hX, rfl, ((((hO.setg' hk).setg' hk).setg' hk).setg' hk).setg' hk, hN, bset (bset (bset (bset (bset hB hz) hz) hz) hz) hz⟩
theorem look_put {w W : World} {B : Nat} {X : AT} {p : PT} {bv : Bool} (hX : X.pt = p) (hO : X.Own W w.heap.size) (hN : X.blks.Nodup) (hB : Below w.heap.size w W) (hz : w.heap.size ≤ B) (hk : B ∉ X.blks) :
    LookPost w (p, bv) (.returned (.tuple #[X.val, .bool bv])) (((((W.setCell ⟨B, 0, none⟩ (.int .i64 X.k)).setCell ⟨B, 1, none⟩ (.int .i64 X.n)).setCell ⟨B, 2, none⟩ (.int .i64 X.x)).setCell ⟨B, 3, none⟩ (.string ⟨X.s.toArray⟩)).setCell ⟨B, 4, none⟩ (.slice X.a X.l.length X.cap)) :=
  ⟨X, hX, rfl, ((((hO.setg' hk).setg' hk).setg' hk).setg' hk).setg' hk, hN, bset (bset (bset (bset (bset hB hz) hz) hz) hz) hz⟩
theorem found_none {w W : World} {B : Nat} (hB : Below w.heap.size w W) (hz : w.heap.size ≤ B) :
    LookPost w (found none) (.returned (.tuple #[.agg #[.int .i64 0, .int .i64 0, .int .i64 0, .string ⟨#[]⟩, .slice none 0 0], .bool false])) (((((W.setCell ⟨B, 0, none⟩ (.int .i64 0)).setCell ⟨B, 1, none⟩ (.int .i64 0)).setCell ⟨B, 2, none⟩ (.int .i64 0)).setCell ⟨B, 3, none⟩ (.string ⟨#[]⟩)).setCell ⟨B, 4, none⟩ (.slice none 0 0)) :=
  ⟨zeroAT, zeroAT_pt, rfl, AT.leaf_own _ _ 0 0 0 [], by simp [zeroAT, AT.blks, AT.blksL], bset (bset (bset (bset (bset hB hz) hz) hz) hz) hz⟩
theorem at_boxes (w : World) (k n x : Int) (s : ByteArray) (a : Option Addr) (len cap : Nat) (t : TypeId) :
    let W := (w.alloc (.cells #[.int .i64 k, .int .i64 n, .int .i64 x, .string s, .slice a len cap] t)).alloc (.cells #[.int .i64 0, .int .i64 0, .int .i64 0, .string ⟨#[]⟩, .slice none 0 0] t)
    VC W w.heap.size k n x s a len cap ∧ VC W (w.heap.size + 1) 0 0 0 ⟨#[]⟩ none 0 0 ∧ (∀ o, W.frozen? ⟨w.heap.size + 1, o, none⟩ = false) ∧ Below w.heap.size w W ∧ W.heap.size = w.heap.size + 2 := by
  refine ⟨⟨?_, ?_, ?_, ?_, ?_⟩, ⟨?_, ?_, ?_, ?_, ?_⟩, fun o => ?_, boxes2 w _ _, by simp⟩ <;> simp [go_sem]
/-- the head of AtPath's loop: the value reached lies in the box B -/
structure AtL (w wr : World) (B : Nat) (X : AT) : Prop where
  z : VC wr (w.heap.size + 1) 0 0 0 ⟨#[]⟩ none 0 0
  zf : ∀ o, wr.frozen? ⟨w.heap.size + 1, o, none⟩ = false
  x : VC wr B X.k X.n X.x ⟨X.s.toArray⟩ X.a X.l.length X.cap
  xf : ∀ o, wr.frozen? ⟨B, o, none⟩ = false
  hB : w.heap.size + 2 ≤ B
  own : X.Own wr (w.heap.size + 2)
  out : B ∉ X.blks
  nd : X.blks.Nodup
  below : Below w.heap.size w wr
theorem VC.lt {w : World} {b : Nat} {k n x : Int} {s : ByteArray} {a : Option Addr} {len cap : Nat} (h : VC w b k n x s a len cap) : b < w.heap.size := cell_lt h.c0
theorem AtL.keep {w wr w' : World} {B : Nat} {X : AT} (h : AtL w wr B X) (hb : Below wr.heap.size wr w') : AtL w w' B X where
  z := h.z.blw hb
  zf o := by rw [frozen_blk' (hb.block _ h.z.lt)]; exact h.zf o
  x := h.x.blw hb
  xf o := by rw [frozen_blk' (hb.block _ h.x.lt)]; exact h.xf o
  hB := h.hB
  own := h.own.blw hb
  out := h.out
  nd := h.nd
  below := h.below.trans (hb.mono h.below.size)
theorem VC.other {w : World} {b B o : Nat} {k n x : Int} {s : ByteArray} {a : Option Addr} {len cap : Nat} {u : Value} (h : VC w b k n x s a len cap) (hb : b ≠ B) : VC (w.setCell ⟨B, o, none⟩ u) b k n x s a len cap := by
  have e : ∀ q, (w.setCell ⟨B, o, none⟩ u).cell? ⟨b, q, none⟩ = w.cell? ⟨b, q, none⟩ := fun q => World.cell?_setCell_other _ _ _ _ (fun e => by injection e with e1 e2; omega)
  exact ⟨(e _).trans h.c0, (e _).trans h.c1, (e _).trans h.c2, (e _).trans h.c3, (e _).trans h.c4⟩
/-- the five cells of a box are set -/
theorem vset5 {W : World} {B : Nat} {k n x k2 n2 x2 : Int} {s s2 : ByteArray} {a a2 : Option Addr} {len cap len2 cap2 : Nat} (h : VC W B k n x s a len cap) :
    VC (((((W.setCell ⟨B, 0, none⟩ (.int .i64 k2)).setCell ⟨B, 1, none⟩ (.int .i64 n2)).setCell ⟨B, 2, none⟩ (.int .i64 x2)).setCell ⟨B, 3, none⟩ (.string s2)).setCell ⟨B, 4, none⟩ (.slice a2 len2 cap2)) B k2 n2 x2 s2 a2 len2 cap2 := by
  obtain ⟨c0, c1, c2, c3, c4⟩ := h
  refine ⟨?_, ?_, ?_, ?_, ?_⟩ <;> simp [go_sem, c0, c1, c2, c3, c4]
theorem frozen_set5 {W : World} {B b : Nat} {v0 v1 v2 v3 v4 : Value} (h : ∀ o, W.frozen? ⟨b, o, none⟩ = false) (o : Nat) : (((((W.setCell ⟨B, 0, none⟩ v0).setCell ⟨B, 1, none⟩ v1).setCell ⟨B, 2, none⟩ v2).setCell ⟨B, 3, none⟩ v3).setCell ⟨B, 4, none⟩ v4).frozen? ⟨b, o, none⟩ = false := by
  simp [go_sem, h o]
theorem AtL.next {w wr W : World} {B : Nat} {Y G : AT} (h : AtL w wr B Y) (hR : Rl wr W) (hO : G.Own W wr.heap.size) (hN : G.blks.Nodup) :
    AtL w (((((W.setCell ⟨B, 0, none⟩ (.int .i64 G.k)).setCell ⟨B, 1, none⟩ (.int .i64 G.n)).setCell ⟨B, 2, none⟩ (.int .i64 G.x)).setCell ⟨B, 3, none⟩ (.string ⟨G.s.toArray⟩)).setCell ⟨B, 4, none⟩ (.slice G.a G.l.length G.cap)) B G := by
  have h1 := h.keep hR.b
  have hlt := h.x.lt
  have hB := h.hB
  have hout : B ∉ G.blks := fun hk => by have := (hO.lt _ hk).1; omega
  have hz : w.heap.size ≤ wr.heap.size := h.below.size
  exact {
    z := ((((h1.z.other (by omega)).other (by omega)).other (by omega)).other (by omega)).other (by omega)
    zf := frozen_set5 h1.zf
    x := vset5 h1.x
    xf := frozen_set5 h1.xf
    hB := hB
    own := AT.Own.base (B := wr.heap.size) (((((hO.setg' hout).setg' hout).setg' hout).setg' hout).setg' hout) (by omega)
    out := hout
    nd := hN
    below := bset (bset (bset (bset (bset h1.below (by omega)) (by omega)) (by omega)) (by omega)) (by omega) }
end Go.Proofs.Ytdjnkcoepmackaa
