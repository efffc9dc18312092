/- Paths in plain trees: where a step leads, what stands at a path. -/
import Derived.Test.YtgfebmnlcihpnaaDoorStep
import Derived.Test.YtgfebmnlcihpnaaDoorRel
namespace Go.Proofs.YtgfebmnlcihpnaaDoor
open Go.RowKit
/-- the place in the elements that a step into a map leads to -/
def mapOff (s : St) : Int := 2 * s.1 + (if s.2 = true then 0 else 1)
theorem mapOff_bd (s : St) : 2 * s.1 ≤ mapOff s ∧ mapOff s ≤ 2 * s.1 + 1 := by unfold mapOff; split <;> omega
/-- the place in the elements that a step leads to -/
def plc (k : Int) (len : Nat) (s : St) : Option Nat :=
  if k = 10 then (if 0 ≤ s.1 ∧ mapOff s < len then some (mapOff s).toNat else none)
  else (if s.2 = false ∧ 0 ≤ s.1 ∧ s.1 < len then some s.1.toNat else none)
theorem plc_map {k : Int} {len : Nat} {s : St} (hk : k = 10) : plc k len s = if 0 ≤ s.1 ∧ mapOff s < len then some (mapOff s).toNat else none := if_pos hk
theorem plc_else {k : Int} {len : Nat} {s : St} (hk : k ≠ 10) : plc k len s = if s.2 = false ∧ 0 ≤ s.1 ∧ s.1 < len then some s.1.toNat else none := if_neg hk
theorem plc_lt {k : Int} {len : Nat} {s : St} {j : Nat} (h : plc k len s = some j) : j < len := by
  have hb := mapOff_bd s
  by_cases hk : k = 10
  · rw [plc_map hk] at h
    by_cases h1 : 0 ≤ s.1 ∧ mapOff s < len
    · rw [if_pos h1] at h
      injection h with h
      omega
    · rw [if_neg h1] at h; cases h
  · rw [plc_else hk] at h
    by_cases h1 : s.2 = false ∧ 0 ≤ s.1 ∧ s.1 < len
    · rw [if_pos h1] at h
      injection h with h
      omega
    · rw [if_neg h1] at h; cases h
def plI (k : Int) (len : Nat) (s : St) : Int := match plc k len s with | some j => (j : Int) | none => -1
def PT.k : PT → Int | .mk k _ _ _ _ => k
def PT.l : PT → List PT | .mk _ _ _ _ l => l
theorem ptk (T : AT) : T.pt.k = T.k := by cases T; rfl
theorem ptl (T : AT) : T.pt.l = T.l.map AT.pt := by cases T; simp [AT.pt, PT.l, AT.l, AT.ptL_eq]
/-- what a step leads to -/
def PT.step (t : PT) (s : St) : Option PT := (plc t.k t.l.length s).bind fun j => t.l[j]?
/-- what stands at a path -/
def PT.at' : List St → PT → Option PT
  | [], t => some t
  | s :: p, t => (t.step s).bind (PT.at' p)
def found (o : Option PT) : PT × Bool := match o with | some t => (t, true) | none => (zeroPT, false)
theorem step_none {T : AT} {s : St} (h : plc T.k T.l.length s = none) : T.pt.step s = none := by
  unfold PT.step; rw [ptk, ptl, List.length_map, h]; rfl
theorem step_some {T : AT} {s : St} {j : Nat} (h : plc T.k T.l.length s = some j) (hj : j < T.l.length) : T.pt.step s = some (T.l[j]).pt := by
  unfold PT.step; rw [ptk, ptl, List.length_map, h]
  simp [List.getElem?_eq_getElem hj]
theorem at_drop {l : List St} {i : Nat} (h : i < l.length) (t : PT) : PT.at' (l.drop i) t = (t.step l[i]).bind (PT.at' (l.drop (i + 1))) := by
  rw [List.drop_eq_getElem_cons h]; rfl
theorem wf_sub {t u : PT} (h : t.Wf) (hu : u ∈ t.l) : u.Wf := by
  obtain ⟨k, n, x, s, l⟩ := t
  exact h.sub' u hu
theorem sz_sub {t u : PT} (hu : u ∈ t.l) : u.sz ≤ t.sz := by
  obtain ⟨k, n, x, s, l⟩ := t
  have := sz_mem (show u ∈ l from hu)
  simp only [PT.sz]
  omega
theorem step_mem {t u : PT} {s : St} (h : t.step s = some u) : u ∈ t.l := by
  unfold PT.step at h
  obtain ⟨j, _, h2⟩ := Option.bind_eq_some_iff.1 h
  exact List.mem_of_getElem? h2
theorem at_wf : ∀ (p : List St) {t u : PT}, PT.at' p t = some u → t.Wf → u.Wf ∧ u.sz ≤ t.sz
  | [], t, u, h, hw => by injection h with h; subst h; exact ⟨hw, Nat.le_refl _⟩
  | s :: p, t, u, h, hw => by
    obtain ⟨v, h1, h2⟩ := Option.bind_eq_some_iff.1 h
    have hm := step_mem h1
    have := at_wf p h2 (wf_sub hw hm)
    exact ⟨this.1, Nat.le_trans this.2 (sz_sub hm)⟩
theorem zeroPT_wf : zeroPT.Wf := .mk (by omega) (by omega) (by omega) (by simp) (by simp) (by simp)
theorem found_wf (p : List St) (t : PT) (hw : t.Wf) (hs : t.sz ≤ 1048576) : (found (PT.at' p t)).1.Wf ∧ (found (PT.at' p t)).1.cnt ≤ 1048578 := by
  cases h : PT.at' p t with
  | none => exact ⟨zeroPT_wf, by simp [found, zeroPT, PT.cnt, PT.cntL]⟩
  | some u =>
    have h1 := at_wf p h hw
    have h2 := cnt_le_sz u
    exact ⟨h1.1, by show u.cnt ≤ _; omega⟩
theorem step_wf (t : PT) (st : St) (hw : t.Wf) (hs : t.sz ≤ 1048576) : (found (t.step st)).1.Wf ∧ (found (t.step st)).1.cnt ≤ 1048578 := by
  have h := found_wf [st] t hw hs
  have e : PT.at' [st] t = t.step st := by simp [PT.at']
  rwa [e] at h
end Go.Proofs.YtgfebmnlcihpnaaDoor
