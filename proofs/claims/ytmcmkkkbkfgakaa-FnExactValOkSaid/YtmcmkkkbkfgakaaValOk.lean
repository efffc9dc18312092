/- ValOk of the program. -/
import Derived.Test.YtmcmkkkbkfgakaaNode
import Derived.Test.YtmcmkkkbkfgakaaSameVal
namespace Go.Proofs.Ytmcmkkkbkfgakaa
open Go.RowKit
def GoodT (t : AT) : Prop := t.pt.Wf ∧ t.pt.sz ≤ 1048576
theorem GoodT.sub {t u : AT} (h : GoodT t) (hu : u ∈ t.l) : GoodT u := by
  obtain ⟨k, n, x, s, a, cap, l⟩ := t
  have e1 : (AT.mk k n x s a cap l).pt.sz = s.length + (l.length + PT.szL (AT.ptL l)) := by simp [AT.pt, PT.sz]
  have h2 := szL_ge (l := l) hu
  exact ⟨h.1.sub' u.pt (by rw [AT.ptL_eq]; exact List.mem_map_of_mem hu), by have := h.2; omega⟩
theorem GoodT.nums {t : AT} (h : GoodT t) : -9223372036854775808 ≤ t.n ∧ t.n ≤ 9223372036854775807 ∧ -9223372036854775808 ≤ t.x ∧ t.x ≤ 9223372036854775807 ∧ t.s.length ≤ 1099511627776 ∧ t.l.length ≤ 9223372036854775807 := by
  obtain ⟨k, n, x, s, a, cap, l⟩ := t
  have e1 : (AT.mk k n x s a cap l).pt.sz = s.length + (l.length + PT.szL (AT.ptL l)) := by simp [AT.pt, PT.sz]
  have h2 := h.2
  cases h.1 with
  | mk hk hn hx hs hl sub => exact ⟨hn.1, hn.2, hx.1, hx.2, by show s.length ≤ _; omega, by show l.length ≤ _; omega⟩
theorem cof_any (t : AT) (w : World) : Calls Try.prog 63 #[t.val] w fun e w' => e = .returned (conOf t) ∧ Below w.heap.size w w' := by
  rcases con_kind t with ⟨hk, hc, _⟩ | ⟨hk, hc, _⟩ | ⟨hk, hc, _⟩ | ⟨hk, hc, _⟩ | ⟨hk, hc, _⟩ | ⟨hk, hc, _⟩ | ⟨hk, hc, _⟩ | ⟨hk, hc, _⟩ | ⟨hk, hc, _⟩ | ⟨hk, hc, _⟩ | ⟨hk, hc, _⟩ | ⟨hk, hc, _⟩
  all_goals rw [hc]
  · exact cof_none w t.k t.n t.x ⟨t.s.toArray⟩ t.a t.l.length t.cap hk
  · have := cof_null w t.n t.x ⟨t.s.toArray⟩ t.a t.l.length t.cap
    rw [← hk] at this; exact this
  · have := cof_bool w t.n t.x ⟨t.s.toArray⟩ t.a t.l.length t.cap
    rw [← hk] at this; exact this
  · have := cof_int w t.n t.x ⟨t.s.toArray⟩ t.a t.l.length t.cap
    rw [← hk] at this; exact this
  · have := cof_flt w t.n t.x ⟨t.s.toArray⟩ t.a t.l.length t.cap
    rw [← hk] at this; exact this
  · have := cof_odd w t.n t.x ⟨t.s.toArray⟩ t.a t.l.length t.cap
    rw [← hk] at this; exact this
  · have := cof_dec w t.n t.x ⟨t.s.toArray⟩ t.a t.l.length t.cap
    rw [← hk] at this; exact this
  · have := cof_text w t.n t.x ⟨t.s.toArray⟩ t.a t.l.length t.cap
    rw [← hk] at this; exact this
  · have := cof_bytes w t.n t.x ⟨t.s.toArray⟩ t.a t.l.length t.cap
    rw [← hk] at this; exact this
  · have := cof_list w t.n t.x ⟨t.s.toArray⟩ t.a t.l.length t.cap
    rw [← hk] at this; exact this
  · have := cof_map w t.n t.x ⟨t.s.toArray⟩ t.a t.l.length t.cap
    rw [← hk] at this; exact this
  · have := cof_tag w t.n t.x ⟨t.s.toArray⟩ t.a t.l.length t.cap
    rw [← hk] at this; exact this
theorem cok_any (t : AT) (hg : GoodT t) (w : World) : Calls Try.prog 64 #[conOf t] w fun e w' => e = .returned (.bool (okF t.k t.n t.x t.s t.l.length)) ∧ Below w.heap.size w w' := by
  obtain ⟨h0, h1, k0, k1, hs, hl⟩ := hg.nums
  rcases con_kind t with ⟨hk, hc, ho⟩ | ⟨hk, hc, _⟩ | ⟨hk, hc, _⟩ | ⟨hk, hc, _⟩ | ⟨hk, hc, _⟩ | ⟨hk, hc, _⟩ | ⟨hk, hc, _⟩ | ⟨hk, hc, _⟩ | ⟨hk, hc, _⟩ | ⟨hk, hc, _⟩ | ⟨hk, hc, _⟩ | ⟨hk, hc, _⟩
  all_goals rw [hc]
  · rw [ho]; exact cok_nil w
  all_goals rw [hk]
  · exact cok_null w t.n t.x ⟨t.s.toArray⟩ t.a t.l.length t.cap
  · exact cok_bool w t.n
  · exact cok_int w t.n
  · exact cok_flt w t.n t.x h0 h1 k0 k1
  · exact cok_odd w t.n
  · exact cok_dec w t.n t.x h0 h1
  · exact cok_text w t.s hs
  · exact cok_bytes w t.n t.x ⟨t.s.toArray⟩ t.a t.l.length t.cap
  · exact cok_list w t.n t.x ⟨t.s.toArray⟩ t.a t.l.length t.cap
  · exact cok_map w t.a t.l.length t.cap hl
  · exact cok_tag w t.n t.a t.l.length t.cap
/-- every level's trees are in range -/
def GoodS (S : List Lev) : Prop := ∀ L ∈ S, ∀ u ∈ L.l, GoodT u
def okS (S : List Lev) : Bool := S.all fun L => PT.okL (AT.ptL L.l)
theorem okS_append (S R : List Lev) : okS (S ++ R) = (okS S && okS R) := by simp [okS, List.all_append]
theorem okS_empty (S : List Lev) (h : ∀ L ∈ S, L.l = []) : okS S = true := by
  rw [okS, List.all_eq_true]
  intro L hL
  rw [h L hL]; rfl
theorem okS_step (S1 E : List Lev) (L : Lev) (t : AT) (tl : List AT) (a c) (hE : ∀ L ∈ E, L.l = []) (hl : L.l = t :: tl) : okS (S1 ++ L :: E) = (t.node && okS (S1 ++ [Lev.mk a c tl, Lev.mk t.a t.cap t.l])) := by
  rw [okS_append, okS_append]
  have h1 : okS (L :: E) = (PT.okL (AT.ptL L.l) && okS E) := rfl
  have h2 : okS [Lev.mk a c tl, Lev.mk t.a t.cap t.l] = (PT.okL (AT.ptL tl) && (PT.okL (AT.ptL t.l) && true)) := rfl
  rw [h1, h2, okS_empty E hE, hl]
  simp only [AT.ptL, PT.okL, ok_eq, Bool.and_true]
  cases okS S1 <;> cases t.node <;> cases PT.okL (AT.ptL t.l) <;> cases PT.okL (AT.ptL tl) <;> rfl
theorem GoodS.step {S1 E : List Lev} {L : Lev} {t : AT} {tl : List AT} (a c) (h : GoodS (S1 ++ L :: E)) (hl : L.l = t :: tl) : GoodT t ∧ GoodS (S1 ++ [Lev.mk a c tl, Lev.mk t.a t.cap t.l]) := by
  have ht : GoodT t := h L (by simp) t (by rw [hl]; simp)
  refine ⟨ht, fun M hM u hu => ?_⟩
  simp only [List.mem_append, List.mem_cons, List.not_mem_nil, or_false] at hM
  rcases hM with hM | rfl | rfl
  · exact h M (by simp [hM]) u hu
  · exact h L (by simp) u (by rw [hl]; simp [hu])
  · exact ht.sub hu
end Go.Proofs.Ytmcmkkkbkfgakaa
