/- Slices of trees in the exact laws: as trees without a root of their own. -/
import Derived.Test.YtgfebmnlcihpnaaSz
import Derived.Test.YtgfebmnlcihpnaaToVal
import Derived.Test.YtgfebmnlcihpnaaEqVal
import Derived.Test.YtgfebmnlcihpnaaHeldVal
namespace Go.Proofs.Ytgfebmnlcihpnaa
open Go.RowKit
/-- a slice of trees as a tree -/
@[reducible] def lst (p : List PT) : PT := .mk 0 0 0 [] p
theorem lst_pt {X : AT} {p : List PT} (h : X.pt = lst p) : AT.ptL X.l = p := by cases X; simp only [AT.pt, lst, PT.mk.injEq] at h; exact h.2.2.2.2
theorem lst_wf {a : Option Addr} {cap : Nat} {l : List AT} (hl : l.length ≤ 9223372036854775807) (hwf : ∀ t ∈ l, t.pt.Wf) : (AT.mk 0 0 0 [] a cap l).pt.Wf := by
  refine .mk (by omega) (by omega) (by omega) (by simp) (by rw [AT.ptL_length]; exact hl) fun t ht => ?_
  rw [AT.ptL_eq] at ht
  obtain ⟨u, hu, rfl⟩ := List.mem_map.1 ht
  exact hwf u hu
theorem toValS_tree (T : AT) (hwf : T.pt.Wf) (hsz : T.pt.sz ≤ 1048576) (w : World) (N : Nat) (h : T.In w N) (hN : N ≤ w.heap.size) :
    Calls Try.prog 129 #[.slice T.a T.l.length T.cap] w fun e w' => ∃ X : AT, X.pt = lst (AT.ptL T.l) ∧ e = .returned (.slice X.a X.l.length X.cap) ∧ X.Own w' w.heap.size ∧ X.blks.Nodup ∧ Below w.heap.size w w' := by
  have hsub : ∀ t ∈ T.l, t.pt.Wf := fun t ht => by
    cases T; exact hwf.sub' t.pt (by rw [AT.ptL_eq]; exact List.mem_map_of_mem ht)
  have hs : T.l.length + PT.szL (AT.ptL T.l) ≤ 1048576 := by
    cases T; simp only [AT.pt, PT.sz, AT.ptL_length, AT.l] at *; omega
  refine (toValS_any T.l hsub hs w N T.a T.cap h.lv' hN).mono fun e w' hp => ?_
  obtain ⟨a', cap', l', h1, h2, h3, h4, h5⟩ := hp
  exact ⟨.mk 0 0 0 [] a' cap' l', by simp [AT.pt, h1], h2, h3.own, h4, h5⟩
theorem szValS_tree (T : AT) (hwf : T.pt.Wf) (w : World) (N left : Nat) (h : T.In w N) (hN : N ≤ w.heap.size) (hleft : left ≤ 1048576) :
    Calls Try.prog 128 #[.slice T.a T.l.length T.cap, .int .i64 left] w fun e w' => e = .returned (.int .i64 (szR (T.l.length + PT.szL (AT.ptL T.l)) left)) ∧ Below w.heap.size w w' := by
  have hsub : ∀ t ∈ T.l, t.pt.Wf := fun t ht => by
    cases T; exact hwf.sub' t.pt (by rw [AT.ptL_eq]; exact List.mem_map_of_mem ht)
  have hl : T.l.length ≤ 9223372036854775807 := by
    cases T with
    | mk k n x s a cap l => cases hwf with
      | mk hk hn hx hs hl sub => rw [AT.ptL_length] at hl; exact hl
  exact szValS_any T.l (fun t ht htw => szVal_any t htw) hsub hl w N left T.a T.cap h.lv' hN hleft
theorem eqValS_tree (X Y : AT) (hwf : X.pt.Wf) (hp : AT.ptL X.l = AT.ptL Y.l) (w : World) (hx : X.In w w.heap.size) (hy : Y.In w w.heap.size) :
    Calls Try.prog 130 #[.slice X.a X.l.length X.cap, .slice Y.a Y.l.length Y.cap] w fun e w' => e = .returned (.bool true) ∧ Below w.heap.size w w' := by
  have hsub : ∀ t ∈ X.l, t.pt.Wf := fun t ht => by
    cases X; exact hwf.sub' t.pt (by rw [AT.ptL_eq]; exact List.mem_map_of_mem ht)
  have hl : X.l.length ≤ 9223372036854775807 := by
    cases X with
    | mk k n x s a cap l => cases hwf with
      | mk hk hn hx hs hl sub => rw [AT.ptL_length] at hl; exact hl
  exact eqValS_of X.l (fun t ht => eqVal_any t (hsub t ht)) Y.l hp hl w w.heap.size X.a Y.a X.cap Y.cap hx.lv' hy.lv' (Nat.le_refl _)
theorem markS_tree (X : AT) (w : World) (B : Nat) (h : X.Own w B) (hnd : X.blks.Nodup) (hb : PT.cntL (AT.ptL X.l) ≤ 2097152) :
    Calls Try.prog 131 #[.slice X.a X.l.length X.cap, .int .i64 1] w fun e w' => e = .returned (.int .i64 (1 + 4 * PT.cntL (AT.ptL X.l) : Nat)) ∧ OnlyBs X.blks w w' := by
  refine (markValS_any X w B 1 h.l' (by rw [← AT.blks_eq]; exact hnd) (Nat.le_refl _) (by omega)).mono fun e w' hp => ?_
  exact ⟨hp.1, by rw [AT.blks_eq]; exact hp.2.2⟩
theorem mark_tree (X : AT) (w : World) (B : Nat) (h : X.Own w B) (hnd : X.blks.Nodup) (hb : X.pt.cnt ≤ 2097152) :
    Calls Try.prog 66 #[X.val, .int .i64 1] w fun e w' => (e = .returned (.int .i64 (1 + 4 * PT.cntL (AT.ptL X.l) : Nat)) ∧ OwnL w' B X.a X.cap (AT.markL 1 X.l)) ∧ OnlyBs X.blks w w' := by
  refine (markVal_any X w B 1 h hnd (Nat.le_refl _) (by omega)).mono fun e w' hp => ?_
  exact ⟨⟨hp.1, hp.2.1⟩, hp.2.2⟩
theorem held_tree (X : AT) (w : World) (B : Nat) (h : OwnL w B X.a X.cap (AT.markL 1 X.l)) (hb : X.pt.cnt ≤ 2097152) :
    Calls Try.prog 67 #[X.val, .int .i64 1] w fun e w' => e = .returned (.int .i64 (1 + 4 * PT.cntL (AT.ptL X.l) : Nat)) ∧ Below w.heap.size w w' :=
  heldVal_any X w w.heap.size 1 h.lv (Nat.le_refl _) X.k X.n X.x ⟨X.s.toArray⟩ (Nat.le_refl _) (by have := cnt_eq' X; omega)
theorem pt_wf {X : AT} {p : PT} (h : X.pt = p) (hp : p.Wf) : X.pt.Wf := h ▸ hp
theorem pt_sz (T : AT) : T.pt.sz = T.s.length + (T.l.length + PT.szL (AT.ptL T.l)) := by cases T; simp [AT.pt, PT.sz, AT.s, AT.l]
theorem lst_wf_of (T : AT) (h : T.pt.Wf) : (lst (AT.ptL T.l)).Wf := by
  cases T with
  | mk k n x s a cap l => cases h with
    | mk hk hn hx hs hl sub => exact .mk (by omega) (by omega) (by omega) (by simp) hl sub
theorem toValS_lst (T : AT) (hwf : T.pt.Wf) (hs : T.l.length + PT.szL (AT.ptL T.l) ≤ 1048576) (w : World) (N : Nat) (h : T.In w N) (hN : N ≤ w.heap.size) :
    Calls Try.prog 129 #[.slice T.a T.l.length T.cap] w fun e w' => ∃ X : AT, X.pt = lst (AT.ptL T.l) ∧ e = .returned (.slice X.a X.l.length X.cap) ∧ X.Own w' w.heap.size ∧ X.blks.Nodup ∧ Below w.heap.size w w' := by
  have hsub : ∀ t ∈ T.l, t.pt.Wf := fun t ht => by
    cases T; exact hwf.sub' t.pt (by rw [AT.ptL_eq]; exact List.mem_map_of_mem ht)
  refine (toValS_any T.l hsub hs w N T.a T.cap h.lv' hN).mono fun e w' hp => ?_
  obtain ⟨a', cap', l', h1, h2, h3, h4, h5⟩ := hp
  exact ⟨.mk 0 0 0 [] a' cap' l', by simp [AT.pt, h1], h2, h3.own, h4, h5⟩
end Go.Proofs.Ytgfebmnlcihpnaa
