import Derived.Test.YtdjnkcoepmackaaG20
import Derived.Test.YtdjnkcoepmackaaG7
import Derived.Test.YtdjnkcoepmackaaG8
import Derived.Test.YtdjnkcoepmackaaG10
import Derived.Test.YtdjnkcoepmackaaG13
import Derived.Test.YtdjnkcoepmackaaG11
import Derived.Deep.AppendLies
import Derived.Test.YtdjnkcoepmackaaG17
/- Slices of trees in the exact laws: as trees without a root of their own. -/
namespace Go.Proofs.Ytdjnkcoepmackaa
open Go.RowKit
/-- a slice of trees as a tree -/
@[reducible] def lst (p : List PT) : PT := .mk 0 0 0 [] p
theorem lst_pt {X : AT} {p : List PT} (h : X.pt = lst p) : AT.ptL X.l = p := by cases X; simp only [AT.pt, lst, PT.mk.injEq] at h; exact h.2.2.2.2
theorem lst_wf {a : Option Addr} {cap : Nat} {l : List AT} (hl : l.length ≤ 9223372036854775807) (hwf : ∀ t ∈ l, t.pt.Wf) : (AT.mk 0 0 0 [] a cap l).pt.Wf := by
  refine .mk (by omega) (by omega) (by omega) (by simp) (by rw [AT.ptL_length]; exact hl) fun t ht => ?_
  rw [AT.ptL_eq] at ht
  obtain ⟨u, hu, rfl⟩ := List.mem_map.1 ht
  exact hwf u hu
theorem toValS_tree (T : AT) (hwf : T.pt.Wf) (hsz : T.pt.sz ≤ 1048576) (w : World) (N : Nat) (h : T.In w N) (hN : N ≤ w.heap.size) :
    Calls Try.prog 72 #[.slice T.a T.l.length T.cap] w fun e w' => ∃ X : AT, X.pt = lst (AT.ptL T.l) ∧ e = .returned (.slice X.a X.l.length X.cap) ∧ X.Own w' w.heap.size ∧ X.blks.Nodup ∧ Below w.heap.size w w' := by
  have hsub : ∀ t ∈ T.l, t.pt.Wf := fun t ht => by
    cases T; exact hwf.sub' t.pt (by rw [AT.ptL_eq]; exact List.mem_map_of_mem ht)
  have hs : T.l.length + PT.szL (AT.ptL T.l) ≤ 1048576 := by
    cases T; simp only [AT.pt, PT.sz, AT.ptL_length, AT.l] at *; omega
  refine (toValS_any T.l hsub hs w N T.a T.cap h.lv' hN).mono fun e w' hp => ?_
  obtain ⟨a', cap', l', h1, h2, h3, h4, h5⟩ := hp
  exact ⟨.mk 0 0 0 [] a' cap' l', by simp [AT.pt, h1], h2, h3.own, h4, h5⟩
theorem szValS_tree (T : AT) (hwf : T.pt.Wf) (w : World) (N left : Nat) (h : T.In w N) (hN : N ≤ w.heap.size) (hleft : left ≤ 1048576) :
    Calls Try.prog 69 #[.slice T.a T.l.length T.cap, .int .i64 left] w fun e w' => e = .returned (.int .i64 (szR (T.l.length + PT.szL (AT.ptL T.l)) left)) ∧ Below w.heap.size w w' := by
  have hsub : ∀ t ∈ T.l, t.pt.Wf := fun t ht => by
    cases T; exact hwf.sub' t.pt (by rw [AT.ptL_eq]; exact List.mem_map_of_mem ht)
  have hl : T.l.length ≤ 9223372036854775807 := by
    cases T with
    | mk k n x s a cap l => cases hwf with
      | mk hk hn hx hs hl sub => rw [AT.ptL_length] at hl; exact hl
  exact szValS_any T.l (fun t ht htw => szVal_any t htw) hsub hl w N left T.a T.cap h.lv' hN hleft
theorem eqValS_tree (X Y : AT) (hwf : X.pt.Wf) (hp : AT.ptL X.l = AT.ptL Y.l) (w : World) (hx : X.In w w.heap.size) (hy : Y.In w w.heap.size) :
    Calls Try.prog 77 #[.slice X.a X.l.length X.cap, .slice Y.a Y.l.length Y.cap] w fun e w' => e = .returned (.bool true) ∧ Below w.heap.size w w' := by
  have hsub : ∀ t ∈ X.l, t.pt.Wf := fun t ht => by
    cases X; exact hwf.sub' t.pt (by rw [AT.ptL_eq]; exact List.mem_map_of_mem ht)
  have hl : X.l.length ≤ 9223372036854775807 := by
    cases X with
    | mk k n x s a cap l => cases hwf with
      | mk hk hn hx hs hl sub => rw [AT.ptL_length] at hl; exact hl
  exact eqValS_of X.l (fun t ht => eqVal_any t (hsub t ht)) Y.l hp hl w w.heap.size X.a Y.a X.cap Y.cap hx.lv' hy.lv' (Nat.le_refl _)
theorem markS_tree (X : AT) (w : World) (B : Nat) (h : X.Own w B) (hnd : X.blks.Nodup) (hb : PT.cntL (AT.ptL X.l) ≤ 2097152) :
    Calls Try.prog 78 #[.slice X.a X.l.length X.cap, .int .i64 1] w fun e w' => e = .returned (.int .i64 (1 + 4 * PT.cntL (AT.ptL X.l) : Nat)) ∧ OnlyBs X.blks w w' := by
  refine (markValS_any X w B 1 h.l' (by rw [← AT.blks_eq]; exact hnd) (Nat.le_refl _) (by omega)).mono fun e w' hp => ?_
  exact ⟨hp.1, by rw [AT.blks_eq]; exact hp.2.2⟩
theorem mark_tree (X : AT) (w : World) (B : Nat) (h : X.Own w B) (hnd : X.blks.Nodup) (hb : X.pt.cnt ≤ 2097152) :
    Calls Try.prog 15 #[X.val, .int .i64 1] w fun e w' => (e = .returned (.int .i64 (1 + 4 * PT.cntL (AT.ptL X.l) : Nat)) ∧ OwnL w' B X.a X.cap (AT.markL 1 X.l)) ∧ OnlyBs X.blks w w' := by
  refine (markVal_any X w B 1 h hnd (Nat.le_refl _) (by omega)).mono fun e w' hp => ?_
  exact ⟨⟨hp.1, hp.2.1⟩, hp.2.2⟩
theorem held_tree (X : AT) (w : World) (B : Nat) (h : OwnL w B X.a X.cap (AT.markL 1 X.l)) (hb : X.pt.cnt ≤ 2097152) :
    Calls Try.prog 16 #[X.val, .int .i64 1] w fun e w' => e = .returned (.int .i64 (1 + 4 * PT.cntL (AT.ptL X.l) : Nat)) ∧ Below w.heap.size w w' :=
  heldVal_any X w w.heap.size 1 h.lv (Nat.le_refl _) X.k X.n X.x ⟨X.s.toArray⟩ (Nat.le_refl _) (by have := cnt_eq' X; omega)
theorem pt_wf {X : AT} {p : PT} (h : X.pt = p) (hp : p.Wf) : X.pt.Wf := h ▸ hp
theorem pt_sz (T : AT) : T.pt.sz = T.s.length + (T.l.length + PT.szL (AT.ptL T.l)) := by cases T; simp [AT.pt, PT.sz, AT.s, AT.l]
theorem lst_wf_of (T : AT) (h : T.pt.Wf) : (lst (AT.ptL T.l)).Wf := by
  cases T with
  | mk k n x s a cap l => cases h with
    | mk hk hn hx hs hl sub => exact .mk (by omega) (by omega) (by omega) (by simp) hl sub
theorem toValS_lst (T : AT) (hwf : T.pt.Wf) (hs : T.l.length + PT.szL (AT.ptL T.l) ≤ 1048576) (w : World) (N : Nat) (h : T.In w N) (hN : N ≤ w.heap.size) :
    Calls Try.prog 72 #[.slice T.a T.l.length T.cap] w fun e w' => ∃ X : AT, X.pt = lst (AT.ptL T.l) ∧ e = .returned (.slice X.a X.l.length X.cap) ∧ X.Own w' w.heap.size ∧ X.blks.Nodup ∧ Below w.heap.size w w' := by
  have hsub : ∀ t ∈ T.l, t.pt.Wf := fun t ht => by
    cases T; exact hwf.sub' t.pt (by rw [AT.ptL_eq]; exact List.mem_map_of_mem ht)
  refine (toValS_any T.l hsub hs w N T.a T.cap h.lv' hN).mono fun e w' hp => ?_
  obtain ⟨a', cap', l', h1, h2, h3, h4, h5⟩ := hp
  exact ⟨.mk 0 0 0 [] a' cap' l', by simp [AT.pt, h1], h2, h3.own, h4, h5⟩
end Go.Proofs.Ytdjnkcoepmackaa
/- Marks on results that are slices. -/
namespace Go.Proofs.Ytdjnkcoepmackaa
open Go.RowKit
/-- a slice of trees in rows of its own, as a tree -/
def FreshS (w : World) (p : List PT) (e : Ending) (w' : World) : Prop := ∃ X : AT, X.pt = lst p ∧ e = .returned (.slice X.a X.l.length X.cap) ∧ X.Own w' w.heap.size ∧ X.blks.Nodup ∧ Below w.heap.size w w'
theorem FreshL.s {w w' : World} {p : List PT} {e : Ending} (h : FreshL w p e w') : FreshS w p e w' := by
  obtain ⟨a', cap', l', h1, h2, h3, h4, h5⟩ := h
  exact ⟨.mk 0 0 0 [] a' cap' l', by simp [AT.pt, h1, lst], h2, h3.own, h4, h5⟩
theorem markS_keep (X : AT) (w : World) (B : Nat) (h : X.Own w B) (hnd : X.blks.Nodup) (hb : PT.cntL (AT.ptL X.l) ≤ 2097152) :
    Calls Try.prog 78 #[.slice X.a X.l.length X.cap, .int .i64 1] w fun e w' => (e = .returned (.int .i64 (1 + 4 * PT.cntL (AT.ptL X.l) : Nat)) ∧ OwnL w' B X.a X.cap (AT.markL 1 X.l)) ∧ OnlyBs X.blks w w' := by
  refine (markValS_any X w B 1 h.l' (by rw [← AT.blks_eq]; exact hnd) (Nat.le_refl _) (by omega)).mono fun e w' hp => ?_
  exact ⟨⟨hp.1, hp.2.1⟩, by rw [AT.blks_eq]; exact hp.2.2⟩
theorem heldS_tree (X : AT) (w : World) (B : Nat) (h : OwnL w B X.a X.cap (AT.markL 1 X.l)) (hb : PT.cntL (AT.ptL X.l) ≤ 2097152) :
    Calls Try.prog 79 #[.slice X.a X.l.length X.cap, .int .i64 1] w fun e w' => e = .returned (.int .i64 (1 + 4 * PT.cntL (AT.ptL X.l) : Nat)) ∧ Below w.heap.size w w' :=
  heldValS_any X w w.heap.size 1 h.lv (Nat.le_refl _) (Nat.le_refl _) (by omega)
theorem mark_from (X : AT) (w : World) (B c : Nat) (h : X.Own w B) (hnd : X.blks.Nodup) (hb : X.pt.cnt ≤ 2097152) (h1 : 1 ≤ c) (hc : c ≤ 4194310) :
    Calls Try.prog 15 #[X.val, .int .i64 (c : Nat)] w fun e w' => (e = .returned (.int .i64 (c + 4 * PT.cntL (AT.ptL X.l) : Nat)) ∧ OwnL w' B X.a X.cap (AT.markL c X.l)) ∧ OnlyBs X.blks w w' := by
  refine (markVal_any X w B c h hnd h1 (by omega)).mono fun e w' hp => ?_
  exact ⟨⟨hp.1, hp.2.1⟩, hp.2.2⟩
theorem ownl_drew {w : World} {B : Nat} {a : Option Addr} {cap : Nat} {l : List AT} (h : OwnL w B a cap l) : OwnL w.drew B a cap l := (AT.Own.kept (T := .mk 0 0 0 [] a cap l) h.own (w' := w.drew) (fun _ _ => rfl)).l
theorem ownl_blw {w w' : World} {B : Nat} {a : Option Addr} {cap : Nat} {l : List AT} (hb : Below w.heap.size w w') (h : OwnL w B a cap l) : OwnL w' B a cap l := h.blw hb
theorem ownl_alloc {w : World} {o : Obj} {B : Nat} {a : Option Addr} {cap : Nat} {l : List AT} (h : OwnL w B a cap l) : OwnL (w.alloc o) B a cap l := h.blw (vbox w o)
theorem cntL_le_sz (p : PT) : p.cnt ≤ p.sz + 1 := cnt_le_sz p
end Go.Proofs.Ytdjnkcoepmackaa
/- Marks that go on behind others. -/
namespace Go.Proofs.Ytdjnkcoepmackaa
open Go.RowKit
theorem mark_from2 (X : AT) (w : World) (B c : Nat) (h : X.Own w B) (hnd : X.blks.Nodup) (hb : X.pt.cnt ≤ 2097152) (h1 : 1 ≤ c) (hc : c ≤ 100000000) :
    Calls Try.prog 15 #[X.val, .int .i64 (c : Nat)] w fun e w' => (e = .returned (.int .i64 (c + 4 * PT.cntL (AT.ptL X.l) : Nat)) ∧ True) ∧ OnlyBs X.blks w w' := by
  refine (markVal_any X w B c h hnd h1 (by omega)).mono fun e w' hp => ?_
  exact ⟨⟨hp.1, trivial⟩, hp.2.2⟩
end Go.Proofs.Ytdjnkcoepmackaa
/- The names of a map: plain, NamesOf of the model, namesIn of the program. -/
namespace Go.Proofs.Ytdjnkcoepmackaa
open Go.RowKit
set_option maxRecDepth 100000
def evens {α : Type} : List α → List α
  | [] => []
  | [x] => [x]
  | x :: _ :: l => x :: evens l
theorem evens_length {α : Type} (l : List α) : (evens l).length = (l.length + 1) / 2 := by
  induction l using evens.induct with
  | case1 => simp [evens]
  | case2 => simp [evens]
  | case3 x y l ih => simp only [evens, List.length_cons, ih]; omega
theorem evens_get {α : Type} (l : List α) (j : Nat) (hj : 2 * j < l.length) : (evens l)[j]? = some l[2 * j] := by
  induction l using evens.induct generalizing j with
  | case1 => simp at hj
  | case2 x =>
    obtain rfl : j = 0 := by simp at hj; omega
    simp [evens]
  | case3 x y l ih =>
    cases j with
    | zero => simp [evens]
    | succ j =>
      simp only [evens, List.getElem?_cons_succ]
      rw [ih j (by simp at hj; omega)]
      simp only [Nat.mul_add, Nat.mul_one, List.getElem_cons_succ]
theorem evens_map {α β : Type} (f : α → β) (l : List α) : (evens l).map f = evens (l.map f) := by
  induction l using evens.induct with
  | case1 => simp [evens]
  | case2 => simp [evens]
  | case3 x y l ih => simp only [evens, List.map_cons, ih]
theorem evens_mem {α : Type} {l : List α} {x : α} (h : x ∈ evens l) : x ∈ l := by
  induction l using evens.induct with
  | case1 => cases h
  | case2 => exact h
  | case3 y z l ih =>
    simp only [evens, List.mem_cons] at h ⊢
    rcases h with h | h
    · exact .inl h
    · exact .inr (.inr (ih h))
def PT.names : PT → List PT
  | .mk k _ _ _ l => if k = 10 then evens l else []
def AT.names (T : AT) : List AT := if T.k = 10 then evens T.l else []
theorem names_pt (T : AT) : AT.ptL T.names = T.pt.names := by
  obtain ⟨k, n, x, s, a, cap, l⟩ := T
  show AT.ptL (if k = 10 then evens l else []) = if k = 10 then evens (AT.ptL l) else []
  by_cases h : k = 10
  · rw [if_pos h, if_pos h, AT.ptL_eq, AT.ptL_eq, evens_map]
  · rw [if_neg h, if_neg h]; simp [AT.ptL]
theorem names_mem {T t : AT} (h : t ∈ T.names) : t ∈ T.l := by
  unfold AT.names at h
  split at h
  · exact evens_mem h
  · cases h
theorem evens_take {l : List AT} {j : Nat} (hj : 2 * j < l.length) : (evens l).take (j + 1) = (evens l).take j ++ [l[2 * j]] := by
  have hl : j < (evens l).length := by rw [evens_length]; omega
  rw [List.take_succ_eq_append_getElem hl]
  congr 2
  have := evens_get l j hj
  rw [List.getElem?_eq_getElem hl] at this
  simpa using this
set_option maxHeartbeats 2000000 in
theorem names_spec (T : AT) (w : World) (N : Nat) (hin : T.In w N) (hsz : T.pt.sz ≤ 1048576) (hN : N ≤ w.heap.size) : Calls Try.prog 34 #[T.val] w (FreshL w T.pt.names) := by
  obtain ⟨i0, hi, hz0, hz1, hz2⟩ := info_parts valInfo
  have hcp : ∀ t ∈ T.l, t.pt.sz ≤ 1048576 := fun t ht => by
    have h1 := szL_ge ht
    have h2 : PT.szL (AT.ptL T.l) ≤ T.pt.sz := by obtain ⟨k, n, x, s, a, cap, l⟩ := T; simp [AT.pt, PT.sz, AT.l]; omega
    omega
  have hll : T.l.length ≤ 1048576 := by
    have h2 : T.l.length ≤ T.pt.sz := by obtain ⟨k, n, x, s, a, cap, l⟩ := T; simp [AT.pt, PT.sz, AT.l]; omega
    omega
  have HCP := Lib.hid (fun (t : AT) (ht : t ∈ T.l) (w1 : World) (hb : Below w.heap.size w w1) => l6Copy_any t (hcp t ht) w1 N ((hin.lv'.sub t ht).blw hb hN) (Nat.le_trans hN hb.size))
  have H := Lib.hid hin.lv'
  have hnm := names_pt T
  obtain ⟨p, hp⟩ : ∃ p, p = T.pt.names := ⟨_, rfl⟩
  rw [← hp] at hnm ⊢
  clear hin hsz hcp hp
  obtain ⟨k, n, x, s, a, cap, l⟩ := T
  simp only [AT.l, AT.a, AT.cap] at H HCP hll
  show Calls Try.prog 34 #[.agg #[.int .i64 k, .int .i64 n, .int .i64 x, .string ⟨s.toArray⟩, .slice a l.length cap]] w _
  have hvb : VC (w.alloc (.cells #[.int .i64 k, .int .i64 n, .int .i64 x, .string ⟨s.toArray⟩, .slice a l.length cap] 28)) w.heap.size k n x ⟨s.toArray⟩ a l.length cap := by refine ⟨?_, ?_, ?_, ?_, ?_⟩ <;> simp [go_sem]
  have hB0 := vbox w (.cells #[.int .i64 k, .int .i64 n, .int .i64 x, .string ⟨s.toArray⟩, .slice a l.length cap] 28)
  have hz : (w.alloc (.cells #[.int .i64 k, .int .i64 n, .int .i64 x, .string ⟨s.toArray⟩, .slice a l.length cap] 28)).heap.size = w.heap.size + 1 := by simp
  go_enter Try.func34, Try.ntmps34
  go_wp2_with fail
  generalize w.alloc (.cells #[.int .i64 k, .int .i64 n, .int .i64 x, .string ⟨s.toArray⟩, .slice a l.length cap] 28) = W0 at *
  have HVB := Lib.hid hvb
  have HB0 := Lib.hid hB0
  rw [← hz]
  have hwz : w.heap.size ≤ W0.heap.size := by omega
  clear hB0 hz
  by_cases hk : k = 10
  · subst hk
    have HNM : Hid (AT.ptL (evens l) = p) := Lib.hid (by rw [← hnm]; rfl)
    clear hnm hvb
    go_loopw [3, 4] (fun v i wr => ∃ (lr : List AT) (a' : Option Addr) (cap' q : Nat), v = .slice a' lr.length cap' ∧ i = .int .i64 q ∧ Hid (q = 2 * lr.length) ∧ 2 * lr.length ≤ l.length + 1 ∧ AT.ptL lr = AT.ptL ((evens l).take lr.length) ∧ OwnL wr W0.heap.size a' cap' lr ∧ ((a'.map (·.block)).toList ++ AT.blksL lr).Nodup ∧ Rl W0 wr) (fun _ i _ => l.length + 1 - (intOf i).toNat)
    case atStart => exact ⟨[], _, _, 0, rfl, rfl, Lib.hid rfl, by simp, by simp [AT.ptL], emptyRow W0 _ (Nat.le_refl _), by simp [AT.blksL], (Rl.refl W0).alloc _⟩
    case round =>
      obtain ⟨lr, a', cap', q, rfl, rfl, HQ, hlr, hpt, hown, hnd, hb⟩ := hrel
      have HO := Lib.hid hown
      have HB := Lib.hid hb
      have HD := Lib.hid hnd
      have HP := Lib.hid hpt
      have HBw := Lib.hid (HB0.out.trans (hb.b.mono HB0.out.size))
      obtain ⟨v0, v1, v2, v3, v4⟩ := HVB.out.blw hb.b
      clear hpt hnd hown
      by_cases hlt : q < l.length
      · obtain ⟨b, o, rfl, hbN, hC⟩ := H.out.cell q hlt
        have hC := hC.keep (HBw.out.block b (by omega))
        have hc := fun w' hw => HCP.out l[q] (List.getElem_mem hlt) w' hw
        have HPt : Hid (AT.ptL ((evens l).take (lr.length + 1)) = AT.ptL ((evens l).take lr.length) ++ [(l[q]).pt]) := Lib.hid (by
          have hq := HQ.out
          subst hq
          rw [evens_take hlt]; simp [AT.ptL_eq])
        obtain ⟨T, hT⟩ : ∃ T, T = l[q] := ⟨_, rfl⟩
        rw [← hT] at hC hc HPt
        clear hT
        obtain ⟨c0, c1, c2, c3, c4⟩ := hC
        have HC := Lib.hid hc
        have hlt' : (q : Int) < l.length := by omega
        clear hc hb
        go_wp2_with fail
        refine (HC.out wr HBw.out).mono ?_
        rintro e w2 ⟨T', hT', rfl, hOT, hNT, hb2⟩
        have hO2 := (HO.out.blw hb2)
        have hdis : ∀ k ∈ T'.blks, k ∉ (a'.map (·.block)).toList ++ AT.blksL lr := fun k hk hk2 => by
          have h1 := (hOT.lt k hk).1
          have h2 := (HO.out.lt k hk2).2
          omega
        have HX := Lib.hid hT'
        have HOT := Lib.hid (hOT.base HB.out.z)
        have HNT := Lib.hid hNT
        have HB2 := Lib.hid (HB.out.below hb2)
        have HO2 := Lib.hid hO2
        have HDI := Lib.hid hdis
        clear hT' hOT hNT hb2 hO2 hdis c0 c1 c2 c3 c4 v0 v1 v2 v3 v4
        go_wp2_with (refine wpList_append_lies _ (by rfl) _ _ _ (by rfl) W0.heap.size 28 i0 _ 5 64 Try.underlying26 hi hz0 hz1 hz2 rfl (by omega) _ lr.length _ (by rfl) (own_heap HO2.out.row (fun k hk => (((vbox w2 _).trans ((vbox _ _).mono (by simp))).block k (HO2.out.row.lt k hk).2))) ⟨w2.heap.size + 1, 0, none⟩ 1 1 T'.cells (by rfl) (by rfl) ?news (cells_one T') (by omega) (by unfold maxLen; omega) (by omega) (by have := HB2.out.z; simp; omega) (w2.heap.size + 2) (by simp) ?_)
        case news =>
          have := news_of_cells (w2.alloc (.cells #[.int .i64 T'.k, .int .i64 T'.n, .int .i64 T'.x, .string ⟨T'.s.toArray⟩, .slice T'.a T'.l.length T'.cap] 28)) T'
          simpa using this
        intro gg cap2 w3 hown3 hgrow hat hlt3
        have hbW : Below w2.heap.size w2 ((w2.alloc (.cells #[.int .i64 T'.k, .int .i64 T'.n, .int .i64 T'.x, .string ⟨T'.s.toArray⟩, .slice T'.a T'.l.length T'.cap] 28)).alloc (.cells #[.int .i64 T'.k, .int .i64 T'.n, .int .i64 T'.x, .string ⟨T'.s.toArray⟩, .slice T'.a T'.l.length T'.cap] 28)) := boxes2 w2 _ _
        obtain ⟨hnew, hnd3⟩ := row_push (HO2.out.blw hbW) HD.out (HOT.out.blw hbW) HNT.out HDI.out hown3 hgrow (by simpa using hat)
        have hb3 : Rl W0 w3 := ⟨HB2.out.b.trans (below_push hgrow (fun k hk => (HO2.out.row.lt k hk).1) hbW HB2.out.z), by have h1 := HB2.out.z; have h2 := hbW.size; have h3 := hgrow.size; omega⟩
        have HNEW := Lib.hid hnew
        have HND3 := Lib.hid hnd3
        have HB3 := Lib.hid hb3
        have HPT : Hid (AT.ptL (lr ++ [T']) = AT.ptL ((evens l).take (lr.length + 1))) := Lib.hid (by
          rw [AT.ptL_eq, List.map_append, ← AT.ptL_eq, HP.out, List.map_singleton, HX.out, HPt.out])
        have hwr : IntKind.i64.wrap ((q : Int) + 2) = (q : Int) + 2 := IntWalk.i64_in _ (by omega)
        clear hown3 hgrow hat hlt3 hbW hnew hnd3 hb3
        go_wp2
        go_roundw
        case rel => exact ⟨lr ++ [T'], some ⟨gg, 0, none⟩, cap2, q + 2, by rw [List.length_append]; rfl, by go_num, Lib.hid (by rw [List.length_append, List.length_singleton]; have := HQ.out; omega), by rw [List.length_append, List.length_singleton]; have := HQ.out; omega, by rw [List.length_append, List.length_singleton]; exact HPT.out, HNEW.out, HND3.out, HB3.out⟩
        case measure => simp [intOf]; omega
      · have heq : lr.length = (evens l).length := by rw [evens_length]; have := HQ.out; omega
        have HE := Lib.hid heq
        clear hb heq
        have hnl : ¬ (q : Int) < l.length := by omega
        go_wp2
        go_ret
        exact ⟨a', cap', lr, by rw [HP.out, HE.out, List.take_length, HNM.out], rfl, ⟨own_base' HO.out.row hwz, fun t ht => (HO.out.sub t ht).base hwz⟩, HD.out, HBw.out⟩
  · have HNM : Hid (p = []) := Lib.hid (by rw [← hnm]; simp [AT.names, AT.k, hk, AT.ptL])
    clear hnm
    go_loopw [3, 4] (fun v i wr => v = .slice (some ⟨W0.heap.size, 0, none⟩) 0 0 ∧ i = .int .i64 0 ∧ wr = W0.alloc (.cells #[] 28)) (fun _ i _ => 0)
    case atStart => exact ⟨rfl, rfl, rfl⟩
    case round =>
      obtain ⟨rfl, rfl, rfl⟩ := hrel
      obtain ⟨v0, v1, v2, v3, v4⟩ := HVB.out.blw (vbox W0 (.cells #[] 28))
      have hkb : (k == 10) = false := by simpa using hk
      by_cases hl0 : (0 : Int) < l.length
      · go_wp2
        go_ret
        exact ⟨some ⟨W0.heap.size, 0, none⟩, 0, [], by rw [HNM.out]; rfl, rfl, emptyRow W0 _ hwz, by simp [AT.blksL], HB0.out.trans ((vbox W0 _).mono hwz)⟩
      · go_wp2
        go_ret
        exact ⟨some ⟨W0.heap.size, 0, none⟩, 0, [], by rw [HNM.out]; rfl, rfl, emptyRow W0 _ hwz, by simp [AT.blksL], HB0.out.trans ((vbox W0 _).mono hwz)⟩
/-- a row of one's own whose elements' elements are foreign -/
structure RowL (w : World) (B N : Nat) (a : Option Addr) (cap : Nat) (l : List AT) : Prop where
  row : w.ownsRow B 28 5 (.slice a l.length cap) l.length (cellsL l)
  sub : ∀ t ∈ l, t.In w N
theorem RowL.lv {w : World} {B N : Nat} {a : Option Addr} {cap : Nat} {l : List AT} (h : RowL w B N a cap l) (hN : N ≤ w.heap.size) : Lv w w.heap.size a cap l where
  hc := (own_cap h.row).2.1
  cell j hj := by
    obtain ⟨g, ha, _, hlt, hC⟩ := own_cellL h.row j hj
    exact ⟨g, 0, ha, hlt, hC⟩
  sub t ht := (h.sub t ht).mono hN
theorem RowL.blw {w w' : World} {B N : Nat} {a : Option Addr} {cap : Nat} {l : List AT} (h : RowL w B N a cap l) (hN : N ≤ w.heap.size) (hb : Below w.heap.size w w') : RowL w' B N a cap l :=
  ⟨own_heap h.row fun k hk => hb.block k (h.row.lt k hk).2, fun t ht => (h.sub t ht).blw hb hN⟩
set_option maxHeartbeats 2000000 in
theorem names_impl (T : AT) (w : World) (N : Nat) (hin : T.In w N) (hll : T.l.length ≤ 1048576) (hN : N ≤ w.heap.size) : Calls Try.prog 81 #[T.val] w fun e w' => ∃ a cap, e = .returned (.slice a T.names.length cap) ∧ RowL w' w.heap.size N a cap T.names ∧ Below w.heap.size w w' := by
  obtain ⟨i0, hi, hz0, hz1, hz2⟩ := info_parts valInfo
  have H := Lib.hid hin.lv'
  clear hin
  obtain ⟨k, n, x, s, a, cap, l⟩ := T
  simp only [AT.l, AT.a, AT.cap] at H hll
  have hnm : (AT.mk k n x s a cap l).names = if k = 10 then evens l else [] := rfl
  rw [hnm]
  clear hnm
  show Calls Try.prog 81 #[.agg #[.int .i64 k, .int .i64 n, .int .i64 x, .string ⟨s.toArray⟩, .slice a l.length cap]] w _
  have hvb : VC (w.alloc (.cells #[.int .i64 k, .int .i64 n, .int .i64 x, .string ⟨s.toArray⟩, .slice a l.length cap] 28)) w.heap.size k n x ⟨s.toArray⟩ a l.length cap := by refine ⟨?_, ?_, ?_, ?_, ?_⟩ <;> simp [go_sem]
  have hB0 := vbox w (.cells #[.int .i64 k, .int .i64 n, .int .i64 x, .string ⟨s.toArray⟩, .slice a l.length cap] 28)
  have hz : (w.alloc (.cells #[.int .i64 k, .int .i64 n, .int .i64 x, .string ⟨s.toArray⟩, .slice a l.length cap] 28)).heap.size = w.heap.size + 1 := by simp
  by_cases hk : k = 10
  · subst hk
    rw [if_pos rfl]
    go_enter Try.func81, Try.ntmps81
    go_wp2_with fail
    generalize w.alloc (.cells #[.int .i64 10, .int .i64 n, .int .i64 x, .string ⟨s.toArray⟩, .slice a l.length cap] 28) = W0 at *
    have HVB := Lib.hid hvb
    have HB0 := Lib.hid hB0
    rw [← hz]
    have hwz : w.heap.size ≤ W0.heap.size := by omega
    clear hB0 hz hvb
    go_loopw [3, 4] (fun v i wr => ∃ (j : Nat) (a' : Option Addr) (cap' q : Nat), v = .slice a' j cap' ∧ i = .int .i64 q ∧ Hid (q = 2 * j) ∧ Hid (j ≤ (evens l).length) ∧ Hid (wr.ownsRow W0.heap.size 28 5 (.slice a' j cap') j (cellsL ((evens l).take j))) ∧ Hid (Rl W0 wr)) (fun _ i _ => l.length + 1 - (intOf i).toNat)
    case atStart => exact ⟨0, _, _, 0, rfl, rfl, Lib.hid rfl, Lib.hid (Nat.zero_le _), Lib.hid (by simpa using (emptyRow W0 W0.heap.size (Nat.le_refl _)).row), Lib.hid ((Rl.refl W0).alloc _)⟩
    case round =>
      obtain ⟨j, a', cap', q, rfl, rfl, HQ, HJ, HO, HB⟩ := hrel
      have HBw := Lib.hid (HB0.out.trans (HB.out.b.mono HB0.out.size))
      obtain ⟨v0, v1, v2, v3, v4⟩ := HVB.out.blw HB.out.b
      by_cases hlt : q < l.length
      · obtain ⟨b, o, rfl, hbN, hC⟩ := H.out.cell q hlt
        have hC := hC.keep (HBw.out.block b (by omega))
        have HPt : Hid ((evens l).take (j + 1) = (evens l).take j ++ [l[q]]) := Lib.hid (by
          have hq := HQ.out
          subst hq
          exact evens_take hlt)
        have HJ2 : Hid (j + 1 ≤ (evens l).length) := Lib.hid (by rw [evens_length]; have := HQ.out; omega)
        have hj3 : j ≤ 1048576 := by have h1 := HJ.out; rw [evens_length] at h1; omega
        obtain ⟨T, hT⟩ : ∃ T, T = l[q] := ⟨_, rfl⟩
        rw [← hT] at hC HPt
        clear hT
        obtain ⟨c0, c1, c2, c3, c4⟩ := hC
        have hlt' : (q : Int) < l.length := by omega
        go_wp2_with (refine wpList_append_lies _ (by rfl) _ _ _ (by rfl) W0.heap.size 28 i0 _ 5 64 Try.underlying26 hi hz0 hz1 hz2 rfl (by omega) _ j _ (by rfl) (own_heap HO.out (fun k hk => ((vbox wr _).block k (HO.out.lt k hk).2))) ⟨wr.heap.size, 0, none⟩ 1 1 T.cells (by rfl) (by rfl) (news_of_cells wr T) (cells_one T) (by omega) (by unfold maxLen; omega) (by omega) (by have := HB.out.z; simp; omega) (wr.heap.size + 1) (by simp) ?_)
        intro gg cap2 w3 hown3 hgrow hat hlt3
        have hb3 : Rl W0 w3 := ⟨HB.out.b.trans (below_push hgrow (fun k hk => (HO.out.lt k hk).1) (vbox wr _) HB.out.z), by have h1 := HB.out.z; have h2 := (vbox wr (.cells #[.int .i64 T.k, .int .i64 T.n, .int .i64 T.x, .string ⟨T.s.toArray⟩, .slice T.a T.l.length T.cap] 28)).size; have h3 := hgrow.size; omega⟩
        have HNEW : Hid (w3.ownsRow W0.heap.size 28 5 (.slice (some ⟨gg, 0, none⟩) (j + 1) cap2) (j + 1) (cellsL ((evens l).take (j + 1)))) := Lib.hid (by rw [HPt.out, cellsL_append, cellsL_one]; exact hown3)
        have HB3 := Lib.hid hb3
        clear hown3 hgrow hat hlt3 hb3 c0 c1 c2 c3 c4 v0 v1 v2 v3 v4
        go_wp2
        go_roundw
        case rel => exact ⟨j + 1, some ⟨gg, 0, none⟩, cap2, q + 2, rfl, by go_num, Lib.hid (by have := HQ.out; omega), HJ2, HNEW, HB3⟩
        case measure => simp [intOf]; omega
      · have heq : j = (evens l).length := by have h1 := HJ.out; rw [evens_length] at *; have := HQ.out; omega
        subst heq
        have hnl : ¬ (q : Int) < l.length := by omega
        go_wp2
        go_ret
        refine ⟨a', cap', rfl, ⟨own_base' (by have := HO.out; rwa [List.take_length] at this) hwz, fun t ht => (H.out.sub t (evens_mem ht)).blw HBw.out hN⟩, HBw.out⟩
  · rw [if_neg hk]
    have hkb : (k != 10) = true := by simpa using hk
    go_enter Try.func81, Try.ntmps81
    go_wp2
    go_ret
    exact ⟨some ⟨w.heap.size + 1, 0, none⟩, 0, rfl, ⟨by have := (emptyRow (w.alloc (.cells #[.int .i64 k, .int .i64 n, .int .i64 x, .string ⟨s.toArray⟩, .slice a l.length cap] 28)) w.heap.size (by simp)).row; simpa using this, by simp⟩, two' _ _ _⟩
end Go.Proofs.Ytdjnkcoepmackaa
/- Sorted of the model and of the program. -/
namespace Go.Proofs.Ytdjnkcoepmackaa
open Go.RowKit
set_option maxRecDepth 100000
def asc : List PT → Bool
  | t :: u :: l => t.less u && asc (u :: l)
  | _ => true
theorem asc_one (l : List PT) : asc (l.take 1) = true := by cases l <;> simp [asc]
theorem asc_take (l : List PT) (r : Nat) (h : r + 1 < l.length) : asc (l.take (r + 1 + 1)) = (asc (l.take (r + 1)) && (l[r]).less l[r + 1]) := by
  induction l generalizing r with
  | nil => simp at h
  | cons t l ih =>
    cases l with
    | nil => simp at h
    | cons u l =>
      cases r with
      | zero => simp [asc]
      | succ r =>
        have := ih r (by simpa using h)
        simp only [List.take_succ_cons, asc, List.getElem_cons_succ] at this ⊢
        rw [this, Bool.and_assoc]
theorem asc_false (l : List PT) (r : Nat) (h : r + 1 < l.length) (hf : (l[r]).less l[r + 1] = false) : asc l = false := by
  induction l generalizing r with
  | nil => simp at h
  | cons t l ih =>
    cases l with
    | nil => simp at h
    | cons u l =>
      cases r with
      | zero => simp only [asc]; rw [show t.less u = false by simpa using hf]; rfl
      | succ r =>
        simp only [asc]
        rw [ih r (by simpa using h) (by simpa using hf), Bool.and_false]
theorem names_wf {p : PT} (h : p.Wf) (hsz : p.sz ≤ 1048576) : ∀ q ∈ p.names, q.Wf ∧ q.sz ≤ 1048576 := by
  obtain ⟨k, n, x, s, l⟩ := p
  intro q hq
  simp only [PT.names] at hq
  split at hq
  · have hm := evens_mem hq
    have := sz_mem hm
    simp only [PT.sz] at hsz
    exact ⟨h.sub' q hm, by omega⟩
  · cases hq
set_option maxHeartbeats 2000000 in
theorem sorted_spec (T : AT) (w : World) (N : Nat) (hwf : T.pt.Wf) (hin : T.In w N) (hsz : T.pt.sz ≤ 1048576) (hN : N ≤ w.heap.size) : Calls Try.prog 36 #[T.val] w fun e w' => e = .returned (.bool (asc T.pt.names)) ∧ Below w.heap.size w w' := by
  have HNC := Lib.hid (fun (w1 : World) (hb : Below w.heap.size w w1) => names_spec T w1 N (hin.blw hb hN) (by omega) (Nat.le_trans hN hb.size))
  have HNW : Hid (∀ p ∈ T.pt.names, p.Wf ∧ p.sz ≤ 1048576) := Lib.hid (names_wf hwf hsz)
  obtain ⟨tot, htot⟩ : ∃ tot, tot = asc T.pt.names := ⟨_, rfl⟩
  rw [← htot]
  have HTOT := Lib.hid htot
  clear hin hsz hwf htot
  show Calls Try.prog 36 #[.agg #[.int .i64 T.k, .int .i64 T.n, .int .i64 T.x, .string ⟨T.s.toArray⟩, .slice T.a T.l.length T.cap]] w _
  go_enter Try.func36, Try.ntmps36
  go_wp2_with fail
  have hb0 := vbox w (.cells #[.int .i64 T.k, .int .i64 T.n, .int .i64 T.x, .string ⟨T.s.toArray⟩, .slice T.a T.l.length T.cap] 28)
  refine (HNC.out _ hb0).mono ?_
  rintro e w1 ⟨a1, cap1, ns, hpt, rfl, hown, hnd, hb1⟩
  have HLV := Lib.hid hown.lv
  have HB1 := Lib.hid (hb0.trans (hb1.mono hb0.size))
  have HNP : Hid (AT.ptL ns = T.pt.names) := Lib.hid hpt
  have HCAP : Hid (cap1 ≤ maxLen) := Lib.hid (own_cap hown.row).2.2
  clear hpt hown hnd hb1 hb0
  obtain ⟨p, hp⟩ : ∃ p, p = T.pt.names := ⟨_, rfl⟩
  rw [← hp] at HNP HNW
  have HASC : Hid (tot = asc (AT.ptL ns)) := Lib.hid (by rw [HTOT.out, ← hp, HNP.out])
  have HWF : Hid (∀ t ∈ ns, t.pt.Wf ∧ t.pt.sz ≤ 1048576) := Lib.hid (fun t ht => HNW.out t.pt (by rw [← HNP.out, AT.ptL_eq]; exact List.mem_map_of_mem ht))
  have HLS := Lib.hid (fun (t : AT) (ht : t ∈ ns) (u : AT) (hu : u ∈ ns) (w2 : World) (hb : Below w1.heap.size w1 w2) => lessval_spec t u w2 w1.heap.size (HWF.out t ht).1 (HWF.out u hu).1 ((HLV.out.sub t ht).blw hb (Nat.le_refl _)) ((HLV.out.sub u hu).blw hb (Nat.le_refl _)) hb.size)
  clear hp HNP HNW HTOT HNC
  go_wp2_with fail
  go_loopw [4] (fun i wr => ∃ q : Nat, i = .int .i64 q ∧ 1 ≤ q ∧ (q ≤ ns.length ∨ q = 1) ∧ Hid (asc ((AT.ptL ns).take q) = true) ∧ Hid (Below w1.heap.size w1 wr)) (fun i _ => ns.length + 1 - (intOf i).toNat)
  case atStart => exact ⟨1, rfl, Nat.le_refl _, .inr rfl, Lib.hid (asc_one _), Lib.hid (Below.refl _ _)⟩
  case round =>
    obtain ⟨q, rfl, hq1, hq2, HA, HB⟩ := hrel
    have HBw := Lib.hid (HB1.out.trans (HB.out.mono HB1.out.size))
    by_cases hlt : q < ns.length
    · obtain ⟨r, rfl⟩ : ∃ r, q = r + 1 := ⟨q - 1, by omega⟩
      have hlr : r < ns.length := by omega
      obtain ⟨b, o, rfl, hbN, hC⟩ := HLV.out.cell r hlr
      obtain ⟨b', o', hbo, hbN2, hC2⟩ := HLV.out.cell (r + 1) hlt
      injection hbo with hbo
      injection hbo with e1 e2
      subst e1 e2
      have hC := hC.keep (HB.out.block b hbN)
      have hC2 := hC2.keep (HB.out.block b hbN)
      have hcall := fun w2 hb => HLS.out ns[r] (List.getElem_mem hlr) ns[r + 1] (List.getElem_mem hlt) w2 (HB.out.trans hb)
      have e1 : r + 1 < (AT.ptL ns).length := by rw [AT.ptL_length]; exact hlt
      have hT := asc_take (AT.ptL ns) r e1
      have hF := asc_false (AT.ptL ns) r e1
      rw [ptL_get ns r hlr, ptL_get ns (r + 1) hlt] at hT hF
      obtain ⟨V, hV⟩ : ∃ V, V = ns[r] := ⟨_, rfl⟩
      obtain ⟨V2, hV2⟩ : ∃ V2, V2 = ns[r + 1] := ⟨_, rfl⟩
      rw [← hV] at hC hcall hT hF
      rw [← hV2] at hC2 hcall hT hF
      have HC := Lib.hid hcall
      have HT := Lib.hid hT
      have HF := Lib.hid hF
      obtain ⟨c0, c1, c2, c3, c4⟩ := hC
      obtain ⟨d0, d1, d2, d3, d4⟩ := hC2
      have hi1 : (r : Int) + 1 < ns.length := by omega
      have hi2 : (r : Int) < ns.length := by omega
      have hi3 : (0 : Int) ≤ (r : Int) + 1 := by omega
      have hmx : ns.length ≤ 9223372036854775807 := by have h1 := HLV.out.hc; have h2 := HCAP.out; unfold maxLen at h2; omega
      have hw1 : IntKind.i64.wrap ((r : Int) + 1 - 1) = (r : Int) := by rw [Int.add_sub_cancel]; exact IntWalk.i64_in _ (by omega)
      have hw2 : IntKind.i64.wrap (r : Int) = (r : Int) := IntWalk.i64_in _ (by omega)
      clear hV hV2 hcall hT hF e1
      go_wp2_with fail
      refine wp_region_still_tail 9 (by kernel_rfl) (by kernel_rfl) ?_
      simp only [List.take_succ_cons, List.take_zero, List.drop_succ_cons, List.drop_zero]
      repeat still_step
      refine wpStill_nil ?_
      change wpList _ _ _ _ _ (World.drew _)
      have HBd := Lib.hid ((Below.refl wr.heap.size wr).drew)
      clear c0 c1 c2 c3 c4 d0 d1 d2 d3 d4
      generalize World.drew _ = w2 at *
      go_wp2_with fail
      refine (HC.out _ (HBd.out.mono HB.out.size)).mono ?_
      rintro e w3 ⟨rfl, hb3⟩
      have HB3 := Lib.hid (HB.out.trans ((HBd.out.trans (hb3.mono HBd.out.size)).mono HB.out.size))
      clear hb3
      cases hl : V.pt.less V2.pt
      · have HV : Hid (asc (AT.ptL ns) = false) := Lib.hid (HF.out hl)
        clear hl
        go_wp2
        go_ret
        exact ⟨by rw [HASC.out, HV.out]; try rfl, HB1.out.trans (HB3.out.mono HB1.out.size)⟩
      · have HV : Hid (asc ((AT.ptL ns).take (r + 1 + 1)) = true) := Lib.hid (by rw [HT.out, HA.out, hl]; rfl)
        clear hl
        go_wp2
        go_roundw
        case rel => exact ⟨r + 1 + 1, by go_num, by omega, .inl (by omega), HV, HB3⟩
        case measure => simp [intOf]; omega
    · have HV : Hid (asc (AT.ptL ns) = true) := Lib.hid (by
        have h1 := HA.out
        rwa [List.take_of_length_le (by rw [AT.ptL_length]; omega)] at h1)
      have hnl : ¬ (q : Int) < ns.length := by omega
      go_wp2
      go_ret
      exact ⟨by rw [HASC.out, HV.out]; try rfl, HBw.out⟩
set_option maxHeartbeats 2000000 in
theorem sorted_impl (T : AT) (w : World) (N : Nat) (hwf : T.pt.Wf) (hin : T.In w N) (hsz : T.pt.sz ≤ 1048576) (hN : N ≤ w.heap.size) : Calls Try.prog 35 #[T.val] w fun e w' => e = .returned (.bool (asc T.pt.names)) ∧ Below w.heap.size w w' := by
  have HNC := Lib.hid (fun (w1 : World) (hb : Below w.heap.size w w1) => names_impl T w1 N (hin.blw hb hN) (by have := len_le_sz T; omega) (Nat.le_trans hN hb.size))
  have HNW : Hid (∀ p ∈ T.pt.names, p.Wf ∧ p.sz ≤ 1048576) := Lib.hid (names_wf hwf hsz)
  obtain ⟨tot, htot⟩ : ∃ tot, tot = asc T.pt.names := ⟨_, rfl⟩
  rw [← htot]
  have HTOT := Lib.hid htot
  clear hin hsz hwf htot
  show Calls Try.prog 35 #[.agg #[.int .i64 T.k, .int .i64 T.n, .int .i64 T.x, .string ⟨T.s.toArray⟩, .slice T.a T.l.length T.cap]] w _
  go_enter Try.func35, Try.ntmps35
  go_wp2_with fail
  have hb0 := vbox w (.cells #[.int .i64 T.k, .int .i64 T.n, .int .i64 T.x, .string ⟨T.s.toArray⟩, .slice T.a T.l.length T.cap] 28)
  refine (HNC.out _ hb0).mono ?_
  rintro e w1 ⟨a1, cap1, rfl, hrow, hb1⟩
  have HLV := Lib.hid (hrow.lv (by have := hb1.size; have := hb0.size; omega))
  have HB1 := Lib.hid (hb0.trans (hb1.mono hb0.size))
  have HNP : Hid (AT.ptL T.names = T.pt.names) := Lib.hid (names_pt T)
  have HCAP : Hid (cap1 ≤ maxLen) := Lib.hid (own_cap hrow.row).2.2
  clear hrow hb1 hb0
  generalize T.names = ns at *
  obtain ⟨p, hp⟩ : ∃ p, p = T.pt.names := ⟨_, rfl⟩
  rw [← hp] at HNP HNW
  have HASC : Hid (tot = asc (AT.ptL ns)) := Lib.hid (by rw [HTOT.out, ← hp, HNP.out])
  have HWF : Hid (∀ t ∈ ns, t.pt.Wf ∧ t.pt.sz ≤ 1048576) := Lib.hid (fun t ht => HNW.out t.pt (by rw [← HNP.out, AT.ptL_eq]; exact List.mem_map_of_mem ht))
  have HLS := Lib.hid (fun (t : AT) (ht : t ∈ ns) (u : AT) (hu : u ∈ ns) (w2 : World) (hb : Below w1.heap.size w1 w2) => lessval_impl t u w2 w1.heap.size (HWF.out t ht).1 (HWF.out u hu).1 ((HLV.out.sub t ht).blw hb (Nat.le_refl _)) ((HLV.out.sub u hu).blw hb (Nat.le_refl _)) hb.size (by have := (HWF.out t ht).2; omega))
  clear hp HNP HNW HTOT HNC
  go_wp2_with fail
  go_loopw [4] (fun i wr => ∃ q : Nat, i = .int .i64 q ∧ 1 ≤ q ∧ (q ≤ ns.length ∨ q = 1) ∧ Hid (asc ((AT.ptL ns).take q) = true) ∧ Hid (Below w1.heap.size w1 wr)) (fun i _ => ns.length + 1 - (intOf i).toNat)
  case atStart => exact ⟨1, rfl, Nat.le_refl _, .inr rfl, Lib.hid (asc_one _), Lib.hid (Below.refl _ _)⟩
  case round =>
    obtain ⟨q, rfl, hq1, hq2, HA, HB⟩ := hrel
    have HBw := Lib.hid (HB1.out.trans (HB.out.mono HB1.out.size))
    by_cases hlt : q < ns.length
    · obtain ⟨r, rfl⟩ : ∃ r, q = r + 1 := ⟨q - 1, by omega⟩
      have hlr : r < ns.length := by omega
      obtain ⟨b, o, rfl, hbN, hC⟩ := HLV.out.cell r hlr
      obtain ⟨b', o', hbo, hbN2, hC2⟩ := HLV.out.cell (r + 1) hlt
      injection hbo with hbo
      injection hbo with e1 e2
      subst e1 e2
      have hC := hC.keep (HB.out.block b hbN)
      have hC2 := hC2.keep (HB.out.block b hbN)
      have hcall := fun w2 hb => HLS.out ns[r] (List.getElem_mem hlr) ns[r + 1] (List.getElem_mem hlt) w2 (HB.out.trans hb)
      have e1 : r + 1 < (AT.ptL ns).length := by rw [AT.ptL_length]; exact hlt
      have hT := asc_take (AT.ptL ns) r e1
      have hF := asc_false (AT.ptL ns) r e1
      rw [ptL_get ns r hlr, ptL_get ns (r + 1) hlt] at hT hF
      obtain ⟨V, hV⟩ : ∃ V, V = ns[r] := ⟨_, rfl⟩
      obtain ⟨V2, hV2⟩ : ∃ V2, V2 = ns[r + 1] := ⟨_, rfl⟩
      rw [← hV] at hC hcall hT hF
      rw [← hV2] at hC2 hcall hT hF
      have HC := Lib.hid hcall
      have HT := Lib.hid hT
      have HF := Lib.hid hF
      obtain ⟨c0, c1, c2, c3, c4⟩ := hC
      obtain ⟨d0, d1, d2, d3, d4⟩ := hC2
      have hi1 : (r : Int) + 1 < ns.length := by omega
      have hi2 : (r : Int) < ns.length := by omega
      have hi3 : (0 : Int) ≤ (r : Int) + 1 := by omega
      have hmx : ns.length ≤ 9223372036854775807 := by have h1 := HLV.out.hc; have h2 := HCAP.out; unfold maxLen at h2; omega
      have hw1 : IntKind.i64.wrap ((r : Int) + 1 - 1) = (r : Int) := by rw [Int.add_sub_cancel]; exact IntWalk.i64_in _ (by omega)
      have hw2 : IntKind.i64.wrap (r : Int) = (r : Int) := IntWalk.i64_in _ (by omega)
      clear hV hV2 hcall hT hF e1
      go_wp2_with fail
      refine wp_region_still_tail 9 (by kernel_rfl) (by kernel_rfl) ?_
      simp only [List.take_succ_cons, List.take_zero, List.drop_succ_cons, List.drop_zero]
      repeat still_step
      refine wpStill_nil ?_
      change wpList _ _ _ _ _ (World.drew _)
      have HBd := Lib.hid ((Below.refl wr.heap.size wr).drew)
      clear c0 c1 c2 c3 c4 d0 d1 d2 d3 d4
      generalize World.drew _ = w2 at *
      go_wp2_with fail
      refine (HC.out _ (HBd.out.mono HB.out.size)).mono ?_
      rintro e w3 ⟨rfl, hb3⟩
      have HB3 := Lib.hid (HB.out.trans ((HBd.out.trans (hb3.mono HBd.out.size)).mono HB.out.size))
      clear hb3
      cases hl : V.pt.less V2.pt
      · have HV : Hid (asc (AT.ptL ns) = false) := Lib.hid (HF.out hl)
        clear hl
        go_wp2
        go_ret
        exact ⟨by rw [HASC.out, HV.out]; try rfl, HB1.out.trans (HB3.out.mono HB1.out.size)⟩
      · have HV : Hid (asc ((AT.ptL ns).take (r + 1 + 1)) = true) := Lib.hid (by rw [HT.out, HA.out, hl]; rfl)
        clear hl
        go_wp2
        go_roundw
        case rel => exact ⟨r + 1 + 1, by go_num, by omega, .inl (by omega), HV, HB3⟩
        case measure => simp [intOf]; omega
    · have HV : Hid (asc (AT.ptL ns) = true) := Lib.hid (by
        have h1 := HA.out
        rwa [List.take_of_length_le (by rw [AT.ptL_length]; omega)] at h1)
      have hnl : ¬ (q : Int) < ns.length := by omega
      go_wp2
      go_ret
      exact ⟨by rw [HASC.out, HV.out]; try rfl, HBw.out⟩
end Go.Proofs.Ytdjnkcoepmackaa
