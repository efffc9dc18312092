import Derived.Test.YtdjnkcoepmackaaG29
import Derived.Test.YtdjnkcoepmackaaG10
import Derived.Deep.Cut
/- l8Paths and AllPaths of the model. -/
namespace Go.Proofs.Ytdjnkcoepmackaa
open Go.RowKit
set_option maxRecDepth 100000
/-- paths in rows of their own, in a row that is no nil -/
def NewP (w : World) (L : List (List St)) (e : Ending) (w' : World) : Prop := ∃ (g cap' : Nat) (lr : List SR), lr.map SR.l = L ∧ e = .returned (.slice (some ⟨g, 0, none⟩) lr.length cap') ∧ OwnP w' w.heap.size (some ⟨g, 0, none⟩) cap' lr ∧ (g :: blksP lr).Nodup ∧ Below w.heap.size w w'
theorem OwnP.grow {W w' : World} {row : Option Nat} {B : Nat} {a : Option Addr} {cap : Nat} {l : List SR} (h : OwnP W B a cap l) (hg : W.grownBy w' row) (hr : ∀ k, row = some k → k ∉ (a.map (·.block)).toList ++ blksP l) : OwnP w' B a cap l :=
  ⟨own_heap h.row fun g hgg => hg.block g (h.row.lt g hgg).2 (fun e => hr g e.symm (by rw [List.mem_append]; exact .inl (by rw [ownBlock_slice] at hgg; simp [hgg]))),
   fun P hP => (h.sub P hP).kept fun k hk => hg.block k ((h.sub P hP).lt k hk).2 (fun e => hr k e.symm (by rw [List.mem_append]; exact .inr (mem_blksP.2 ⟨P, hP, hk⟩)))⟩
theorem own_form {w : World} {B E c n : Nat} {v : Value} {xs : List Value} (h : w.ownsRow B E c v n xs) : ∃ a cap, v = .slice a n cap ∧ n ≤ cap := by
  rcases h.2 with ⟨rfl, rfl⟩ | ⟨g, cap, cur, rfl, _, _, hc, _⟩
  · exact ⟨none, 0, rfl, Nat.le_refl _⟩
  · exact ⟨_, cap, rfl, hc⟩
theorem one_path (w w7 : World) (K : Nat) (P : SR) (h : P.Own w7 K) (hK : K ≤ w7.heap.size) : OwnP (w7.alloc (.cells #[P.val] 99)) K (some ⟨w7.heap.size, 0, none⟩) 1 [P] ∧ (w7.heap.size :: blksP [P]).Nodup := by
  have hn : P.blks.Nodup := by obtain ⟨a, cap, l⟩ := P; cases a <;> simp [SR.blks]
  refine ⟨⟨⟨rfl, .inr ⟨w7.heap.size, 1, #[P.val], rfl, hK, heap_alloc_new w7 _, Nat.le_refl _, by unfold maxLen; omega, rfl, rfl⟩⟩, fun Q hQ => ?_⟩, ?_⟩
  · obtain rfl : Q = P := by simpa using hQ
    exact h.blw (vbox w7 _)
  · have : blksP [P] = P.blks := by simp [blksP]
    rw [this, List.nodup_cons]
    exact ⟨fun hm => by have := (h.lt _ hm).2; omega, hn⟩
theorem meas_step2 {l i : Nat} (h8 : i + 1 ≤ l) : l - (i + 1) < l - i := by omega
/-- the head of l8Paths's loop -/
structure PathsAt (w wr : World) (k : Int) (a : Option Addr) (len cap : Nat) (g cap' : Nat) (lr : List SR) : Prop where
  c0 : wr.cell? ⟨w.heap.size, 0, none⟩ = some (.int .i64 k)
  c4 : wr.cell? ⟨w.heap.size, 4, none⟩ = some (.slice a len cap)
  own : OwnP wr (w.heap.size + 1) (some ⟨g, 0, none⟩) cap' lr
  nd : (g :: blksP lr).Nodup
  rl : Rl w wr
theorem deep_mem : ∀ (l : List PT) (j : Nat) (h : j < l.length), (l[j]).deep ≤ PT.deepL l
  | t :: l, 0, _ => by simp only [List.getElem_cons_zero, PT.deepL]; omega
  | t :: l, j + 1, h => by
    have := deep_mem l j (by simpa using h)
    simp only [List.getElem_cons_succ, PT.deepL]; omega
theorem box_at (w : World) (u0 u1 u2 u3 u4 : Value) (t : TypeId) : (w.alloc (.cells #[u0, u1, u2, u3, u4] t)).cell? ⟨w.heap.size, 0, none⟩ = some u0 ∧ (w.alloc (.cells #[u0, u1, u2, u3, u4] t)).cell? ⟨w.heap.size, 4, none⟩ = some u4 := by
  constructor <;> simp [go_sem]
theorem PathsAt.start (w w7 : World) (k n x : Int) (s : ByteArray) (a : Option Addr) (len cap : Nat) (P : SR) (hb : Rl (w.alloc (.cells #[.int .i64 k, .int .i64 n, .int .i64 x, .string s, .slice a len cap] 28)) w7) (h : P.Own w7 (w.heap.size + 1)) : PathsAt w (w7.alloc (.cells #[P.val] 99)) k a len cap w7.heap.size 1 [P] := by
  have hz := hb.z
  have h1 := one_path w w7 (w.heap.size + 1) P h (by simpa using hz)
  have hx := box_at w (.int .i64 k) (.int .i64 n) (.int .i64 x) (.string s) (.slice a len cap) 28
  exact ⟨keep_alloc (keep_below hb.b hx.1), keep_alloc (keep_below hb.b hx.2), h1.1, h1.2, ⟨((vbox w _).trans (hb.b.mono (by simp))).alloc (by simp at hz; omega) _, by simp at hz ⊢; omega⟩⟩
theorem PathsAt.push {w wr W w6 : World} {k : Int} {a : Option Addr} {len cap g cap' gg cap2 K : Nat} {lr l2 : List SR} (h : PathsAt w wr k a len cap g cap' lr) (hR : Rl wr W) (h2 : ∀ P ∈ l2, P.Own W K) (hK : wr.heap.size ≤ K) (hnd : (blksP l2).Nodup)
    (hown : w6.ownsRow (w.heap.size + 1) 99 1 (.slice (some ⟨gg, 0, none⟩) (lr.length + l2.length) cap2) (lr.length + l2.length) (cellsP lr ++ cellsP l2)) (hgrow : W.grownBy w6 (Value.slice (some ⟨g, 0, none⟩) lr.length cap').ownBlock) (hat : (Value.slice (some ⟨g, 0, none⟩) lr.length cap').ownBlock = some gg ∨ gg = W.heap.size) :
    PathsAt w w6 k a len cap gg cap2 (lr ++ l2) := by
  have hz := h.rl.z
  have hg := (h.own.lt g (by simp)).1
  have hlw : w.heap.size < wr.heap.size := by have := (h.own.lt g (by simp)).2; omega
  have hrow : ∀ j, (Value.slice (some (⟨g, 0, none⟩ : Addr)) lr.length cap').ownBlock = some j → w.heap.size + 1 ≤ j := fun j hj => by
    simp [Value.ownBlock] at hj; omega
  obtain ⟨h3, h4⟩ := paths_push (h.own.blw hR.b) h.nd (fun P hP => (h2 P hP).base (by omega)) hnd (fun k hk hk2 => by
    obtain ⟨P, hP, hk⟩ := mem_blksP.1 hk
    have e1 := ((h2 P hP).lt k hk).1
    have e2 := (h.own.lt k hk2).2
    omega) hown hgrow hat
  exact ⟨grow_cell (keep_below hR.b h.c0) hgrow (fun e => by have := hrow _ e.symm; simp at this; omega), grow_cell (keep_below hR.b h.c4) hgrow (fun e => by have := hrow _ e.symm; simp at this; omega), h3, h4, (h.rl.below hR.b).grow hgrow (fun j hj => by have := hrow j hj; omega)⟩
set_option maxHeartbeats 4000000 in
theorem paths_of (k n x : Int) (s : List UInt8) (a : Option Addr) (cap : Nat) (l : List AT) (ih : ∀ t ∈ l, ∀ (w : World) (N b o m cp : Nat) (p : List St), m = p.length → t.In w N → SAt w N (some ⟨b, o, none⟩) cp p → N ≤ w.heap.size → p.length + t.pt.deep ≤ 2000000 → t.pt.cnt ≤ 1048576 → Calls Try.prog 102 #[t.val, .slice (some ⟨b, o, none⟩) m cp] w (NewP w (t.pt.paths p)))
    (w : World) (N b o m cp : Nat) (p : List St) (hm : m = p.length) (h : Lv w N a cap l) (hp : SAt w N (some ⟨b, o, none⟩) cp p) (hN : N ≤ w.heap.size) (hd : p.length + (AT.mk k n x s a cap l).pt.deep ≤ 2000000) (hc : (AT.mk k n x s a cap l).pt.cnt ≤ 1048576) :
    Calls Try.prog 102 #[(AT.mk k n x s a cap l).val, .slice (some ⟨b, o, none⟩) m cp] w (NewP w ((AT.mk k n x s a cap l).pt.paths p)) := by
  subst hm
  obtain ⟨i0, hi, hz0, hz1, hz2⟩ := info_parts stepInfo
  obtain ⟨j0, hj, hy0, hy1, hy2⟩ := info_parts pathInfo
  have H := Lib.hid h
  have IH := Lib.hid ih
  have HP := Lib.hid hp
  have HB : Hid (p.length + 1 + PT.deepL (AT.ptL l) ≤ 2000000 ∧ PT.cntL (AT.ptL l) + 1 ≤ 1048576) := Lib.hid (by
    simp only [AT.pt, PT.deep, PT.cnt] at hd hc; omega)
  have HLEN : Hid (l.length ≤ 1048576) := Lib.hid (by
    have h1 := HB.out.2
    have : ∀ m : List AT, m.length ≤ PT.cntL (AT.ptL m) := fun m => by
      induction m with
      | nil => simp
      | cons t m ih3 =>
        have h3 : 0 < t.pt.cnt := by obtain ⟨_, _, _, _, _, _, _⟩ := t; simp [AT.pt, PT.cnt]
        simp only [AT.ptL, PT.cntL, List.length_cons]; omega
    have := this l; omega)
  have HW := Lib.hid hN
  clear h ih hp hd hc hN
  have hR0 := Rl.refl w
  show Calls Try.prog 102 #[.agg #[.int .i64 k, .int .i64 n, .int .i64 x, .string ⟨s.toArray⟩, .slice a l.length cap], .slice (some ⟨b, o, none⟩) p.length cp] w _
  go_enter Try.func102, Try.ntmps102
  go_wp2_with (refine wpList_append_own _ (by rfl) _ _ _ (by rfl) (w.heap.size + 1) 105 i0 _ 2 16 Try.underlying48 hi hz0 hz1 hz2 rfl (by omega) (.slice (some ⟨w.heap.size + 1, 0, none⟩) 0 0) 0 [] (by rfl) (by (repeat (first | with_reducible exact emp_at (by simp) (by omega) | with_reducible refine own_drew' ?_ | with_reducible refine own_alloc' ?_))) ⟨b, o, none⟩ p.length cp (stv p) (by rfl) (by simp) ?news (sv_one' p) (by have := HB.out; unfold maxLen; omega) (by have := HB.out; omega) ?base ?_)
  case news => exact (HP.out.below (Rl.b (by (repeat (first | with_reducible exact hR0 | with_reducible refine Rl.drew ?_ | with_reducible refine Rl.alloc ?_ _)))) HW.out).news
  case base => simp
  intro v7 w7 hown7 hgrow7 hn7
  obtain ⟨a7, cap7, rfl, hc7⟩ := own_form hown7
  have HST := Lib.hid (PathsAt.start w w7 k n x ⟨s.toArray⟩ a l.length cap ⟨a7, cap7, p⟩ (Rl.grow (by (repeat (first | with_reducible exact Rl.refl _ | with_reducible refine Rl.drew ?_ | with_reducible refine Rl.alloc ?_ _))) hgrow7 (by intro k hk; simp [Value.ownBlock] at hk; simp; omega)) (by show OwnS w7 _ a7 cap7 p; unfold OwnS; simpa using hown7))
  clear hown7 hgrow7 hn7 hc7
  go_wp2_with fail
  go_loopw [5, 6] (fun v i wr => ∃ (i' g cap' : Nat) (lr : List SR), v = .slice (some ⟨g, 0, none⟩) lr.length cap' ∧ i = .int .i64 i' ∧ i' ≤ l.length ∧ lr.map SR.l = p :: PT.pathsL k 0 ((AT.ptL l).take i') p ∧ Hid (PathsAt w wr k a l.length cap g cap' lr)) (fun _ i _ => l.length - (intOf i).toNat)
  case atStart => exact ⟨0, _, _, [⟨a7, cap7, p⟩], rfl, rfl, Nat.zero_le _, by simp [PT.pathsL], HST.out⟩
  case round =>
    obtain ⟨i', g, cap', lr, rfl, rfl, hi', hlr, HA⟩ := hrel
    have HLR := Lib.hid hlr
    clear hlr
    have c0 := HA.out.c0
    have c4 := HA.out.c4
    by_cases hlt : i' < l.length
    · obtain ⟨be, oe, rfl, hbN, hC⟩ := H.out.cell i' hlt
      have hb0 := HA.out.rl.b
      have hC := hC.keep (hb0.block be (by have := HW.out; omega))
      have HC := Lib.hid (fun (W : World) (hR : Rl w W) (b o m cp : Nat) (q : List St) (hm : m = q.length) (hq : SAt W W.heap.size (some ⟨b, o, none⟩) cp q) => IH.out l[i'] (List.getElem_mem hlt) W W.heap.size b o m cp q hm (((H.out.sub _ (List.getElem_mem hlt)).blw hR.b HW.out).mono (Nat.le_trans HW.out hR.z)) hq (Nat.le_refl _))
      have HPt : Hid (PT.pathsL k 0 ((AT.ptL l).take (i' + 1)) p = PT.pathsL k 0 ((AT.ptL l).take i') p ++ (l[i']).pt.paths (p ++ [stepAt k i'])) := Lib.hid (by
        rw [pathsL_take k p (AT.ptL l) i' 0 (by simpa using hlt), Nat.zero_add]; simp [AT.ptL_eq])
      have HD : Hid ((l[i']).pt.deep ≤ PT.deepL (AT.ptL l) ∧ PT.cntL ((AT.ptL l).take i') + (l[i']).pt.cnt ≤ PT.cntL (AT.ptL l)) := Lib.hid (by
        have hlt' : i' < (AT.ptL l).length := by simpa using hlt
        have e : (AT.ptL l)[i'] = (l[i']).pt := by simp [AT.ptL_eq]
        have h1 := deep_mem (AT.ptL l) i' hlt'
        have h2 := cntL_take (AT.ptL l) i' hlt'
        have h3 := cntL_take_le (AT.ptL l) (i' + 1)
        rw [e] at h1 h2
        omega)
      have HLN : Hid (lr.length = 1 + PT.cntL ((AT.ptL l).take i')) := Lib.hid (by
        have := congrArg List.length HLR.out
        rw [List.length_map, List.length_cons, pathsL_len] at this; omega)
      obtain ⟨T, hT⟩ : ∃ T, T = l[i'] := ⟨_, rfl⟩
      rw [← hT] at hC HC HPt HD
      clear hT
      obtain ⟨d0, d1, d2, d3, d4⟩ := hC
      have hR1 := Rl.refl wr
      have hgl := HA.out.own.lt g (by simp)
      have hlw : w.heap.size < wr.heap.size := by omega
      have hbe : be < wr.heap.size := by have := HW.out; omega
      have wr2 : (i' : Int).tmod 2 = ((i' % 2 : Nat) : Int) := by rw [Int.tmod_eq_emod_of_nonneg (by omega)]; omega
      have HI : Hid (i' + 1 ≤ l.length) := Lib.hid hlt
      have hlen := HLEN.out
      have w64 : wrap64 ((i' : Int) / 2) = ((i' / 2 : Nat) : Int) := by have := HLEN.out; unfold wrap64; omega
      have HCP : Hid (0 < T.pt.cnt) := Lib.hid (by obtain ⟨_, _, _, _, _, _, _⟩ := T; simp [AT.pt, PT.cnt])
      by_cases hk : k = 10
      · subst hk
        rcases Nat.mod_two_eq_zero_or_one i' with hpar | hpar
        · have HS : Hid (stepAt 10 i' = ((i' : Int) / 2, true)) := Lib.hid (by unfold stepAt; rw [if_pos rfl, hpar]; exact Prod.ext (by show (((i' / 2 : Nat)) : Int) = _; omega) rfl)
          rw [hpar] at wr2
          go_upto_region 8 with fail
          go_region_law ((first
            | (go_simp; go_at_call 148; refine (steps_any b o cp p _ _ _ N (HP.out.below (HA.out.rl.below (Rl.b (by (repeat (first | with_reducible exact hR5 | with_reducible exact hR4 | with_reducible exact hR1 | with_reducible refine Rl.drew ?_ | with_reducible refine Rl.alloc ?_ _ | with_reducible refine Rl.set ?_ (Nat.le_refl _) _))))).b HW.out) (Nat.le_trans HW.out (HA.out.rl.below (Rl.b (by (repeat (first | with_reducible exact hR5 | with_reducible exact hR4 | with_reducible exact hR1 | with_reducible refine Rl.drew ?_ | with_reducible refine Rl.alloc ?_ _ | with_reducible refine Rl.set ?_ (Nat.le_refl _) _))))).z) (by have := HB.out; omega)).mono ?_; rintro e w4 ⟨g4, cap4, rfl, ho4, hb4⟩; have hR4 : Rl wr w4 := Rl.below (by (repeat (first | with_reducible exact hR5 | with_reducible exact hR4 | with_reducible exact hR1 | with_reducible refine Rl.drew ?_ | with_reducible refine Rl.alloc ?_ _ | with_reducible refine Rl.set ?_ (Nat.le_refl _) _))) hb4; have hR44 := Rl.refl w4; have e4 := keep_below hR4.b c4; have f0 := keep_below hR4.b d0; have f1 := keep_below hR4.b d1; have f2 := keep_below hR4.b d2; have f3 := keep_below hR4.b d3; have f4 := keep_below hR4.b d4; dsimp only)
            | (go_simp; go_at_call 102; refine (HC.out _ (HA.out.rl.below (Rl.b (by (repeat (first | with_reducible exact hR5 | with_reducible exact hR4 | with_reducible exact hR1 | with_reducible refine Rl.drew ?_ | with_reducible refine Rl.alloc ?_ _ | with_reducible refine Rl.set ?_ (Nat.le_refl _) _))))) g4 0 _ cap4 _ (by simp; done) (ho4.blw (Rl.b (by (repeat (first | with_reducible exact hR44 | with_reducible refine Rl.drew ?_ | with_reducible refine Rl.alloc ?_ _))))).sat ?bd1 ?bd2).mono ?_; (case bd1 => (have := HB.out; have := HD.out; simp; omega)); (case bd2 => (have := HB.out; have := HD.out; omega)); rintro e w5 ⟨g5, cap5, l5, hl5, rfl, ho5, hn5, hb5⟩; have hR5 : Rl wr w5 := Rl.below (by (repeat (first | with_reducible exact hR5 | with_reducible exact hR4 | with_reducible exact hR1 | with_reducible refine Rl.drew ?_ | with_reducible refine Rl.alloc ?_ _ | with_reducible refine Rl.set ?_ (Nat.le_refl _) _))) hb5; have hR55 := Rl.refl w5; have ho5 := OwnP.base ho5 (Rl.z (W0 := wr) (by (repeat (first | with_reducible exact hR5 | with_reducible exact hR4 | with_reducible exact hR1 | with_reducible refine Rl.drew ?_ | with_reducible refine Rl.alloc ?_ _ | with_reducible refine Rl.set ?_ (Nat.le_refl _) _)))); have hl5' : Hid (l5.length = T.pt.cnt) := Lib.hid (by have := congrArg List.length hl5; rw [List.length_map, paths_len] at this; exact this); have HL5 := Lib.hid hl5; clear hl5; dsimp only)
            | (refine step_append_lies _ (by rfl) _ _ _ (by rfl) (w.heap.size + 1) 99 j0 _ 1 24 Try.underlying44 hj hy0 hy1 hy2 rfl (by omega) (.slice (some ⟨g, 0, none⟩) lr.length cap') lr.length (cellsP lr) (by rfl) (own_heap HA.out.own.row (fun k hk => (Rl.b (W0 := wr) (by (repeat (first | with_reducible exact hR5 | with_reducible exact hR4 | with_reducible exact hR1 | with_reducible refine Rl.drew ?_ | with_reducible refine Rl.alloc ?_ _ | with_reducible refine Rl.set ?_ (Nat.le_refl _) _)))).block k (HA.out.own.row.lt k hk).2)) ⟨g5, 0, none⟩ l5.length cap5 (cellsP l5) (by rfl) (by simp) ((ho5.blw (Rl.b (by (repeat (first | with_reducible exact hR55 | with_reducible refine Rl.drew ?_ | with_reducible refine Rl.alloc ?_ _))))).row.cells (g := g5) rfl) (cellsP_one l5) (by have := hl5'.out; have := HCP.out; omega) (by have := hl5'.out; have := HB.out; have := HD.out; have := HLN.out; unfold maxLen; omega) (by have := hl5'.out; have := HB.out; have := HD.out; have := HLN.out; omega) (Nat.le_trans (Nat.succ_le_of_lt hlw) (Rl.z (W0 := wr) (by (repeat (first | with_reducible exact hR5 | with_reducible exact hR4 | with_reducible exact hR1 | with_reducible refine Rl.drew ?_ | with_reducible refine Rl.alloc ?_ _ | with_reducible refine Rl.set ?_ (Nat.le_refl _) _))))) _ (by rfl) ?_; intro gg cap6 w6 hown6 hgrow6 hat6 hlt6; have HA2 := Lib.hid (PathsAt.push HA.out (by (repeat (first | with_reducible exact hR5 | with_reducible exact hR4 | with_reducible exact hR1 | with_reducible refine Rl.drew ?_ | with_reducible refine Rl.alloc ?_ _ | with_reducible refine Rl.set ?_ (Nat.le_refl _) _))) (ho5.blw (Rl.b (by (repeat (first | with_reducible exact hR55 | with_reducible refine Rl.drew ?_ | with_reducible refine Rl.alloc ?_ _))))).sub (Nat.le_refl _) (List.nodup_cons.1 hn5).2 hown6 hgrow6 hat6))))
          all_goals
            clear w64 wr2 hlw hbe hown6 hgrow6 hat6 hlt6 hb5 ho5 hn5 hR5 hR55 hb4 ho4 hR4 hR44 e4 f0 f1 f2 f3 f4 c0 c4 d0 d1 d2 d3 d4 HA hgl
            go_wp2
            go_roundw
            case rel => exact ⟨i' + 1, gg, cap6, lr ++ l5, by rw [List.length_append], by go_num, HI.out, by rw [List.map_append, HLR.out, HL5.out, List.cons_append, HPt.out, HS.out], HA2⟩
            case measure => (simp [intOf]; exact meas_step2 HI.out)
        · have HS : Hid (stepAt 10 i' = ((i' : Int) / 2, false)) := Lib.hid (by unfold stepAt; rw [if_pos rfl, hpar]; exact Prod.ext (by show (((i' / 2 : Nat)) : Int) = _; omega) rfl)
          rw [hpar] at wr2
          go_upto_region 8 with fail
          go_region_law ((first
            | (go_simp; go_at_call 148; refine (steps_any b o cp p _ _ _ N (HP.out.below (HA.out.rl.below (Rl.b (by (repeat (first | with_reducible exact hR5 | with_reducible exact hR4 | with_reducible exact hR1 | with_reducible refine Rl.drew ?_ | with_reducible refine Rl.alloc ?_ _ | with_reducible refine Rl.set ?_ (Nat.le_refl _) _))))).b HW.out) (Nat.le_trans HW.out (HA.out.rl.below (Rl.b (by (repeat (first | with_reducible exact hR5 | with_reducible exact hR4 | with_reducible exact hR1 | with_reducible refine Rl.drew ?_ | with_reducible refine Rl.alloc ?_ _ | with_reducible refine Rl.set ?_ (Nat.le_refl _) _))))).z) (by have := HB.out; omega)).mono ?_; rintro e w4 ⟨g4, cap4, rfl, ho4, hb4⟩; have hR4 : Rl wr w4 := Rl.below (by (repeat (first | with_reducible exact hR5 | with_reducible exact hR4 | with_reducible exact hR1 | with_reducible refine Rl.drew ?_ | with_reducible refine Rl.alloc ?_ _ | with_reducible refine Rl.set ?_ (Nat.le_refl _) _))) hb4; have hR44 := Rl.refl w4; have e4 := keep_below hR4.b c4; have f0 := keep_below hR4.b d0; have f1 := keep_below hR4.b d1; have f2 := keep_below hR4.b d2; have f3 := keep_below hR4.b d3; have f4 := keep_below hR4.b d4; dsimp only)
            | (go_simp; go_at_call 102; refine (HC.out _ (HA.out.rl.below (Rl.b (by (repeat (first | with_reducible exact hR5 | with_reducible exact hR4 | with_reducible exact hR1 | with_reducible refine Rl.drew ?_ | with_reducible refine Rl.alloc ?_ _ | with_reducible refine Rl.set ?_ (Nat.le_refl _) _))))) g4 0 _ cap4 _ (by simp; done) (ho4.blw (Rl.b (by (repeat (first | with_reducible exact hR44 | with_reducible refine Rl.drew ?_ | with_reducible refine Rl.alloc ?_ _))))).sat ?bd1 ?bd2).mono ?_; (case bd1 => (have := HB.out; have := HD.out; simp; omega)); (case bd2 => (have := HB.out; have := HD.out; omega)); rintro e w5 ⟨g5, cap5, l5, hl5, rfl, ho5, hn5, hb5⟩; have hR5 : Rl wr w5 := Rl.below (by (repeat (first | with_reducible exact hR5 | with_reducible exact hR4 | with_reducible exact hR1 | with_reducible refine Rl.drew ?_ | with_reducible refine Rl.alloc ?_ _ | with_reducible refine Rl.set ?_ (Nat.le_refl _) _))) hb5; have hR55 := Rl.refl w5; have ho5 := OwnP.base ho5 (Rl.z (W0 := wr) (by (repeat (first | with_reducible exact hR5 | with_reducible exact hR4 | with_reducible exact hR1 | with_reducible refine Rl.drew ?_ | with_reducible refine Rl.alloc ?_ _ | with_reducible refine Rl.set ?_ (Nat.le_refl _) _)))); have hl5' : Hid (l5.length = T.pt.cnt) := Lib.hid (by have := congrArg List.length hl5; rw [List.length_map, paths_len] at this; exact this); have HL5 := Lib.hid hl5; clear hl5; dsimp only)
            | (refine step_append_lies _ (by rfl) _ _ _ (by rfl) (w.heap.size + 1) 99 j0 _ 1 24 Try.underlying44 hj hy0 hy1 hy2 rfl (by omega) (.slice (some ⟨g, 0, none⟩) lr.length cap') lr.length (cellsP lr) (by rfl) (own_heap HA.out.own.row (fun k hk => (Rl.b (W0 := wr) (by (repeat (first | with_reducible exact hR5 | with_reducible exact hR4 | with_reducible exact hR1 | with_reducible refine Rl.drew ?_ | with_reducible refine Rl.alloc ?_ _ | with_reducible refine Rl.set ?_ (Nat.le_refl _) _)))).block k (HA.out.own.row.lt k hk).2)) ⟨g5, 0, none⟩ l5.length cap5 (cellsP l5) (by rfl) (by simp) ((ho5.blw (Rl.b (by (repeat (first | with_reducible exact hR55 | with_reducible refine Rl.drew ?_ | with_reducible refine Rl.alloc ?_ _))))).row.cells (g := g5) rfl) (cellsP_one l5) (by have := hl5'.out; have := HCP.out; omega) (by have := hl5'.out; have := HB.out; have := HD.out; have := HLN.out; unfold maxLen; omega) (by have := hl5'.out; have := HB.out; have := HD.out; have := HLN.out; omega) (Nat.le_trans (Nat.succ_le_of_lt hlw) (Rl.z (W0 := wr) (by (repeat (first | with_reducible exact hR5 | with_reducible exact hR4 | with_reducible exact hR1 | with_reducible refine Rl.drew ?_ | with_reducible refine Rl.alloc ?_ _ | with_reducible refine Rl.set ?_ (Nat.le_refl _) _))))) _ (by rfl) ?_; intro gg cap6 w6 hown6 hgrow6 hat6 hlt6; have HA2 := Lib.hid (PathsAt.push HA.out (by (repeat (first | with_reducible exact hR5 | with_reducible exact hR4 | with_reducible exact hR1 | with_reducible refine Rl.drew ?_ | with_reducible refine Rl.alloc ?_ _ | with_reducible refine Rl.set ?_ (Nat.le_refl _) _))) (ho5.blw (Rl.b (by (repeat (first | with_reducible exact hR55 | with_reducible refine Rl.drew ?_ | with_reducible refine Rl.alloc ?_ _))))).sub (Nat.le_refl _) (List.nodup_cons.1 hn5).2 hown6 hgrow6 hat6))))
          all_goals
            clear w64 wr2 hlw hbe hown6 hgrow6 hat6 hlt6 hb5 ho5 hn5 hR5 hR55 hb4 ho4 hR4 hR44 e4 f0 f1 f2 f3 f4 c0 c4 d0 d1 d2 d3 d4 HA hgl
            go_wp2
            go_roundw
            case rel => exact ⟨i' + 1, gg, cap6, lr ++ l5, by rw [List.length_append], by go_num, HI.out, by rw [List.map_append, HLR.out, HL5.out, List.cons_append, HPt.out, HS.out], HA2⟩
            case measure => (simp [intOf]; exact meas_step2 HI.out)
      · have HS : Hid (stepAt k i' = ((i' : Int), false)) := Lib.hid (by unfold stepAt; rw [if_neg hk])
        go_upto_region 8 with fail
        go_region_law ((first
          | (go_simp; go_at_call 148; refine (steps_any b o cp p _ _ _ N (HP.out.below (HA.out.rl.below (Rl.b (by (repeat (first | with_reducible exact hR5 | with_reducible exact hR4 | with_reducible exact hR1 | with_reducible refine Rl.drew ?_ | with_reducible refine Rl.alloc ?_ _ | with_reducible refine Rl.set ?_ (Nat.le_refl _) _))))).b HW.out) (Nat.le_trans HW.out (HA.out.rl.below (Rl.b (by (repeat (first | with_reducible exact hR5 | with_reducible exact hR4 | with_reducible exact hR1 | with_reducible refine Rl.drew ?_ | with_reducible refine Rl.alloc ?_ _ | with_reducible refine Rl.set ?_ (Nat.le_refl _) _))))).z) (by have := HB.out; omega)).mono ?_; rintro e w4 ⟨g4, cap4, rfl, ho4, hb4⟩; have hR4 : Rl wr w4 := Rl.below (by (repeat (first | with_reducible exact hR5 | with_reducible exact hR4 | with_reducible exact hR1 | with_reducible refine Rl.drew ?_ | with_reducible refine Rl.alloc ?_ _ | with_reducible refine Rl.set ?_ (Nat.le_refl _) _))) hb4; have hR44 := Rl.refl w4; have e4 := keep_below hR4.b c4; have f0 := keep_below hR4.b d0; have f1 := keep_below hR4.b d1; have f2 := keep_below hR4.b d2; have f3 := keep_below hR4.b d3; have f4 := keep_below hR4.b d4; dsimp only)
          | (go_simp; go_at_call 102; refine (HC.out _ (HA.out.rl.below (Rl.b (by (repeat (first | with_reducible exact hR5 | with_reducible exact hR4 | with_reducible exact hR1 | with_reducible refine Rl.drew ?_ | with_reducible refine Rl.alloc ?_ _ | with_reducible refine Rl.set ?_ (Nat.le_refl _) _))))) g4 0 _ cap4 _ (by simp; done) (ho4.blw (Rl.b (by (repeat (first | with_reducible exact hR44 | with_reducible refine Rl.drew ?_ | with_reducible refine Rl.alloc ?_ _))))).sat ?bd1 ?bd2).mono ?_; (case bd1 => (have := HB.out; have := HD.out; simp; omega)); (case bd2 => (have := HB.out; have := HD.out; omega)); rintro e w5 ⟨g5, cap5, l5, hl5, rfl, ho5, hn5, hb5⟩; have hR5 : Rl wr w5 := Rl.below (by (repeat (first | with_reducible exact hR5 | with_reducible exact hR4 | with_reducible exact hR1 | with_reducible refine Rl.drew ?_ | with_reducible refine Rl.alloc ?_ _ | with_reducible refine Rl.set ?_ (Nat.le_refl _) _))) hb5; have hR55 := Rl.refl w5; have ho5 := OwnP.base ho5 (Rl.z (W0 := wr) (by (repeat (first | with_reducible exact hR5 | with_reducible exact hR4 | with_reducible exact hR1 | with_reducible refine Rl.drew ?_ | with_reducible refine Rl.alloc ?_ _ | with_reducible refine Rl.set ?_ (Nat.le_refl _) _)))); have hl5' : Hid (l5.length = T.pt.cnt) := Lib.hid (by have := congrArg List.length hl5; rw [List.length_map, paths_len] at this; exact this); have HL5 := Lib.hid hl5; clear hl5; dsimp only)
          | (refine step_append_lies _ (by rfl) _ _ _ (by rfl) (w.heap.size + 1) 99 j0 _ 1 24 Try.underlying44 hj hy0 hy1 hy2 rfl (by omega) (.slice (some ⟨g, 0, none⟩) lr.length cap') lr.length (cellsP lr) (by rfl) (own_heap HA.out.own.row (fun k hk => (Rl.b (W0 := wr) (by (repeat (first | with_reducible exact hR5 | with_reducible exact hR4 | with_reducible exact hR1 | with_reducible refine Rl.drew ?_ | with_reducible refine Rl.alloc ?_ _ | with_reducible refine Rl.set ?_ (Nat.le_refl _) _)))).block k (HA.out.own.row.lt k hk).2)) ⟨g5, 0, none⟩ l5.length cap5 (cellsP l5) (by rfl) (by simp) ((ho5.blw (Rl.b (by (repeat (first | with_reducible exact hR55 | with_reducible refine Rl.drew ?_ | with_reducible refine Rl.alloc ?_ _))))).row.cells (g := g5) rfl) (cellsP_one l5) (by have := hl5'.out; have := HCP.out; omega) (by have := hl5'.out; have := HB.out; have := HD.out; have := HLN.out; unfold maxLen; omega) (by have := hl5'.out; have := HB.out; have := HD.out; have := HLN.out; omega) (Nat.le_trans (Nat.succ_le_of_lt hlw) (Rl.z (W0 := wr) (by (repeat (first | with_reducible exact hR5 | with_reducible exact hR4 | with_reducible exact hR1 | with_reducible refine Rl.drew ?_ | with_reducible refine Rl.alloc ?_ _ | with_reducible refine Rl.set ?_ (Nat.le_refl _) _))))) _ (by rfl) ?_; intro gg cap6 w6 hown6 hgrow6 hat6 hlt6; have HA2 := Lib.hid (PathsAt.push HA.out (by (repeat (first | with_reducible exact hR5 | with_reducible exact hR4 | with_reducible exact hR1 | with_reducible refine Rl.drew ?_ | with_reducible refine Rl.alloc ?_ _ | with_reducible refine Rl.set ?_ (Nat.le_refl _) _))) (ho5.blw (Rl.b (by (repeat (first | with_reducible exact hR55 | with_reducible refine Rl.drew ?_ | with_reducible refine Rl.alloc ?_ _))))).sub (Nat.le_refl _) (List.nodup_cons.1 hn5).2 hown6 hgrow6 hat6))))
        all_goals
          clear w64 wr2 hlw hbe hown6 hgrow6 hat6 hlt6 hb5 ho5 hn5 hR5 hR55 hb4 ho4 hR4 hR44 e4 f0 f1 f2 f3 f4 c0 c4 d0 d1 d2 d3 d4 HA hgl
          go_wp2
          go_roundw
          case rel => exact ⟨i' + 1, gg, cap6, lr ++ l5, by rw [List.length_append], by go_num, HI.out, by rw [List.map_append, HLR.out, HL5.out, List.cons_append, HPt.out, HS.out], HA2⟩
          case measure => (simp [intOf]; exact meas_step2 HI.out)
    · obtain heq : i' = l.length := by omega
      have HL2 : Hid (lr.map SR.l = (AT.mk k n x s a cap l).pt.paths p) := Lib.hid (by
        rw [HLR.out, heq, List.take_of_length_le (by simp)]; simp [AT.pt, PT.paths])
      clear HLR
      go_wp2
      go_ret
      exact ⟨g, cap', lr, HL2.out, rfl, HA.out.own.base (by omega), HA.out.nd, HA.out.rl.b⟩
theorem paths_any (T : AT) : ∀ (w : World) (N b o m cp : Nat) (p : List St), m = p.length → T.In w N → SAt w N (some ⟨b, o, none⟩) cp p → N ≤ w.heap.size → p.length + T.pt.deep ≤ 2000000 → T.pt.cnt ≤ 1048576 → Calls Try.prog 102 #[T.val, .slice (some ⟨b, o, none⟩) m cp] w (NewP w (T.pt.paths p)) := by
  induction T using AT.ind with
  | h k n x s a cap l ih =>
    intro w N b o m cp p hm hT hp hN hd hc
    exact paths_of k n x s a cap l ih w N b o m cp p hm hT.lv hp hN hd hc
theorem allpaths_any (T : AT) (w : World) (N : Nat) (hT : T.In w N) (hN : N ≤ w.heap.size) (hc : T.pt.cnt ≤ 1048576) : Calls Try.prog 37 #[T.val] w (NewP w (T.pt.paths [])) := by
  have hR0 := Rl.refl w
  have HT := Lib.hid hT
  have HC := Lib.hid hc
  have HW := Lib.hid hN
  clear hT hc hN
  show Calls Try.prog 37 #[.agg #[.int .i64 T.k, .int .i64 T.n, .int .i64 T.x, .string ⟨T.s.toArray⟩, .slice T.a T.l.length T.cap]] w _
  go_enter Try.func37, Try.ntmps37
  go_wp2_with fail
  refine (paths_any T _ N _ 0 0 0 [] rfl (HT.out.blw (Rl.b (by (repeat (first | with_reducible exact hR0 | with_reducible refine Rl.drew ?_ | with_reducible refine Rl.alloc ?_ _)))) HW.out) (SAt.nil _ _ _ _) (Nat.le_trans HW.out (Rl.z (by (repeat (first | with_reducible exact hR0 | with_reducible refine Rl.drew ?_ | with_reducible refine Rl.alloc ?_ _))))) (by have := HC.out; have := deep_le_cnt T.pt; simp; omega) HC.out).mono ?_
  rintro e w2 ⟨g, cap, lr, hl, rfl, ho, hn, hb⟩
  have HF : Hid (NewP w (T.pt.paths []) (.returned (.slice (some ⟨g, 0, none⟩) lr.length cap)) w2) := Lib.hid (by
    have hb2 : Rl w w2 := Rl.below (by (repeat (first | with_reducible exact hR0 | with_reducible refine Rl.drew ?_ | with_reducible refine Rl.alloc ?_ _))) hb
    exact ⟨g, cap, lr, hl, rfl, ho.base (Rl.z (by (repeat (first | with_reducible exact hR0 | with_reducible refine Rl.drew ?_ | with_reducible refine Rl.alloc ?_ _)))), hn, hb2.b⟩)
  clear hl ho hn hb
  go_wp2
  go_ret
  exact HF.out
end Go.Proofs.Ytdjnkcoepmackaa
