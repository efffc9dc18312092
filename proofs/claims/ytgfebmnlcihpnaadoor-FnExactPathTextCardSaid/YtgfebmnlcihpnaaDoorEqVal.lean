/- eqVal of the exact laws: true for two trees that read the same. -/
import Derived.Test.YtgfebmnlcihpnaaDoorTree
import Derived.Test.YtgfebmnlcihpnaaDoorIn
import Derived.Lib.Hide
import Derived.Outline
import Derived.ProofKit
import Derived.StillTailTactics
namespace Go.Proofs.YtgfebmnlcihpnaaDoor
open Go.RowKit
theorem two (w : World) (a b : Obj) : Below w.heap.size w ((w.alloc a).alloc b) := ((Below.refl w.heap.size w).alloc (Nat.le_refl _) a).alloc (by simp) b
set_option maxRecDepth 100000 in
theorem eqValS_of (l : List AT) (ih : ∀ t ∈ l, ∀ (U : AT) (w : World) (N : Nat), t.pt = U.pt → t.In w N → U.In w N → N ≤ w.heap.size → Calls Tryd.prog 28 #[t.val, U.val] w fun e w' => e = .returned (.bool true) ∧ Below w.heap.size w w')
    (m : List AT) (hp : AT.ptL l = AT.ptL m) (hl : l.length ≤ 9223372036854775807) (w : World) (N : Nat) (a b : Option Addr) (cap cap2 : Nat) (h : Lv w N a cap l) (h2 : Lv w N b cap2 m) (hN : N ≤ w.heap.size) :
    Calls Tryd.prog 51 #[.slice a l.length cap, .slice b m.length cap2] w fun e w' => e = .returned (.bool true) ∧ Below w.heap.size w w' := by
  have hlen : m.length = l.length := by have := congrArg List.length hp; simpa using this.symm
  rw [hlen]
  have H := Lib.hid h
  have H2 := Lib.hid h2
  have IH := Lib.hid ih
  have HP := Lib.hid hp
  have HL := Lib.hid hlen
  clear h h2 ih hp hlen
  go_enter Tryd.func51, Tryd.ntmps51
  go_wp2
  go_loopw [5] (fun i wr => ∃ i' : Nat, i = .int .i64 i' ∧ i' ≤ l.length ∧ Below w.heap.size w wr) (fun i _ => l.length - (intOf i).toNat)
  case atStart => exact ⟨0, rfl, Nat.zero_le _, Below.refl _ _⟩
  case round =>
    obtain ⟨i', rfl, hi', hb⟩ := hrel
    have HB := Lib.hid hb
    by_cases hlt : i' < l.length
    · obtain ⟨g, o, rfl, hgN, hC⟩ := H.out.cell i' hlt
      obtain ⟨g2, o2, rfl, hgN2, hC2⟩ := H2.out.cell i' (by rw [HL.out]; exact hlt)
      have hC := hC.keep (hb.block g (by omega))
      have hC2 := hC2.keep (hb.block g2 (by omega))
      have hc := fun (w1 : World) (hb1 : Below wr.heap.size wr w1) => IH.out l[i'] (List.getElem_mem hlt) (m[i']'(by rw [HL.out]; exact hlt)) w1 N (by
        have := HP.out
        have e1 : (AT.ptL l)[i']? = (AT.ptL m)[i']? := by rw [this]
        simpa [AT.ptL_eq, List.getElem?_eq_getElem hlt, List.getElem?_eq_getElem (show i' < m.length by rw [HL.out]; exact hlt)] using e1) (((H.out.sub _ (List.getElem_mem hlt)).blw hb hN).blw hb1 (Nat.le_trans hN hb.size)) (((H2.out.sub _ (List.getElem_mem _)).blw hb hN).blw hb1 (Nat.le_trans hN hb.size)) (by have := hb.size; have := hb1.size; omega)
      obtain ⟨T, hT⟩ : ∃ T, T = l[i'] := ⟨_, rfl⟩
      obtain ⟨U, hU⟩ : ∃ U, U = m[i']'(by rw [HL.out]; exact hlt) := ⟨_, rfl⟩
      rw [← hT] at hC hc
      rw [← hU] at hC2 hc
      clear hT hU
      obtain ⟨c0, c1, c2, c3, c4⟩ := hC
      obtain ⟨d0, d1, d2, d3, d4⟩ := hC2
      have HC := Lib.hid hc
      clear hc hb
      go_wp2_with fail
      go_still_tail 8, (by kernel_rfl)
      go_wp2_with fail
      refine (HC.out _ ((Below.refl _ _).drew)).mono ?_
      rintro e w2 ⟨rfl, hb2⟩
      go_wp2
      go_roundw
      case rel => exact ⟨i' + 1, by go_num, by omega, HB.out.trans (((Below.refl wr.heap.size wr).drew).trans hb2 |>.mono HB.out.size)⟩
      case measure => simp [intOf]; omega
    · go_wp2
      go_ret
      exact ⟨rfl, HB.out⟩
theorem eqVal_any (T : AT) : T.pt.Wf → ∀ (U : AT) (w : World) (N : Nat), T.pt = U.pt → T.In w N → U.In w N → N ≤ w.heap.size → Calls Tryd.prog 28 #[T.val, U.val] w fun e w' => e = .returned (.bool true) ∧ Below w.heap.size w w' := by
  induction T using AT.ind with
  | h k n x s a cap l ih =>
    intro hwf U w N hp hin hin2 hN
    have hsub : ∀ t ∈ l, t.pt.Wf := fun t ht => hwf.sub' t.pt (by rw [AT.ptL_eq]; exact List.mem_map_of_mem ht)
    obtain ⟨hs, hl⟩ : s.length ≤ 9223372036854775807 ∧ l.length ≤ 9223372036854775807 := by
      cases hwf with
      | mk hk hn hx hs hl sub => exact ⟨hs, by rw [AT.ptL_length] at hl; exact hl⟩
    obtain ⟨k2, n2, x2, s2, b, cap2, m⟩ := U
    simp only [AT.pt, PT.mk.injEq] at hp
    obtain ⟨rfl, rfl, rfl, rfl, hp⟩ := hp
    have hc := fun (w1 : World) (hb1 : Below w.heap.size w w1) => eqValS_of l (fun t ht => ih t ht (hsub t ht)) m hp hl w1 N a b cap cap2 (hin.lv.below hb1 hN) (hin2.lv.below hb1 hN) (Nat.le_trans hN hb1.size)
    have HC := Lib.hid hc
    clear hc ih hsub hwf hin hin2 hp
    show Calls Tryd.prog 28 #[.agg #[.int .i64 k, .int .i64 n, .int .i64 x, .string ⟨s.toArray⟩, .slice a l.length cap], .agg #[.int .i64 k, .int .i64 n, .int .i64 x, .string ⟨s.toArray⟩, .slice b m.length cap2]] w _
    have hb0 := two w (.cells #[.int .i64 k, .int .i64 n, .int .i64 x, .string ⟨s.toArray⟩, .slice a l.length cap] 26) (.cells #[.int .i64 k, .int .i64 n, .int .i64 x, .string ⟨s.toArray⟩, .slice b m.length cap2] 26)
    have HB0 := Lib.hid hb0
    clear hb0
    go_enter Tryd.func28, Tryd.ntmps28
    go_wp2_with fail
    refine (HC.out _ HB0.out).mono ?_
    rintro e w2 ⟨rfl, hb⟩
    have HB := Lib.hid hb
    clear hb
    go_wp2
    go_ret
    exact ⟨rfl, HB0.out.trans (HB.out.mono (by simp; omega))⟩
end Go.Proofs.YtgfebmnlcihpnaaDoor
