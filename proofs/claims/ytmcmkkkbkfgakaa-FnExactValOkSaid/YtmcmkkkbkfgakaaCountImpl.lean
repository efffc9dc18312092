/- CountOf and DeepOf of the program. -/
import Derived.Test.YtmcmkkkbkfgakaaUniq
import Derived.Test.YtmcmkkkbkfgakaaWalkOf
namespace Go.Proofs.Ytmcmkkkbkfgakaa
open Go.RowKit
/-- what holds at the head of a loop over a walk: the box of the value at hand lies at X and is no part of the walk -/
structure HeadAt (w wr : World) (B P g cap : Nat) (S : List Lev) (d : Int) (X : Nat) (T : AT) : Prop where
  walk : WalkAt wr B B P g cap S d
  x : CellsAt wr X 0 T
  xP : X ≠ P
  xg : X ≠ g
  xB : w.heap.size ≤ X
  bB : w.heap.size ≤ B
  below : Below w.heap.size w wr
theorem HeadAt.xlt {w wr : World} {B P g cap : Nat} {S : List Lev} {d : Int} {X : Nat} {T : AT} (h : HeadAt w wr B P g cap S d X T) : X < wr.heap.size := cell_lt h.x.c0
/-- a step, read at the head of such a loop -/
theorem next_head {w wr : World} {B P g cap : Nat} {S : List Lev} {d : Int} (h : WalkAt wr B B P g cap S d) (hB : w.heap.size ≤ B) (hb : Below w.heap.size w wr) (hS : S.length ≤ 4194304) :
    Calls Try.prog 62 #[.pointer (some ⟨P, 0, none⟩)] wr fun e w' =>
      (∃ (S1 E : List Lev) (L : Lev) (t : AT) (tl : List AT) (a' : Option Addr) (c' g' cap' : Nat), S = S1 ++ L :: E ∧ (∀ L' ∈ E, L'.l = []) ∧ L.l = t :: tl ∧ e = .returned (.tuple #[t.val, .bool true]) ∧
        WalkAt w' B B P g' cap' (S1 ++ [⟨a', c', tl⟩, ⟨t.a, t.cap, t.l⟩]) (S1.length + 1 : Nat) ∧ (g' = g ∨ wr.heap.size ≤ g') ∧ Only2 P g wr w' ∧ Below w.heap.size w w') ∨
      ((∀ L' ∈ S, L'.l = []) ∧ e = .returned (.tuple #[(AT.leaf 0 0 0 []).val, .bool false]) ∧ Only2 P g wr w' ∧ Below w.heap.size w w') := by
  have hl := h.lt
  have hp := h.pB
  have hs := hb.size
  refine (next_any wr B B P g cap S d h hS).mono fun e w' hpost => ?_
  rcases hpost with ⟨S1, E, L, t, tl, a', c', g', cap', h1, h2, h3, h4, h5, h6, h7⟩ | ⟨h1, h2, h3⟩
  · exact .inl ⟨S1, E, L, t, tl, a', c', g', cap', h1, h2, h3, h4, h5, h6, h7, hb.trans (h7.below (by omega) (by omega) (by omega))⟩
  · exact .inr ⟨h1, h2, h3, hb.trans (h3.below (by omega) (by omega) (by omega))⟩
/-- walkOf, its blocks as letters -/
theorem walkof_head (T : AT) (w : World) (N : Nat) (hin : T.In w N) (hN : N ≤ w.heap.size) (w1 : World) (hb1 : Below w.heap.size w w1) :
    Calls Try.prog 61 #[T.val] w1 fun e w' => ∃ P g b B, e = .returned (.pointer (some ⟨P, 0, none⟩)) ∧ WalkAt w' B B P g 1 [⟨some ⟨b, 0, none⟩, 1, [T]⟩] 0 ∧ w1.heap.size ≤ B ∧ Below w1.heap.size w1 w' ∧ Below w.heap.size w w' := by
  refine (walkof_any T w1 N (hin.blw hb1 hN) (Nat.le_trans hN hb1.size)).mono fun e w' h => ?_
  exact ⟨_, _, _, _, h.1, h.2.1, by omega, h.2.2.1, hb1.trans (h.2.2.1.mono hb1.size)⟩
/-- the box of the value at hand, and the walk behind it: the head of the next round -/
theorem HeadAt.new {w wr : World} {B P g cap : Nat} {S : List Lev} {d : Int} {t : AT} (h : WalkAt wr B B P g cap S d) (hB : w.heap.size ≤ B) (hb : Below w.heap.size w wr) :
    HeadAt w (wr.alloc (.cells #[.int .i64 t.k, .int .i64 t.n, .int .i64 t.x, .string ⟨t.s.toArray⟩, .slice t.a t.l.length t.cap] 26)) B P g cap S d wr.heap.size t where
  walk := h.blw (vbox _ _)
  x := by refine ⟨?_, ?_, ?_, ?_, ?_⟩ <;> simp [go_sem]
  xP := by have := h.lt; omega
  xg := by have := h.lt; omega
  xB := hb.size
  bB := hB
  below := hb.alloc hb.size _
theorem HeadAt.step {w wr w' : World} {B P g cap g' cap' : Nat} {S S' : List Lev} {d d' : Int} {X : Nat} {t : AT} (h : HeadAt w wr B P g cap S d X t) (hw : WalkAt w' B B P g' cap' S' d') (hg : g' = g ∨ wr.heap.size ≤ g') (ho : Only2 P g wr w') (hb : Below w.heap.size w w') : HeadAt w w' B P g' cap' S' d' X t where
  walk := hw
  x := h.x.keep (ho.block X h.xlt h.xP h.xg)
  xP := h.xP
  xg := by have := h.xlt; have := h.xg; omega
  xB := h.xB
  bB := h.bB
  below := hb
set_option maxHeartbeats 4000000 in
theorem count_impl (T : AT) (w : World) (N : Nat) (hin : T.In w N) (hN : N ≤ w.heap.size) (hsz : T.pt.sz ≤ 1048576) :
    Calls Try.prog 28 #[T.val] w fun e w' => e = .returned (.int .i64 (T.pt.cnt : Nat)) ∧ Below w.heap.size w w' := by
  have hcb : T.pt.cnt ≤ 1048577 := by have := cnt_le_sz T.pt; omega
  have HWO := Lib.hid (walkof_head T w N hin hN)
  have hrem : ∀ b, remN [Lev.mk (some ⟨b, 0, none⟩) 1 [T]] = T.pt.cnt := fun b => by simp [remN, AT.ptL, PT.cntL]
  have HREM := Lib.hid hrem
  clear hin hrem hsz
  obtain ⟨C, hC⟩ : ∃ C, C = T.pt.cnt := ⟨_, rfl⟩
  rw [← hC] at hcb HREM ⊢
  clear hC
  obtain ⟨k, n, x, s, a, cap, l⟩ := T
  show Calls Try.prog 28 #[.agg #[.int .i64 k, .int .i64 n, .int .i64 x, .string ⟨s.toArray⟩, .slice a l.length cap]] w _
  go_enter Try.func28, Try.ntmps28
  go_wp2_with fail
  refine (HWO.out _ (vbox _ _)).mono ?_
  rintro e w1 ⟨P, g, b, B, rfl, hw1, hB, hb1, hbw⟩
  have hBw : w.heap.size ≤ B := by simp at hB; omega
  have HW1 := Lib.hid hw1
  have HBW := Lib.hid hbw
  clear hw1 hb1 hbw hB
  go_wp2_with fail
  refine (next_head HW1.out hBw HBW.out (by simp)).mono ?_
  rintro e w2 (⟨S1, E, L, t, tl, a', c', g', cap', hS, hE, hL, rfl, hw2, hg2, ho2, hb2⟩ | ⟨hS, -⟩)
  case inr => exact absurd (hS _ (List.mem_singleton.2 rfl)) (by simp)
  have hr2 : remN (S1 ++ [Lev.mk a' c' tl, Lev.mk t.a t.cap t.l]) + 1 = C := by
    rw [← HREM.out b, hS, ← remN_step S1 E L t tl a' c' hE hL]
  have hlen : (S1 ++ [Lev.mk a' c' tl, Lev.mk t.a t.cap t.l]).length ≤ 2 := by
    have h1 : 1 = S1.length + (E.length + 1) := by
      have := congrArg List.length hS
      rw [List.length_append, List.length_cons] at this
      exact this
    rw [List.length_append]
    show S1.length + 2 ≤ 2
    omega
  have HH := Lib.hid (HeadAt.new (t := t) hw2 hBw hb2)
  have HR2 := Lib.hid hr2
  have HLEN := Lib.hid hlen
  clear hS hE hL hw2 hg2 ho2 hb2 hr2 hlen HREM HWO
  go_wp2_with fail
  go_loopw [3, 5, 6] (fun c x more wr => ∃ (bo : Bool) (cn : Nat), c = .int .i64 cn ∧ more = .bool bo ∧ cn ≤ C ∧
    ((bo = true ∧ ∃ g cap S d X t, x = .pointer (some ⟨X, 0, none⟩) ∧ HeadAt w wr B P g cap S d X t ∧ remN S + 1 + cn = C ∧ S.length ≤ cn + 2) ∨ (bo = false ∧ cn = C ∧ Below w.heap.size w wr))) (fun c _ _ _ => C - (intOf c).toNat)
  case atStart => exact ⟨true, 0, rfl, rfl, Nat.zero_le _, .inl ⟨rfl, _, _, _, _, _, _, rfl, HH.out, by have := HR2.out; omega, HLEN.out⟩⟩
  case round =>
    obtain ⟨bo, cn, rfl, rfl, hcn, ⟨rfl, g, cap, S, d, X, t, rfl, hh, hr, hlen⟩ | ⟨rfl, hcC, hbf⟩⟩ := hrel
    · have HHH := Lib.hid hh
      have HR := Lib.hid hr
      have hlen2 : S.length ≤ 4194304 := by omega
      have HLE := Lib.hid hlen
      have hcn2 : cn < C := by omega
      obtain ⟨c0, c1, c2, c3, c4⟩ := hh.x
      have hhn := HeadAt.new (t := t) hh.walk hh.bB hh.below
      have HN := Lib.hid hhn
      clear hh hr hlen hhn
      go_wp2_with fail
      refine (next_head HN.out.walk hBw HN.out.below hlen2).mono ?_
      rintro e w3 (⟨S1, E, L, t', tl, a', c', g', cap', hS, hE, hL, rfl, hw2, hg2, ho2, hb2⟩ | ⟨hS, rfl, ho2, hb2⟩)
      · have hnew := HN.out.step hw2 hg2 ho2 hb2
        have hr2 : remN (S1 ++ [Lev.mk a' c' tl, Lev.mk t'.a t'.cap t'.l]) + 1 + (cn + 1) = C := by
          have := remN_step S1 E L t' tl a' c' hE hL
          rw [← hS] at this
          have := HR.out
          omega
        have hlen3 : (S1 ++ [Lev.mk a' c' tl, Lev.mk t'.a t'.cap t'.l]).length ≤ cn + 1 + 2 := by
          have h1 := congrArg List.length hS
          have h2 := HLE.out
          rw [List.length_append, List.length_cons] at h1
          rw [List.length_append]
          show S1.length + 2 ≤ cn + 1 + 2
          omega
        have HNEW := Lib.hid hnew
        have HR3 := Lib.hid hr2
        have HL3 := Lib.hid hlen3
        clear hS hE hL hw2 hg2 ho2 hb2 hnew hr2 hlen3
        go_wp2
        go_roundw
        case rel => exact ⟨true, cn + 1, by go_num, rfl, by omega, .inl ⟨rfl, _, _, _, _, _, _, rfl, HNEW.out, HR3.out, HL3.out⟩⟩
        case measure => simp [intOf]; omega
      · have hr2 : cn + 1 = C := by
          have := remN_empty S hS
          have := HR.out
          omega
        have HR3 := Lib.hid hr2
        have HB3 := Lib.hid hb2
        clear hS ho2 hb2 hr2
        go_wp2
        go_roundw
        case rel => exact ⟨false, cn + 1, by go_num, rfl, by omega, .inr ⟨rfl, HR3.out, HB3.out⟩⟩
        case measure => simp [intOf]; omega
    · have HBF := Lib.hid hbf
      have HCC := Lib.hid hcC
      clear hbf hcC
      go_wp2
      go_ret
      exact ⟨ret_int (by rw [HCC.out]), HBF.out⟩
end Go.Proofs.Ytmcmkkkbkfgakaa
