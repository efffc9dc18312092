/- DeepOf of the program. -/
import Derived.Test.YtmcmkkkbkfgakaaCountImpl
namespace Go.Proofs.Ytmcmkkkbkfgakaa
open Go.RowKit
/-- the largest depth that is left on a stack -/
def remD : Nat → List Lev → Nat
  | _, [] => 0
  | i, L :: S => max (if L.l = [] then 0 else i + PT.deepL (AT.ptL L.l)) (remD (i + 1) S)
theorem remD_append (S T : List Lev) (i : Nat) : remD i (S ++ T) = max (remD i S) (remD (i + S.length) T) := by
  induction S generalizing i with
  | nil => simp [remD]
  | cons L S ih =>
    show max _ (remD (i + 1) (S ++ T)) = max (max _ (remD (i + 1) S)) _
    rw [ih, List.length_cons, show i + 1 + S.length = i + (S.length + 1) by omega]
    omega
theorem remD_empty (S : List Lev) (i : Nat) (h : ∀ L ∈ S, L.l = []) : remD i S = 0 := by
  induction S generalizing i with
  | nil => rfl
  | cons L S ih =>
    have h1 := h L (by simp)
    have h2 := ih (i + 1) (fun L hL => h L (by simp [hL]))
    simp only [remD, h1, if_true, h2]
    omega
theorem deep_eq (t : AT) : t.pt.deep = PT.deepL (AT.ptL t.l) + 1 := by cases t; simp [AT.pt, PT.deep, AT.l]
theorem remD_step (S1 E : List Lev) (L : Lev) (t : AT) (tl : List AT) (a c) (hE : ∀ L ∈ E, L.l = []) (hl : L.l = t :: tl) : max (S1.length + 1) (remD 0 (S1 ++ [Lev.mk a c tl, Lev.mk t.a t.cap t.l])) = remD 0 (S1 ++ L :: E) := by
  rw [remD_append, remD_append]
  simp only [remD, remD_empty E _ hE, hl, AT.ptL, PT.deepL, deep_eq]
  simp only [List.cons_ne_nil, if_false, reduceCtorEq]
  have e1 : tl = [] → PT.deepL (AT.ptL tl) = 0 := by rintro rfl; rfl
  have e2 : t.l = [] → PT.deepL (AT.ptL t.l) = 0 := by intro h; rw [h]; rfl
  split <;> split <;> simp_all <;> omega
set_option maxHeartbeats 4000000 in
theorem deep_impl (T : AT) (w : World) (N : Nat) (hin : T.In w N) (hN : N ≤ w.heap.size) (hsz : T.pt.sz ≤ 1048576) :
    Calls Try.prog 26 #[T.val] w fun e w' => e = .returned (.int .i64 (T.pt.deep : Nat)) ∧ Below w.heap.size w w' := by
  have hcb : T.pt.deep ≤ 1048577 := by have := cnt_le_sz T.pt; have := deep_le_cnt T.pt; omega
  have HWO := Lib.hid (walkof_head T w N hin hN)
  have hrem : ∀ b, remD 0 [Lev.mk (some ⟨b, 0, none⟩) 1 [T]] = T.pt.deep := fun b => by simp [remD, AT.ptL, PT.deepL]
  have HREM := Lib.hid hrem
  clear hin hrem hsz
  obtain ⟨C, hC⟩ : ∃ C, C = T.pt.deep := ⟨_, rfl⟩
  rw [← hC] at hcb HREM ⊢
  clear hC
  obtain ⟨k, n, x, s, a, cap, l⟩ := T
  show Calls Try.prog 26 #[.agg #[.int .i64 k, .int .i64 n, .int .i64 x, .string ⟨s.toArray⟩, .slice a l.length cap]] w _
  go_enter Try.func26, Try.ntmps26
  go_wp2_with fail
  refine (HWO.out _ (vbox _ _)).mono ?_
  rintro e w1 ⟨P, g, b, B, rfl, hw1, hB, hb1, hbw⟩
  have hBw : w.heap.size ≤ B := by simp at hB; omega
  have HW1 := Lib.hid hw1
  have HBW := Lib.hid hbw
  clear hw1 hb1 hbw hB
  go_wp2_with fail
  refine (next_head HW1.out hBw HBW.out (by simp)).mono ?_
  rintro e w2 (⟨S1, E, L, t, tl, a', c', g', cap', hS, hE, hL, rfl, hw2, hg2, ho2, hb2⟩ | ⟨hS, -⟩)
  case inr => exact absurd (hS _ (List.mem_singleton.2 rfl)) (by simp)
  have hr2 : max (S1.length + 1) (remD 0 (S1 ++ [Lev.mk a' c' tl, Lev.mk t.a t.cap t.l])) = C := by
    rw [← HREM.out b, hS, ← remD_step S1 E L t tl a' c' hE hL]
  have HH := Lib.hid (HeadAt.new (t := t) hw2 hBw hb2)
  have HR2 := Lib.hid hr2
  clear hS hE hL hw2 hg2 ho2 hb2 hr2 HREM HWO
  go_wp2_with fail
  obtain ⟨M, hM1, hM0⟩ := leftM_ex P
  have HM1 := Lib.hid hM1
  have HM0 := Lib.hid hM0
  clear hM1 hM0
  go_loopw [3, 5, 6] (fun c x more wr => ∃ (bo : Bool) (cn : Nat), c = .int .i64 cn ∧ more = .bool bo ∧ cn ≤ C ∧
    ((bo = true ∧ ∃ (g cap : Nat) (S : List Lev) (dd X : Nat) (t : AT), x = .pointer (some ⟨X, 0, none⟩) ∧ HeadAt w wr B P g cap S (dd : Int) X t ∧ max cn (max dd (remD 0 S)) = C ∧ S.length ≤ dd + 1) ∨ (bo = false ∧ cn = C ∧ Below w.heap.size w wr)))
    (fun _ _ m wr => M m wr)
  case atStart => exact ⟨true, 0, rfl, rfl, Nat.zero_le _, .inl ⟨rfl, _, _, _, S1.length + 1, _, _, rfl, HH.out, by have := HR2.out; omega, by rw [List.length_append]; exact Nat.le_refl _⟩⟩
  case round =>
    obtain ⟨bo, cn, rfl, rfl, hcn, ⟨rfl, g, cap, S, dd, X, t, rfl, hh, hr, hlen⟩ | ⟨rfl, hcC, hbf⟩⟩ := hrel
    · have HHH := Lib.hid hh
      have HR := Lib.hid hr
      have hddC : dd ≤ C := by omega
      have hlen2 : S.length ≤ 4194304 := by omega
      have HLE := Lib.hid hlen
      obtain ⟨c0, c1, c2, c3, c4⟩ := hh.x
      have hdeep := hh.walk.deep
      have hhn := HeadAt.new (t := t) hh.walk hh.bB hh.below
      have HN := Lib.hid hhn
      clear hh hr hlen hhn
      obtain ⟨m2, hm2, hmC⟩ : ∃ m2, m2 = max cn dd ∧ m2 ≤ C := ⟨_, rfl, by omega⟩
      have HM2 := Lib.hid hm2
      have hcase : (cn < dd ∧ m2 = dd) ∨ (dd ≤ cn ∧ m2 = cn) := by omega
      clear hm2
      rcases hcase with ⟨hlt, rfl⟩ | ⟨hlt, rfl⟩
      case' inl => have hlt2 : (cn : Int) < m2 := by omega
      case' inr => have hlt2 : ¬ ((m2 : Int) < dd) := by omega
      all_goals
        clear hlt
        go_wp2_with fail
        refine (next_head HN.out.walk hBw HN.out.below hlen2).mono ?_
        rintro e w3 (⟨S1, E, L, t', tl, a', c', g', cap', hS, hE, hL, rfl, hw2, hg2, ho2, hb2⟩ | ⟨hS, rfl, ho2, hb2⟩)
        · have hnew := HN.out.step hw2 hg2 ho2 hb2
          have hr2 : max m2 (max (S1.length + 1) (remD 0 (S1 ++ [Lev.mk a' c' tl, Lev.mk t'.a t'.cap t'.l]))) = C := by
            have h1 := remD_step S1 E L t' tl a' c' hE hL
            rw [← hS] at h1
            have h2 := HR.out
            have h3 := HM2.out
            omega
          have hms : M (.bool true) w3 < M (.bool true) wr := by
            rw [HM1.out _ _ _ _ _ _ _ hw2, HM1.out _ _ _ _ _ _ _ HHH.out.walk, hS, remN_step S1 E L t' tl a' c' hE hL]
            omega
          have HMS := Lib.hid hms
          have HNEW := Lib.hid hnew
          have HR3 := Lib.hid hr2
          clear hS hE hL hw2 hg2 ho2 hb2 hnew hr2 hms
          go_wp2
          go_roundw
          case rel => exact ⟨true, m2, rfl, rfl, hmC, .inl ⟨rfl, _, _, _, S1.length + 1, _, _, rfl, HNEW.out, HR3.out, by rw [List.length_append]; exact Nat.le_refl _⟩⟩
          case measure => exact HMS.out
        · have hr2 : m2 = C := by
            have h1 := remD_empty S 0 hS
            have h2 := HR.out
            have h3 := HM2.out
            omega
          have HR3 := Lib.hid hr2
          have HB3 := Lib.hid hb2
          have hms : M (.bool false) w3 < M (.bool true) wr := by
            rw [HM0.out, HM1.out _ _ _ _ _ _ _ HHH.out.walk]
            omega
          have HMS := Lib.hid hms
          clear hS ho2 hb2 hr2 hms
          go_wp2
          go_roundw
          case rel => exact ⟨false, m2, rfl, rfl, hmC, .inr ⟨rfl, HR3.out, HB3.out⟩⟩
          case measure => exact HMS.out
    · have HBF := Lib.hid hbf
      have HCC := Lib.hid hcC
      clear hbf hcC
      go_wp2
      go_ret
      exact ⟨ret_int (by rw [HCC.out]), HBF.out⟩
end Go.Proofs.Ytmcmkkkbkfgakaa
