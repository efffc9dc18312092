import Derived.Test.YtilgncebhgplaaaG12
import Derived.Test.YtilgncebhgplaaaG11
import Derived.Deep.LoopGhost
import Derived.Deep.AppendLies
import Derived.Deep.CutRange
/- compareTrees of the program. -/
namespace Go.Proofs.Ytilgncebhgplaaa
open Go.RowKit
set_option maxRecDepth 100000
theorem wf_isA {T : AT} (h : T.pt.Wf) : isI T.n ∧ isI T.x := by
  obtain ⟨k, n, x, s, a, cap, l⟩ := T
  obtain ⟨_, h1, h2, _⟩ := wf_isI (l := AT.ptL l) h
  exact ⟨h1, h2⟩
theorem wf_subA {T : AT} (h : T.pt.Wf) : ∀ t ∈ T.l, t.pt.Wf := by
  obtain ⟨k, n, x, s, a, cap, l⟩ := T
  intro t ht
  exact h.sub' t.pt (by rw [AT.ptL_eq]; exact List.mem_map_of_mem ht)
theorem StkAt.drew {w : World} {N B g cap : Nat} {S : List Lev2} (h : StkAt w N B g cap S) : StkAt w.drew N B g cap S := h.kept (w' := w.drew) (fun _ _ => rfl)
theorem VC.set {w : World} {b : Nat} {k n x : Int} {s : ByteArray} {a : Option Addr} {len cap : Nat} {g o : Nat} {u : Value} (h : VC w b k n x s a len cap) (hg : g ≠ b) : VC (w.setCell ⟨g, o, none⟩ u) b k n x s a len cap :=
  ⟨cell_set_ne hg h.c0, cell_set_ne hg h.c1, cell_set_ne hg h.c2, cell_set_ne hg h.c3, cell_set_ne hg h.c4⟩
theorem VC.drew {w : World} {b : Nat} {k n x : Int} {s : ByteArray} {a : Option Addr} {len cap : Nat} (h : VC w b k n x s a len cap) : VC w.drew b k n x s a len cap := ⟨h.c0, h.c1, h.c2, h.c3, h.c4⟩
theorem lv_tail_if {w : World} {N b o cl : Nat} {t : AT} {tl : List AT} (h : Lv w N (some ⟨b, o, none⟩) cl (t :: tl)) : Lv w N (if cl = 1 then some ⟨b, o, none⟩ else some ⟨b, o + 5, none⟩) (cl - 1) tl := by
  have hc := h.hc
  split
  · rename_i h1
    subst h1
    cases tl with
    | nil => exact lv_none
    | cons u us => simp at hc
  · exact lv_tail h
theorem StkAt.base {w : World} {N B B' g cap : Nat} {S : List Lev2} (h : StkAt w N B g cap S) (hB : B' ≤ B) (hN : N ≤ B') : StkAt w N B' g cap S := ⟨own_base' h.row hB, h.lv, hN⟩
set_option maxHeartbeats 4000000 in
theorem treesN (T U : AT) (w : World) (N : Nat) (hwf : T.pt.Wf) (hwf2 : U.pt.Wf) (hin : T.In w N) (hin2 : U.In w N) (hN : N ≤ w.heap.size) (hsz : T.pt.sz ≤ 2097152) :
    Calls Try.prog 31 #[T.val, U.val, .func (.func 32) #[] #[]] w fun e w' => e = .returned (.int .i64 (T.pt.cmp numV U.pt)) ∧ Below w.heap.size w w' := by
  obtain ⟨i0, hi, hz0, hz1, hz2⟩ := info_parts levInfo
  have hcnt := cnt_le_sz T.pt
  have hcq := cnt_eq T
  have HF : Hid (∀ (t u : AT) (W : World), t.pt.Wf → u.pt.Wf → Calls Try.prog 36 #[t.val, u.val, .func (.func 32) #[] #[]] W fun e w' => e = .returned (.int .i64 (hdA numV t u)) ∧ Below W.heap.size W w') := Lib.hid (fun t u W h1 h2 => fieldsN t u W (wf_isA h1) (wf_isA h2))
  have HCI := Lib.hid compare_int
  have htot := cmpA numV T U
  obtain ⟨tot, ht⟩ : ∃ tot, tot = T.pt.cmp numV U.pt := ⟨_, rfl⟩
  rw [← ht] at htot ⊢
  have HSB : Hid (∀ t ∈ T.l, t.pt.Wf) := Lib.hid (wf_subA hwf)
  have HSB2 : Hid (∀ t ∈ U.l, t.pt.Wf) := Lib.hid (wf_subA hwf2)
  have HL := Lib.hid hin.lv'
  have HL2 := Lib.hid hin2.lv'
  have HTOT := Lib.hid htot
  have HK : Hid (2 * PT.cntL (AT.ptL T.l) + 1 ≤ 4194310) := Lib.hid (by omega)
  have HW1 := Lib.hid hwf
  have HW2 := Lib.hid hwf2
  clear hin hin2 hsz hcnt hcq ht htot hwf hwf2
  show Calls Try.prog 31 #[.agg #[.int .i64 T.k, .int .i64 T.n, .int .i64 T.x, .string ⟨T.s.toArray⟩, .slice T.a T.l.length T.cap], .agg #[.int .i64 U.k, .int .i64 U.n, .int .i64 U.x, .string ⟨U.s.toArray⟩, .slice U.a U.l.length U.cap], .func (.func 32) #[] #[]] w _
  go_enter Try.func31, Try.ntmps31
  go_wp2_with fail
  have hvc := vcbox w T.k T.n T.x ⟨T.s.toArray⟩ T.a T.l.length T.cap U.k U.n U.x ⟨U.s.toArray⟩ U.a U.l.length U.cap 28
  have hBB := two' w (.cells #[.int .i64 T.k, .int .i64 T.n, .int .i64 T.x, .string ⟨T.s.toArray⟩, .slice T.a T.l.length T.cap] 28) (.cells #[.int .i64 U.k, .int .i64 U.n, .int .i64 U.x, .string ⟨U.s.toArray⟩, .slice U.a U.l.length U.cap] 28)
  generalize ((w.alloc (.cells #[.int .i64 T.k, .int .i64 T.n, .int .i64 T.x, .string ⟨T.s.toArray⟩, .slice T.a T.l.length T.cap] 28)).alloc (.cells #[.int .i64 U.k, .int .i64 U.n, .int .i64 U.x, .string ⟨U.s.toArray⟩, .slice U.a U.l.length U.cap] 28)) = W0 at *
  refine (HF.out T U _ HW1.out HW2.out).mono ?_
  rintro e w1 ⟨rfl, hb1⟩
  have HB1 := Lib.hid (hBB.trans (hb1.mono hBB.size))
  obtain ⟨⟨c0, c1, c2, c3, c4⟩, ⟨d0, d1, d2, d3, d4⟩⟩ := (And.intro (hvc.1.blw hb1) (hvc.2.blw hb1))
  have hNw : w.heap.size ≤ w1.heap.size := HB1.out.size
  have hst := stk_new w1 N ⟨T.a, T.cap, T.l⟩ ⟨U.a, U.cap, U.l⟩ (HL.out.below HB1.out hN) (HL2.out.below HB1.out hN) (by omega)
  have HST := Lib.hid hst
  have HB2 := Lib.hid (HB1.out.trans ((vbox w1 (.cells #[(Lev.mk T.a T.cap T.l).val, (Lev.mk U.a U.cap U.l).val] 53)).mono hNw))
  clear hvc hBB hb1 hst HW1 HW2 HB1
  go_wp2_with fail
  go_loopg [7, 8] (2 * PT.cntL (AT.ptL T.l) + 1) (fun k o r wr => ∃ (ord : Int) (S : List Lev2) (g cap : Nat), o = .int .i64 ord ∧ r = .slice (some ⟨g, 0, none⟩) S.length cap ∧ Hid (StkAt wr N w.heap.size g cap S) ∧ Hid (tot = orI ord (stk numV S)) ∧ Hid (wt S ≤ k ∧ k ≤ 4194310) ∧ Hid (∀ p ∈ S, (∀ t ∈ p.1.l, t.pt.Wf) ∧ (∀ t ∈ p.2.l, t.pt.Wf)) ∧ Hid (Below w.heap.size w wr))
  case atStart => exact ⟨_, [(⟨T.a, T.cap, T.l⟩, ⟨U.a, U.cap, U.l⟩)], w1.heap.size, 1, rfl, rfl, Lib.hid (HST.out.base hNw hN), Lib.hid (by rw [HTOT.out]; simp [stk, orI_z]), Lib.hid ⟨by simp [wt], HK.out⟩, Lib.hid (fun p hp => by obtain rfl := List.mem_singleton.1 hp; exact ⟨HSB.out, HSB2.out⟩), HB2⟩
  case round =>
    obtain ⟨ord, S, g, cap, rfl, rfl, HS, HT, HW, HWF, HB⟩ := hrel
    by_cases ho : ord = 0
    · subst ho
      rcases snoc_or S with rfl | ⟨S1, p, rfl⟩
      · have HV : Hid (tot = 0) := Lib.hid (by rw [HT.out]; rfl)
        go_wp2
        go_ret
        exact ⟨by rw [HV.out]; try rfl, HB.out⟩
      · obtain ⟨⟨a, c, l⟩, ⟨b, d, m⟩⟩ := p
        have hsl : (S1 ++ [((Lev.mk a c l), (Lev.mk b d m))]).length = S1.length + 1 := by simp
        obtain ⟨q0, q1, qf, hlv1, hlv2⟩ := HS.out.top
        have hcp := HS.out.cap
        have hg := HS.out.lt
        rw [hsl] at hcp ⊢
        clear hsl
        have HLV1 := Lib.hid hlv1
        have HLV2 := Lib.hid hlv2
        clear hlv1 hlv2
        have hSl : S1.length < 4194310 := by
          have h1 := wt_len (S1 ++ [((Lev.mk a c l), (Lev.mk b d m))])
          have h2 := HW.out
          simp at h1
          omega
        have hcm : cap ≤ maxLen := hcp.2
        unfold maxLen at hcm
        have hle : (0 : Int) < S1.length + 1 := by omega
        replace q0 : wr.cell? ⟨g, S1.length * 2, none⟩ = some (.slice a l.length c) := q0
        replace q1 : wr.cell? ⟨g, S1.length * 2 + 1, none⟩ = some (.slice b m.length d) := q1
        by_cases hE : l = [] ∨ m = []
        · have HV : Hid (tot = orI (cmpI l.length m.length) (stk numV S1)) := Lib.hid (by rw [HT.out, orI_zero, stk_snoc]; simp only []; rw [cmpL_none numV (AT.ptL l) (AT.ptL m) (by rcases hE with rfl | rfl; exact .inl rfl; exact .inr rfl), AT.ptL_length, AT.ptL_length])
          have hEl : (l.length : Int) = 0 ∨ (((l.length : Int) == 0) = false ∧ (m.length : Int) = 0) := by
            rcases hE with rfl | rfl
            · exact .inl rfl
            · by_cases h : l.length = 0
              · exact .inl (by omega)
              · exact .inr ⟨by simpa using h, rfl⟩
          have h1 := fun W => (HCI.out l.length m.length W).mono (fun e w' h => (⟨h.1, h.2.symm⟩ : e = .returned (.int .i64 (cmpI l.length m.length)) ∧ w' = W))
          generalize cmpI l.length m.length = cc at *
          have HPOP := Lib.hid HS.out.pop
          have HWF2 := Lib.hid (fun p hp => HWF.out p (by rw [List.mem_append]; exact .inl hp) : ∀ p ∈ S1, (∀ t ∈ p.1.l, t.pt.Wf) ∧ (∀ t ∈ p.2.l, t.pt.Wf))
          have HW2 : Hid (wt S1 ≤ gk - 1 ∧ gk - 1 ≤ 4194310 ∧ 0 < gk) := Lib.hid (by
            have h2 := HW.out
            rw [wt_append] at h2
            have : 1 ≤ wt [((Lev.mk a c l), (Lev.mk b d m))] := by simp [wt]
            omega)
          clear hE HS HT HW HWF HLV1 HLV2
          rcases hEl with hl0 | ⟨hl0, hm0⟩
          · rw [hl0] at h1
            have H1 := Lib.hid h1
            clear h1
            go_wp2_with fail
            refine wp_region_still_tail 10 (by kernel_rfl) (by kernel_rfl) ?_
            simp only [List.take_succ_cons, List.take_zero, List.drop_succ_cons, List.drop_zero]
            repeat still_step
            refine wpStill_nil ?_
            change wpList _ _ _ _ _ (World.drew _)
            have HPD := Lib.hid (StkAt.drew HPOP.out)
            have HBD := Lib.hid (Below.drew HB.out)
            clear q0 q1 qf
            generalize World.drew _ = w2 at *
            go_wp2_with (go_at_call 37; refine (H1.out _).mono ?_; rintro e w3 ⟨rfl, rfl⟩)
            go_roundg (gk - 1)
            case measure => have := HW2.out; omega
            case rel => exact ⟨_, S1, g, cap, rfl, rfl, HPD, HV, Lib.hid ⟨HW2.out.1, HW2.out.2.1⟩, HWF2, HBD⟩
          · rw [hm0] at h1
            have H1 := Lib.hid h1
            clear h1
            go_wp2_with fail
            refine wp_region_still_tail 10 (by kernel_rfl) (by kernel_rfl) ?_
            simp only [List.take_succ_cons, List.take_zero, List.drop_succ_cons, List.drop_zero]
            repeat still_step
            refine wpStill_nil ?_
            change wpList _ _ _ _ _ (World.drew _)
            have HPD := Lib.hid (StkAt.drew HPOP.out)
            have HBD := Lib.hid (Below.drew HB.out)
            clear q0 q1 qf
            generalize World.drew _ = w2 at *
            go_wp2_with (go_at_call 37; refine (H1.out _).mono ?_; rintro e w3 ⟨rfl, rfl⟩)
            go_roundg (gk - 1)
            case measure => have := HW2.out; omega
            case rel => exact ⟨_, S1, g, cap, rfl, rfl, HPD, HV, Lib.hid ⟨HW2.out.1, HW2.out.2.1⟩, HWF2, HBD⟩
        · rcases l with _ | ⟨t, tl⟩
          · exact absurd (.inl rfl) hE
          rcases m with _ | ⟨u, ul⟩
          · exact absurd (.inr rfl) hE
          clear hE
          obtain ⟨b1, o1, rfl, hbN1, hC1⟩ := HLV1.out.cell 0 (by simp)
          obtain ⟨b2, o2, rfl, hbN2, hC2⟩ := HLV2.out.cell 0 (by simp)
          replace hC1 : CellsAt wr b1 o1 t := by simpa using hC1
          replace hC2 : CellsAt wr b2 o2 u := by simpa using hC2
          replace q0 : wr.cell? ⟨g, S1.length * 2, none⟩ = some (.slice (some ⟨b1, o1, none⟩) (tl.length + 1) c) := q0
          replace q1 : wr.cell? ⟨g, S1.length * 2 + 1, none⟩ = some (.slice (some ⟨b2, o2, none⟩) (ul.length + 1) d) := q1
          have hcl : tl.length + 1 ≤ c := HLV1.out.hc
          have hcd : ul.length + 1 ≤ d := HLV2.out.hc
          have HC1 := Lib.hid hC1
          have HC2 := Lib.hid hC2
          obtain ⟨e0, e1, e2, e3, e4⟩ := hC1
          obtain ⟨f0, f1, f2, f3, f4⟩ := hC2
          have hl1 : ((tl.length : Int) + 1 == 0) = false := by rw [beq_eq_false_iff_ne]; omega
          have hl2 : ((ul.length : Int) + 1 == 0) = false := by rw [beq_eq_false_iff_ne]; omega
          have hl3 : (0 : Int) < (tl.length : Int) + 1 := by omega
          have hl4 : (0 : Int) < (ul.length : Int) + 1 := by omega
          go_wp2_with fail
          have HKK : Hid (∀ W' : World, Rl wr W' → Rl wr W' ∧ wr.heap.size ≤ W'.heap.size ∧ W'.cell? ⟨g, S1.length * 2, none⟩ = some (.slice (some ⟨b1, o1, none⟩) (tl.length + 1) c) ∧ W'.cell? ⟨g, S1.length * 2 + 1, none⟩ = some (.slice (some ⟨b2, o2, none⟩) (ul.length + 1) d) ∧ W'.cell? ⟨b1, o1, none⟩ = some (.int .i64 t.k) ∧ W'.cell? ⟨b1, o1 + 1, none⟩ = some (.int .i64 t.n) ∧ W'.cell? ⟨b1, o1 + 2, none⟩ = some (.int .i64 t.x) ∧ W'.cell? ⟨b1, o1 + 3, none⟩ = some (.string ⟨t.s.toArray⟩) ∧ W'.cell? ⟨b1, o1 + 4, none⟩ = some (.slice t.a t.l.length t.cap) ∧ W'.cell? ⟨b2, o2, none⟩ = some (.int .i64 u.k) ∧ W'.cell? ⟨b2, o2 + 1, none⟩ = some (.int .i64 u.n) ∧ W'.cell? ⟨b2, o2 + 2, none⟩ = some (.int .i64 u.x) ∧ W'.cell? ⟨b2, o2 + 3, none⟩ = some (.string ⟨u.s.toArray⟩) ∧ W'.cell? ⟨b2, o2 + 4, none⟩ = some (.slice u.a u.l.length u.cap)) := Lib.hid (fun W' h => ⟨h, h.z, keep_below h.b q0, keep_below h.b q1, keep_below h.b e0, keep_below h.b e1, keep_below h.b e2, keep_below h.b e3, keep_below h.b e4, keep_below h.b f0, keep_below h.b f1, keep_below h.b f2, keep_below h.b f3, keep_below h.b f4⟩)
          have h0 := Rl.refl wr
          go_cut [10, 11] from 22 to 103 (fun y z wx => ∃ X Y, y = .pointer (some ⟨X, 0, none⟩) ∧ z = .pointer (some ⟨Y, 0, none⟩) ∧ Hid (VC wx X t.k t.n t.x ⟨t.s.toArray⟩ t.a t.l.length t.cap ∧ VC wx Y u.k u.n u.x ⟨u.s.toArray⟩ u.a u.l.length u.cap ∧ Rl wr wx ∧ wr.heap.size ≤ X ∧ wr.heap.size ≤ Y))
          case first =>
            go_region_held3 (fun W' => Rl wr W' ∧ wr.heap.size ≤ W'.heap.size ∧ W'.cell? ⟨g, S1.length * 2, none⟩ = some (.slice (some ⟨b1, o1, none⟩) (tl.length + 1) c) ∧ W'.cell? ⟨g, S1.length * 2 + 1, none⟩ = some (.slice (some ⟨b2, o2, none⟩) (ul.length + 1) d) ∧ W'.cell? ⟨b1, o1, none⟩ = some (.int .i64 t.k) ∧ W'.cell? ⟨b1, o1 + 1, none⟩ = some (.int .i64 t.n) ∧ W'.cell? ⟨b1, o1 + 2, none⟩ = some (.int .i64 t.x) ∧ W'.cell? ⟨b1, o1 + 3, none⟩ = some (.string ⟨t.s.toArray⟩) ∧ W'.cell? ⟨b1, o1 + 4, none⟩ = some (.slice t.a t.l.length t.cap) ∧ W'.cell? ⟨b2, o2, none⟩ = some (.int .i64 u.k) ∧ W'.cell? ⟨b2, o2 + 1, none⟩ = some (.int .i64 u.n) ∧ W'.cell? ⟨b2, o2 + 2, none⟩ = some (.int .i64 u.x) ∧ W'.cell? ⟨b2, o2 + 3, none⟩ = some (.string ⟨u.s.toArray⟩) ∧ W'.cell? ⟨b2, o2 + 4, none⟩ = some (.slice u.a u.l.length u.cap)) ((refine HKK.out _ ?_; repeat (first | assumption | refine Rl.drew ?_ | refine Rl.alloc ?_ _))) ((fail))
            all_goals
              go_split_ands
              go_wp2
              go_meet
              case rel => refine ⟨_, _, rfl, rfl, Lib.hid ⟨⟨by simp [go_sem], by simp [go_sem], by simp [go_sem], by simp [go_sem], by simp [go_sem]⟩, ⟨by simp [go_sem], by simp [go_sem], by simp [go_sem], by simp [go_sem], by simp [go_sem]⟩, by assumption, by simp, by simp⟩⟩
          case rest =>
          obtain ⟨X, Y, rfl, rfl, HXY⟩ := hcut
          have hrl := HXY.out.2.2.1
          have HS2 := Lib.hid (HS.out.blw hrl.b)
          have HB2 := Lib.hid (HB.out.trans (hrl.b.mono HB.out.size))
          clear q0 q1 qf e0 e1 e2 e3 e4 f0 f1 f2 f3 f4 h0 HKK
          obtain ⟨q0, q1, qf, hlv1, hlv2⟩ := HS2.out.top
          have HLV3 := Lib.hid hlv1
          have HLV4 := Lib.hid hlv2
          clear hlv1 hlv2 HLV1 HLV2 hrl
          replace q0 : wc.cell? ⟨g, S1.length * 2, none⟩ = some (.slice (some ⟨b1, o1, none⟩) (tl.length + 1) c) := q0
          replace q1 : wc.cell? ⟨g, S1.length * 2 + 1, none⟩ = some (.slice (some ⟨b2, o2, none⟩) (ul.length + 1) d) := q1
          go_wp2_with fail
          go_region
          have hst3 : StkAt (((wc.setCell ⟨g, S1.length * 2, none⟩ (.slice (if c = 1 then some ⟨b1, o1, none⟩ else some ⟨b1, o1 + 5, none⟩) tl.length (c - 1))).setCell ⟨g, S1.length * 2 + 1, none⟩ (.slice (if d = 1 then some ⟨b2, o2, none⟩ else some ⟨b2, o2 + 5, none⟩) ul.length (d - 1))).drew) N w.heap.size g cap (S1 ++ [((Lev.mk (if c = 1 then some ⟨b1, o1, none⟩ else some ⟨b1, o1 + 5, none⟩) (c - 1) tl), (Lev.mk (if d = 1 then some ⟨b2, o2, none⟩ else some ⟨b2, o2 + 5, none⟩) (d - 1) ul))]) := (HS2.out.setTop (Lev.mk (if c = 1 then some ⟨b1, o1, none⟩ else some ⟨b1, o1 + 5, none⟩) (c - 1) tl) (Lev.mk (if d = 1 then some ⟨b2, o2, none⟩ else some ⟨b2, o2 + 5, none⟩) (d - 1) ul) (lv_tail_if HLV3.out) (lv_tail_if HLV4.out)).drew
          have hb3 : Below w.heap.size w (((wc.setCell ⟨g, S1.length * 2, none⟩ (.slice (if c = 1 then some ⟨b1, o1, none⟩ else some ⟨b1, o1 + 5, none⟩) tl.length (c - 1))).setCell ⟨g, S1.length * 2 + 1, none⟩ (.slice (if d = 1 then some ⟨b2, o2, none⟩ else some ⟨b2, o2 + 5, none⟩) ul.length (d - 1))).drew) := ((HB2.out.setCell (p := ⟨g, S1.length * 2, none⟩) hg.1 (.slice (if c = 1 then some ⟨b1, o1, none⟩ else some ⟨b1, o1 + 5, none⟩) tl.length (c - 1))).setCell (p := ⟨g, S1.length * 2 + 1, none⟩) hg.1 (.slice (if d = 1 then some ⟨b2, o2, none⟩ else some ⟨b2, o2 + 5, none⟩) ul.length (d - 1))).drew
          obtain ⟨hX, hY, hr3, hXg, hYg⟩ := HXY.out
          have hgX : g ≠ X := by omega
          have hgY : g ≠ Y := by omega
          have hvX : VC (((wc.setCell ⟨g, S1.length * 2, none⟩ (.slice (if c = 1 then some ⟨b1, o1, none⟩ else some ⟨b1, o1 + 5, none⟩) tl.length (c - 1))).setCell ⟨g, S1.length * 2 + 1, none⟩ (.slice (if d = 1 then some ⟨b2, o2, none⟩ else some ⟨b2, o2 + 5, none⟩) ul.length (d - 1))).drew) X t.k t.n t.x ⟨t.s.toArray⟩ t.a t.l.length t.cap := ((hX.set hgX).set hgX).drew
          have hvY : VC (((wc.setCell ⟨g, S1.length * 2, none⟩ (.slice (if c = 1 then some ⟨b1, o1, none⟩ else some ⟨b1, o1 + 5, none⟩) tl.length (c - 1))).setCell ⟨g, S1.length * 2 + 1, none⟩ (.slice (if d = 1 then some ⟨b2, o2, none⟩ else some ⟨b2, o2 + 5, none⟩) ul.length (d - 1))).drew) Y u.k u.n u.x ⟨u.s.toArray⟩ u.a u.l.length u.cap := ((hY.set hgY).set hgY).drew
          have HTT : Hid (Lv wc N t.a t.cap t.l) := Lib.hid (HLV3.out.sub t (by simp)).lv'
          have HTU : Hid (Lv wc N u.a u.cap u.l) := Lib.hid (HLV4.out.sub u (by simp)).lv'
          have hk3 : ∀ k, k < N → (((wc.setCell ⟨g, S1.length * 2, none⟩ (.slice (if c = 1 then some ⟨b1, o1, none⟩ else some ⟨b1, o1 + 5, none⟩) tl.length (c - 1))).setCell ⟨g, S1.length * 2 + 1, none⟩ (.slice (if d = 1 then some ⟨b2, o2, none⟩ else some ⟨b2, o2 + 5, none⟩) ul.length (d - 1))).drew).heap[k]? = wc.heap[k]? := fun k hk => (Below.heap_setCell _ _ _ _ (by show k ≠ g; omega)).trans (Below.heap_setCell _ _ _ _ (by show k ≠ g; omega))
          have HTT3 := Lib.hid (HTT.out.kept hk3)
          have HTU3 := Lib.hid (HTU.out.kept hk3)
          have HV : Hid (tot = orI (hdA numV t u) (stk numV (S1 ++ [((Lev.mk (if c = 1 then some ⟨b1, o1, none⟩ else some ⟨b1, o1 + 5, none⟩) (c - 1) tl), (Lev.mk (if d = 1 then some ⟨b2, o2, none⟩ else some ⟨b2, o2 + 5, none⟩) (d - 1) ul))] ++ [(Lev.mk t.a t.cap t.l, Lev.mk u.a u.cap u.l)]))) := Lib.hid (by rw [HT.out, orI_zero]; exact stk_step numV S1 ⟨some ⟨b1, o1, none⟩, c, t :: tl⟩ ⟨some ⟨b2, o2, none⟩, d, u :: ul⟩ (Lev.mk (if c = 1 then some ⟨b1, o1, none⟩ else some ⟨b1, o1 + 5, none⟩) (c - 1) tl) (Lev.mk (if d = 1 then some ⟨b2, o2, none⟩ else some ⟨b2, o2 + 5, none⟩) (d - 1) ul) ⟨t.a, t.cap, t.l⟩ ⟨u.a, u.cap, u.l⟩ t u tl ul rfl rfl rfl rfl rfl rfl)
          have HWq : Hid (wt (S1 ++ [((Lev.mk (if c = 1 then some ⟨b1, o1, none⟩ else some ⟨b1, o1 + 5, none⟩) (c - 1) tl), (Lev.mk (if d = 1 then some ⟨b2, o2, none⟩ else some ⟨b2, o2 + 5, none⟩) (d - 1) ul))] ++ [(Lev.mk t.a t.cap t.l, Lev.mk u.a u.cap u.l)]) ≤ gk - 1 ∧ gk - 1 ≤ 4194310 ∧ 0 < gk) := Lib.hid (by
            have h2 := HW.out
            rw [wt_step S1 ⟨some ⟨b1, o1, none⟩, c, t :: tl⟩ ⟨some ⟨b2, o2, none⟩, d, u :: ul⟩ (Lev.mk (if c = 1 then some ⟨b1, o1, none⟩ else some ⟨b1, o1 + 5, none⟩) (c - 1) tl) (Lev.mk (if d = 1 then some ⟨b2, o2, none⟩ else some ⟨b2, o2 + 5, none⟩) (d - 1) ul) ⟨t.a, t.cap, t.l⟩ ⟨u.a, u.cap, u.l⟩ t tl rfl rfl rfl] at h2
            omega)
          have HWF2 : Hid (∀ p ∈ S1 ++ [((Lev.mk (if c = 1 then some ⟨b1, o1, none⟩ else some ⟨b1, o1 + 5, none⟩) (c - 1) tl), (Lev.mk (if d = 1 then some ⟨b2, o2, none⟩ else some ⟨b2, o2 + 5, none⟩) (d - 1) ul))] ++ [(Lev.mk t.a t.cap t.l, Lev.mk u.a u.cap u.l)], (∀ t ∈ p.1.l, t.pt.Wf) ∧ (∀ t ∈ p.2.l, t.pt.Wf)) := Lib.hid (by
            have h1 := HWF.out (⟨some ⟨b1, o1, none⟩, c, t :: tl⟩, ⟨some ⟨b2, o2, none⟩, d, u :: ul⟩) (by simp)
            intro p hp
            simp only [List.mem_append, List.mem_cons, List.not_mem_nil, or_false] at hp
            rcases hp with (hp | rfl) | rfl
            · exact HWF.out p (by simp [hp])
            · exact ⟨fun x hx => h1.1 x (List.mem_cons_of_mem _ hx), fun x hx => h1.2 x (List.mem_cons_of_mem _ hx)⟩
            · exact ⟨wf_subA (h1.1 t (by simp)), wf_subA (h1.2 u (by simp))⟩)
          have HWt : Hid (t.pt.Wf ∧ u.pt.Wf) := Lib.hid (by
            have h1 := HWF.out (⟨some ⟨b1, o1, none⟩, c, t :: tl⟩, ⟨some ⟨b2, o2, none⟩, d, u :: ul⟩) (by simp)
            exact ⟨h1.1 t (by simp), h1.2 u (by simp)⟩)
          have HST3 := Lib.hid hst3
          have HB3 := Lib.hid hb3
          clear hst3 hb3 hX hY hr3 hXg hYg HXY HTT HTU hk3 q0 q1 qf HS2 HB2 HLV3 HLV4 HS HT HW HWF HB hcl hcd HC1 HC2 hgX hgY
          generalize (((wc.setCell ⟨g, S1.length * 2, none⟩ (.slice (if c = 1 then some ⟨b1, o1, none⟩ else some ⟨b1, o1 + 5, none⟩) tl.length (c - 1))).setCell ⟨g, S1.length * 2 + 1, none⟩ (.slice (if d = 1 then some ⟨b2, o2, none⟩ else some ⟨b2, o2 + 5, none⟩) ul.length (d - 1))).drew) = w4 at *
          generalize (Value.slice (if c = 1 then some ⟨b1, o1, none⟩ else some ⟨b1, o1 + 5, none⟩) tl.length (c - 1)) = z1
          generalize (Value.slice (if d = 1 then some ⟨b2, o2, none⟩ else some ⟨b2, o2 + 5, none⟩) ul.length (d - 1)) = z2
          generalize (Lev.mk (if c = 1 then some ⟨b1, o1, none⟩ else some ⟨b1, o1 + 5, none⟩) (c - 1) tl) = LA at *
          generalize (Lev.mk (if d = 1 then some ⟨b2, o2, none⟩ else some ⟨b2, o2 + 5, none⟩) (d - 1) ul) = MA at *
          obtain ⟨x0, x1, x2, x3, x4⟩ := hvX
          obtain ⟨y0, y1, y2, y3, y4⟩ := hvY
          have HVX := Lib.hid (VC.mk x0 x1 x2 x3 x4)
          have HVY := Lib.hid (VC.mk y0 y1 y2 y3 y4)
          go_wp2_with fail
          refine (HF.out t u _ HWt.out.1 HWt.out.2).mono ?_
          rintro e w5 ⟨rfl, hb5⟩
          have HST5 := Lib.hid (HST3.out.blw hb5)
          have HB5 := Lib.hid (HB3.out.trans (hb5.mono HB3.out.size))
          have HTT5 := Lib.hid (HTT3.out.below hb5 (Nat.le_trans hN HB3.out.size))
          have HTU5 := Lib.hid (HTU3.out.below hb5 (Nat.le_trans hN HB3.out.size))
          clear x0 x1 x2 x3 x4 y0 y1 y2 y3 y4
          obtain ⟨x0, x1, x2, x3, x4⟩ := HVX.out.blw hb5
          obtain ⟨y0, y1, y2, y3, y4⟩ := HVY.out.blw hb5
          clear hb5 HVX HVY HST3 HB3 HTT3 HTU3
          have hr5 : w5.ownsRow w.heap.size 53 2 (.slice (some ⟨g, 0, none⟩) (S1.length + 1) cap) (S1.length + 1) (lvcells (S1 ++ [(LA, MA)])) := by
            have := HST5.out.row
            rwa [List.length_append, List.length_singleton] at this
          have HR5 := Lib.hid hr5
          have hcp5 := HST5.out.cap.2
          have hz5 : w.heap.size ≤ w5.heap.size := HB5.out.size
          clear hr5
          go_wp2_with (at_builtin; refine wpList_append_lies _ (by rfl) _ _ _ (by rfl) w.heap.size 53 i0 _ 2 48 Try.underlying54 hi hz0 hz1 hz2 rfl (by omega) _ (S1.length + 1) _ (by rfl) (HR5.out.alloc _) ⟨w5.heap.size, 0, none⟩ 1 1 [.slice t.a t.l.length t.cap, .slice u.a u.l.length u.cap] (by rfl) (by rfl) (World.news_of_block (cs := #[.slice t.a t.l.length t.cap, .slice u.a u.l.length u.cap]) (t := 53) (fr := (0, 0)) (heap_alloc_new w5 _)) (by simp [Value.oneCell']) (by omega) (by unfold maxLen; omega) (by omega) (by simp; omega) (w5.heap.size + 1) (by simp) ?_; intro gg cap2 w6 hown1 hgrow hat hlt)
          have hp6 := HST5.out.push (L := ⟨t.a, t.cap, t.l⟩) (M := ⟨u.a, u.cap, u.l⟩) (ob := .cells #[.slice t.a t.l.length t.cap, .slice u.a u.l.length u.cap] 53) HTT5.out HTU5.out (gg := gg) (cap2 := cap2) (w1 := w6) (n := S1.length + 1) (c := cap) (by rw [List.length_append, List.length_singleton]; exact hown1) hgrow
          have HP6 := Lib.hid hp6.1
          have HB6 := Lib.hid (HB5.out.trans hp6.2)
          clear hp6 hown1 hgrow hat hlt x0 x1 x2 x3 x4 y0 y1 y2 y3 y4
          go_wp2
          go_roundg (gk - 1)
          case measure => have := HWq.out; omega
          case rel => exact ⟨_, S1 ++ [(LA, MA)] ++ [(⟨t.a, t.cap, t.l⟩, ⟨u.a, u.cap, u.l⟩)], gg, cap2, rfl, by simp, HP6, HV, Lib.hid ⟨HWq.out.1, HWq.out.2.1⟩, HWF2, HB6⟩
    · have HV : Hid (tot = ord) := Lib.hid (by rw [HT.out]; exact orI_ne ho _)
      have hon : (ord == 0) = false := by simpa using ho
      go_wp2
      go_ret
      exact ⟨by rw [HV.out]; try rfl, HB.out⟩
set_option maxHeartbeats 4000000 in
theorem treesI (T U : AT) (w : World) (N : Nat) (hwf : T.pt.Wf) (hwf2 : U.pt.Wf) (hin : T.In w N) (hin2 : U.In w N) (hN : N ≤ w.heap.size) (hsz : T.pt.sz ≤ 2097152) :
    Calls Try.prog 31 #[T.val, U.val, .func (.func 44) #[] #[]] w fun e w' => e = .returned (.int .i64 (T.pt.cmp plainV U.pt)) ∧ Below w.heap.size w w' := by
  obtain ⟨i0, hi, hz0, hz1, hz2⟩ := info_parts levInfo
  have hcnt := cnt_le_sz T.pt
  have hcq := cnt_eq T
  have HF : Hid (∀ (t u : AT) (W : World), t.pt.Wf → u.pt.Wf → Calls Try.prog 36 #[t.val, u.val, .func (.func 44) #[] #[]] W fun e w' => e = .returned (.int .i64 (hdA plainV t u)) ∧ Below W.heap.size W w') := Lib.hid (fun t u W h1 h2 => fieldsI t u W)
  have HCI := Lib.hid compare_int
  have htot := cmpA plainV T U
  obtain ⟨tot, ht⟩ : ∃ tot, tot = T.pt.cmp plainV U.pt := ⟨_, rfl⟩
  rw [← ht] at htot ⊢
  have HSB : Hid (∀ t ∈ T.l, t.pt.Wf) := Lib.hid (wf_subA hwf)
  have HSB2 : Hid (∀ t ∈ U.l, t.pt.Wf) := Lib.hid (wf_subA hwf2)
  have HL := Lib.hid hin.lv'
  have HL2 := Lib.hid hin2.lv'
  have HTOT := Lib.hid htot
  have HK : Hid (2 * PT.cntL (AT.ptL T.l) + 1 ≤ 4194310) := Lib.hid (by omega)
  have HW1 := Lib.hid hwf
  have HW2 := Lib.hid hwf2
  clear hin hin2 hsz hcnt hcq ht htot hwf hwf2
  show Calls Try.prog 31 #[.agg #[.int .i64 T.k, .int .i64 T.n, .int .i64 T.x, .string ⟨T.s.toArray⟩, .slice T.a T.l.length T.cap], .agg #[.int .i64 U.k, .int .i64 U.n, .int .i64 U.x, .string ⟨U.s.toArray⟩, .slice U.a U.l.length U.cap], .func (.func 44) #[] #[]] w _
  go_enter Try.func31, Try.ntmps31
  go_wp2_with fail
  have hvc := vcbox w T.k T.n T.x ⟨T.s.toArray⟩ T.a T.l.length T.cap U.k U.n U.x ⟨U.s.toArray⟩ U.a U.l.length U.cap 28
  have hBB := two' w (.cells #[.int .i64 T.k, .int .i64 T.n, .int .i64 T.x, .string ⟨T.s.toArray⟩, .slice T.a T.l.length T.cap] 28) (.cells #[.int .i64 U.k, .int .i64 U.n, .int .i64 U.x, .string ⟨U.s.toArray⟩, .slice U.a U.l.length U.cap] 28)
  generalize ((w.alloc (.cells #[.int .i64 T.k, .int .i64 T.n, .int .i64 T.x, .string ⟨T.s.toArray⟩, .slice T.a T.l.length T.cap] 28)).alloc (.cells #[.int .i64 U.k, .int .i64 U.n, .int .i64 U.x, .string ⟨U.s.toArray⟩, .slice U.a U.l.length U.cap] 28)) = W0 at *
  refine (HF.out T U _ HW1.out HW2.out).mono ?_
  rintro e w1 ⟨rfl, hb1⟩
  have HB1 := Lib.hid (hBB.trans (hb1.mono hBB.size))
  obtain ⟨⟨c0, c1, c2, c3, c4⟩, ⟨d0, d1, d2, d3, d4⟩⟩ := (And.intro (hvc.1.blw hb1) (hvc.2.blw hb1))
  have hNw : w.heap.size ≤ w1.heap.size := HB1.out.size
  have hst := stk_new w1 N ⟨T.a, T.cap, T.l⟩ ⟨U.a, U.cap, U.l⟩ (HL.out.below HB1.out hN) (HL2.out.below HB1.out hN) (by omega)
  have HST := Lib.hid hst
  have HB2 := Lib.hid (HB1.out.trans ((vbox w1 (.cells #[(Lev.mk T.a T.cap T.l).val, (Lev.mk U.a U.cap U.l).val] 53)).mono hNw))
  clear hvc hBB hb1 hst HW1 HW2 HB1
  go_wp2_with fail
  go_loopg [7, 8] (2 * PT.cntL (AT.ptL T.l) + 1) (fun k o r wr => ∃ (ord : Int) (S : List Lev2) (g cap : Nat), o = .int .i64 ord ∧ r = .slice (some ⟨g, 0, none⟩) S.length cap ∧ Hid (StkAt wr N w.heap.size g cap S) ∧ Hid (tot = orI ord (stk plainV S)) ∧ Hid (wt S ≤ k ∧ k ≤ 4194310) ∧ Hid (∀ p ∈ S, (∀ t ∈ p.1.l, t.pt.Wf) ∧ (∀ t ∈ p.2.l, t.pt.Wf)) ∧ Hid (Below w.heap.size w wr))
  case atStart => exact ⟨_, [(⟨T.a, T.cap, T.l⟩, ⟨U.a, U.cap, U.l⟩)], w1.heap.size, 1, rfl, rfl, Lib.hid (HST.out.base hNw hN), Lib.hid (by rw [HTOT.out]; simp [stk, orI_z]), Lib.hid ⟨by simp [wt], HK.out⟩, Lib.hid (fun p hp => by obtain rfl := List.mem_singleton.1 hp; exact ⟨HSB.out, HSB2.out⟩), HB2⟩
  case round =>
    obtain ⟨ord, S, g, cap, rfl, rfl, HS, HT, HW, HWF, HB⟩ := hrel
    by_cases ho : ord = 0
    · subst ho
      rcases snoc_or S with rfl | ⟨S1, p, rfl⟩
      · have HV : Hid (tot = 0) := Lib.hid (by rw [HT.out]; rfl)
        go_wp2
        go_ret
        exact ⟨by rw [HV.out]; try rfl, HB.out⟩
      · obtain ⟨⟨a, c, l⟩, ⟨b, d, m⟩⟩ := p
        have hsl : (S1 ++ [((Lev.mk a c l), (Lev.mk b d m))]).length = S1.length + 1 := by simp
        obtain ⟨q0, q1, qf, hlv1, hlv2⟩ := HS.out.top
        have hcp := HS.out.cap
        have hg := HS.out.lt
        rw [hsl] at hcp ⊢
        clear hsl
        have HLV1 := Lib.hid hlv1
        have HLV2 := Lib.hid hlv2
        clear hlv1 hlv2
        have hSl : S1.length < 4194310 := by
          have h1 := wt_len (S1 ++ [((Lev.mk a c l), (Lev.mk b d m))])
          have h2 := HW.out
          simp at h1
          omega
        have hcm : cap ≤ maxLen := hcp.2
        unfold maxLen at hcm
        have hle : (0 : Int) < S1.length + 1 := by omega
        replace q0 : wr.cell? ⟨g, S1.length * 2, none⟩ = some (.slice a l.length c) := q0
        replace q1 : wr.cell? ⟨g, S1.length * 2 + 1, none⟩ = some (.slice b m.length d) := q1
        by_cases hE : l = [] ∨ m = []
        · have HV : Hid (tot = orI (cmpI l.length m.length) (stk plainV S1)) := Lib.hid (by rw [HT.out, orI_zero, stk_snoc]; simp only []; rw [cmpL_none plainV (AT.ptL l) (AT.ptL m) (by rcases hE with rfl | rfl; exact .inl rfl; exact .inr rfl), AT.ptL_length, AT.ptL_length])
          have hEl : (l.length : Int) = 0 ∨ (((l.length : Int) == 0) = false ∧ (m.length : Int) = 0) := by
            rcases hE with rfl | rfl
            · exact .inl rfl
            · by_cases h : l.length = 0
              · exact .inl (by omega)
              · exact .inr ⟨by simpa using h, rfl⟩
          have h1 := fun W => (HCI.out l.length m.length W).mono (fun e w' h => (⟨h.1, h.2.symm⟩ : e = .returned (.int .i64 (cmpI l.length m.length)) ∧ w' = W))
          generalize cmpI l.length m.length = cc at *
          have HPOP := Lib.hid HS.out.pop
          have HWF2 := Lib.hid (fun p hp => HWF.out p (by rw [List.mem_append]; exact .inl hp) : ∀ p ∈ S1, (∀ t ∈ p.1.l, t.pt.Wf) ∧ (∀ t ∈ p.2.l, t.pt.Wf))
          have HW2 : Hid (wt S1 ≤ gk - 1 ∧ gk - 1 ≤ 4194310 ∧ 0 < gk) := Lib.hid (by
            have h2 := HW.out
            rw [wt_append] at h2
            have : 1 ≤ wt [((Lev.mk a c l), (Lev.mk b d m))] := by simp [wt]
            omega)
          clear hE HS HT HW HWF HLV1 HLV2
          rcases hEl with hl0 | ⟨hl0, hm0⟩
          · rw [hl0] at h1
            have H1 := Lib.hid h1
            clear h1
            go_wp2_with fail
            refine wp_region_still_tail 10 (by kernel_rfl) (by kernel_rfl) ?_
            simp only [List.take_succ_cons, List.take_zero, List.drop_succ_cons, List.drop_zero]
            repeat still_step
            refine wpStill_nil ?_
            change wpList _ _ _ _ _ (World.drew _)
            have HPD := Lib.hid (StkAt.drew HPOP.out)
            have HBD := Lib.hid (Below.drew HB.out)
            clear q0 q1 qf
            generalize World.drew _ = w2 at *
            go_wp2_with (go_at_call 37; refine (H1.out _).mono ?_; rintro e w3 ⟨rfl, rfl⟩)
            go_roundg (gk - 1)
            case measure => have := HW2.out; omega
            case rel => exact ⟨_, S1, g, cap, rfl, rfl, HPD, HV, Lib.hid ⟨HW2.out.1, HW2.out.2.1⟩, HWF2, HBD⟩
          · rw [hm0] at h1
            have H1 := Lib.hid h1
            clear h1
            go_wp2_with fail
            refine wp_region_still_tail 10 (by kernel_rfl) (by kernel_rfl) ?_
            simp only [List.take_succ_cons, List.take_zero, List.drop_succ_cons, List.drop_zero]
            repeat still_step
            refine wpStill_nil ?_
            change wpList _ _ _ _ _ (World.drew _)
            have HPD := Lib.hid (StkAt.drew HPOP.out)
            have HBD := Lib.hid (Below.drew HB.out)
            clear q0 q1 qf
            generalize World.drew _ = w2 at *
            go_wp2_with (go_at_call 37; refine (H1.out _).mono ?_; rintro e w3 ⟨rfl, rfl⟩)
            go_roundg (gk - 1)
            case measure => have := HW2.out; omega
            case rel => exact ⟨_, S1, g, cap, rfl, rfl, HPD, HV, Lib.hid ⟨HW2.out.1, HW2.out.2.1⟩, HWF2, HBD⟩
        · rcases l with _ | ⟨t, tl⟩
          · exact absurd (.inl rfl) hE
          rcases m with _ | ⟨u, ul⟩
          · exact absurd (.inr rfl) hE
          clear hE
          obtain ⟨b1, o1, rfl, hbN1, hC1⟩ := HLV1.out.cell 0 (by simp)
          obtain ⟨b2, o2, rfl, hbN2, hC2⟩ := HLV2.out.cell 0 (by simp)
          replace hC1 : CellsAt wr b1 o1 t := by simpa using hC1
          replace hC2 : CellsAt wr b2 o2 u := by simpa using hC2
          replace q0 : wr.cell? ⟨g, S1.length * 2, none⟩ = some (.slice (some ⟨b1, o1, none⟩) (tl.length + 1) c) := q0
          replace q1 : wr.cell? ⟨g, S1.length * 2 + 1, none⟩ = some (.slice (some ⟨b2, o2, none⟩) (ul.length + 1) d) := q1
          have hcl : tl.length + 1 ≤ c := HLV1.out.hc
          have hcd : ul.length + 1 ≤ d := HLV2.out.hc
          have HC1 := Lib.hid hC1
          have HC2 := Lib.hid hC2
          obtain ⟨e0, e1, e2, e3, e4⟩ := hC1
          obtain ⟨f0, f1, f2, f3, f4⟩ := hC2
          have hl1 : ((tl.length : Int) + 1 == 0) = false := by rw [beq_eq_false_iff_ne]; omega
          have hl2 : ((ul.length : Int) + 1 == 0) = false := by rw [beq_eq_false_iff_ne]; omega
          have hl3 : (0 : Int) < (tl.length : Int) + 1 := by omega
          have hl4 : (0 : Int) < (ul.length : Int) + 1 := by omega
          go_wp2_with fail
          have HKK : Hid (∀ W' : World, Rl wr W' → Rl wr W' ∧ wr.heap.size ≤ W'.heap.size ∧ W'.cell? ⟨g, S1.length * 2, none⟩ = some (.slice (some ⟨b1, o1, none⟩) (tl.length + 1) c) ∧ W'.cell? ⟨g, S1.length * 2 + 1, none⟩ = some (.slice (some ⟨b2, o2, none⟩) (ul.length + 1) d) ∧ W'.cell? ⟨b1, o1, none⟩ = some (.int .i64 t.k) ∧ W'.cell? ⟨b1, o1 + 1, none⟩ = some (.int .i64 t.n) ∧ W'.cell? ⟨b1, o1 + 2, none⟩ = some (.int .i64 t.x) ∧ W'.cell? ⟨b1, o1 + 3, none⟩ = some (.string ⟨t.s.toArray⟩) ∧ W'.cell? ⟨b1, o1 + 4, none⟩ = some (.slice t.a t.l.length t.cap) ∧ W'.cell? ⟨b2, o2, none⟩ = some (.int .i64 u.k) ∧ W'.cell? ⟨b2, o2 + 1, none⟩ = some (.int .i64 u.n) ∧ W'.cell? ⟨b2, o2 + 2, none⟩ = some (.int .i64 u.x) ∧ W'.cell? ⟨b2, o2 + 3, none⟩ = some (.string ⟨u.s.toArray⟩) ∧ W'.cell? ⟨b2, o2 + 4, none⟩ = some (.slice u.a u.l.length u.cap)) := Lib.hid (fun W' h => ⟨h, h.z, keep_below h.b q0, keep_below h.b q1, keep_below h.b e0, keep_below h.b e1, keep_below h.b e2, keep_below h.b e3, keep_below h.b e4, keep_below h.b f0, keep_below h.b f1, keep_below h.b f2, keep_below h.b f3, keep_below h.b f4⟩)
          have h0 := Rl.refl wr
          go_cut [10, 11] from 22 to 103 (fun y z wx => ∃ X Y, y = .pointer (some ⟨X, 0, none⟩) ∧ z = .pointer (some ⟨Y, 0, none⟩) ∧ Hid (VC wx X t.k t.n t.x ⟨t.s.toArray⟩ t.a t.l.length t.cap ∧ VC wx Y u.k u.n u.x ⟨u.s.toArray⟩ u.a u.l.length u.cap ∧ Rl wr wx ∧ wr.heap.size ≤ X ∧ wr.heap.size ≤ Y))
          case first =>
            go_region_held3 (fun W' => Rl wr W' ∧ wr.heap.size ≤ W'.heap.size ∧ W'.cell? ⟨g, S1.length * 2, none⟩ = some (.slice (some ⟨b1, o1, none⟩) (tl.length + 1) c) ∧ W'.cell? ⟨g, S1.length * 2 + 1, none⟩ = some (.slice (some ⟨b2, o2, none⟩) (ul.length + 1) d) ∧ W'.cell? ⟨b1, o1, none⟩ = some (.int .i64 t.k) ∧ W'.cell? ⟨b1, o1 + 1, none⟩ = some (.int .i64 t.n) ∧ W'.cell? ⟨b1, o1 + 2, none⟩ = some (.int .i64 t.x) ∧ W'.cell? ⟨b1, o1 + 3, none⟩ = some (.string ⟨t.s.toArray⟩) ∧ W'.cell? ⟨b1, o1 + 4, none⟩ = some (.slice t.a t.l.length t.cap) ∧ W'.cell? ⟨b2, o2, none⟩ = some (.int .i64 u.k) ∧ W'.cell? ⟨b2, o2 + 1, none⟩ = some (.int .i64 u.n) ∧ W'.cell? ⟨b2, o2 + 2, none⟩ = some (.int .i64 u.x) ∧ W'.cell? ⟨b2, o2 + 3, none⟩ = some (.string ⟨u.s.toArray⟩) ∧ W'.cell? ⟨b2, o2 + 4, none⟩ = some (.slice u.a u.l.length u.cap)) ((refine HKK.out _ ?_; repeat (first | assumption | refine Rl.drew ?_ | refine Rl.alloc ?_ _))) ((fail))
            all_goals
              go_split_ands
              go_wp2
              go_meet
              case rel => refine ⟨_, _, rfl, rfl, Lib.hid ⟨⟨by simp [go_sem], by simp [go_sem], by simp [go_sem], by simp [go_sem], by simp [go_sem]⟩, ⟨by simp [go_sem], by simp [go_sem], by simp [go_sem], by simp [go_sem], by simp [go_sem]⟩, by assumption, by simp, by simp⟩⟩
          case rest =>
          obtain ⟨X, Y, rfl, rfl, HXY⟩ := hcut
          have hrl := HXY.out.2.2.1
          have HS2 := Lib.hid (HS.out.blw hrl.b)
          have HB2 := Lib.hid (HB.out.trans (hrl.b.mono HB.out.size))
          clear q0 q1 qf e0 e1 e2 e3 e4 f0 f1 f2 f3 f4 h0 HKK
          obtain ⟨q0, q1, qf, hlv1, hlv2⟩ := HS2.out.top
          have HLV3 := Lib.hid hlv1
          have HLV4 := Lib.hid hlv2
          clear hlv1 hlv2 HLV1 HLV2 hrl
          replace q0 : wc.cell? ⟨g, S1.length * 2, none⟩ = some (.slice (some ⟨b1, o1, none⟩) (tl.length + 1) c) := q0
          replace q1 : wc.cell? ⟨g, S1.length * 2 + 1, none⟩ = some (.slice (some ⟨b2, o2, none⟩) (ul.length + 1) d) := q1
          go_wp2_with fail
          go_region
          have hst3 : StkAt (((wc.setCell ⟨g, S1.length * 2, none⟩ (.slice (if c = 1 then some ⟨b1, o1, none⟩ else some ⟨b1, o1 + 5, none⟩) tl.length (c - 1))).setCell ⟨g, S1.length * 2 + 1, none⟩ (.slice (if d = 1 then some ⟨b2, o2, none⟩ else some ⟨b2, o2 + 5, none⟩) ul.length (d - 1))).drew) N w.heap.size g cap (S1 ++ [((Lev.mk (if c = 1 then some ⟨b1, o1, none⟩ else some ⟨b1, o1 + 5, none⟩) (c - 1) tl), (Lev.mk (if d = 1 then some ⟨b2, o2, none⟩ else some ⟨b2, o2 + 5, none⟩) (d - 1) ul))]) := (HS2.out.setTop (Lev.mk (if c = 1 then some ⟨b1, o1, none⟩ else some ⟨b1, o1 + 5, none⟩) (c - 1) tl) (Lev.mk (if d = 1 then some ⟨b2, o2, none⟩ else some ⟨b2, o2 + 5, none⟩) (d - 1) ul) (lv_tail_if HLV3.out) (lv_tail_if HLV4.out)).drew
          have hb3 : Below w.heap.size w (((wc.setCell ⟨g, S1.length * 2, none⟩ (.slice (if c = 1 then some ⟨b1, o1, none⟩ else some ⟨b1, o1 + 5, none⟩) tl.length (c - 1))).setCell ⟨g, S1.length * 2 + 1, none⟩ (.slice (if d = 1 then some ⟨b2, o2, none⟩ else some ⟨b2, o2 + 5, none⟩) ul.length (d - 1))).drew) := ((HB2.out.setCell (p := ⟨g, S1.length * 2, none⟩) hg.1 (.slice (if c = 1 then some ⟨b1, o1, none⟩ else some ⟨b1, o1 + 5, none⟩) tl.length (c - 1))).setCell (p := ⟨g, S1.length * 2 + 1, none⟩) hg.1 (.slice (if d = 1 then some ⟨b2, o2, none⟩ else some ⟨b2, o2 + 5, none⟩) ul.length (d - 1))).drew
          obtain ⟨hX, hY, hr3, hXg, hYg⟩ := HXY.out
          have hgX : g ≠ X := by omega
          have hgY : g ≠ Y := by omega
          have hvX : VC (((wc.setCell ⟨g, S1.length * 2, none⟩ (.slice (if c = 1 then some ⟨b1, o1, none⟩ else some ⟨b1, o1 + 5, none⟩) tl.length (c - 1))).setCell ⟨g, S1.length * 2 + 1, none⟩ (.slice (if d = 1 then some ⟨b2, o2, none⟩ else some ⟨b2, o2 + 5, none⟩) ul.length (d - 1))).drew) X t.k t.n t.x ⟨t.s.toArray⟩ t.a t.l.length t.cap := ((hX.set hgX).set hgX).drew
          have hvY : VC (((wc.setCell ⟨g, S1.length * 2, none⟩ (.slice (if c = 1 then some ⟨b1, o1, none⟩ else some ⟨b1, o1 + 5, none⟩) tl.length (c - 1))).setCell ⟨g, S1.length * 2 + 1, none⟩ (.slice (if d = 1 then some ⟨b2, o2, none⟩ else some ⟨b2, o2 + 5, none⟩) ul.length (d - 1))).drew) Y u.k u.n u.x ⟨u.s.toArray⟩ u.a u.l.length u.cap := ((hY.set hgY).set hgY).drew
          have HTT : Hid (Lv wc N t.a t.cap t.l) := Lib.hid (HLV3.out.sub t (by simp)).lv'
          have HTU : Hid (Lv wc N u.a u.cap u.l) := Lib.hid (HLV4.out.sub u (by simp)).lv'
          have hk3 : ∀ k, k < N → (((wc.setCell ⟨g, S1.length * 2, none⟩ (.slice (if c = 1 then some ⟨b1, o1, none⟩ else some ⟨b1, o1 + 5, none⟩) tl.length (c - 1))).setCell ⟨g, S1.length * 2 + 1, none⟩ (.slice (if d = 1 then some ⟨b2, o2, none⟩ else some ⟨b2, o2 + 5, none⟩) ul.length (d - 1))).drew).heap[k]? = wc.heap[k]? := fun k hk => (Below.heap_setCell _ _ _ _ (by show k ≠ g; omega)).trans (Below.heap_setCell _ _ _ _ (by show k ≠ g; omega))
          have HTT3 := Lib.hid (HTT.out.kept hk3)
          have HTU3 := Lib.hid (HTU.out.kept hk3)
          have HV : Hid (tot = orI (hdA plainV t u) (stk plainV (S1 ++ [((Lev.mk (if c = 1 then some ⟨b1, o1, none⟩ else some ⟨b1, o1 + 5, none⟩) (c - 1) tl), (Lev.mk (if d = 1 then some ⟨b2, o2, none⟩ else some ⟨b2, o2 + 5, none⟩) (d - 1) ul))] ++ [(Lev.mk t.a t.cap t.l, Lev.mk u.a u.cap u.l)]))) := Lib.hid (by rw [HT.out, orI_zero]; exact stk_step plainV S1 ⟨some ⟨b1, o1, none⟩, c, t :: tl⟩ ⟨some ⟨b2, o2, none⟩, d, u :: ul⟩ (Lev.mk (if c = 1 then some ⟨b1, o1, none⟩ else some ⟨b1, o1 + 5, none⟩) (c - 1) tl) (Lev.mk (if d = 1 then some ⟨b2, o2, none⟩ else some ⟨b2, o2 + 5, none⟩) (d - 1) ul) ⟨t.a, t.cap, t.l⟩ ⟨u.a, u.cap, u.l⟩ t u tl ul rfl rfl rfl rfl rfl rfl)
          have HWq : Hid (wt (S1 ++ [((Lev.mk (if c = 1 then some ⟨b1, o1, none⟩ else some ⟨b1, o1 + 5, none⟩) (c - 1) tl), (Lev.mk (if d = 1 then some ⟨b2, o2, none⟩ else some ⟨b2, o2 + 5, none⟩) (d - 1) ul))] ++ [(Lev.mk t.a t.cap t.l, Lev.mk u.a u.cap u.l)]) ≤ gk - 1 ∧ gk - 1 ≤ 4194310 ∧ 0 < gk) := Lib.hid (by
            have h2 := HW.out
            rw [wt_step S1 ⟨some ⟨b1, o1, none⟩, c, t :: tl⟩ ⟨some ⟨b2, o2, none⟩, d, u :: ul⟩ (Lev.mk (if c = 1 then some ⟨b1, o1, none⟩ else some ⟨b1, o1 + 5, none⟩) (c - 1) tl) (Lev.mk (if d = 1 then some ⟨b2, o2, none⟩ else some ⟨b2, o2 + 5, none⟩) (d - 1) ul) ⟨t.a, t.cap, t.l⟩ ⟨u.a, u.cap, u.l⟩ t tl rfl rfl rfl] at h2
            omega)
          have HWF2 : Hid (∀ p ∈ S1 ++ [((Lev.mk (if c = 1 then some ⟨b1, o1, none⟩ else some ⟨b1, o1 + 5, none⟩) (c - 1) tl), (Lev.mk (if d = 1 then some ⟨b2, o2, none⟩ else some ⟨b2, o2 + 5, none⟩) (d - 1) ul))] ++ [(Lev.mk t.a t.cap t.l, Lev.mk u.a u.cap u.l)], (∀ t ∈ p.1.l, t.pt.Wf) ∧ (∀ t ∈ p.2.l, t.pt.Wf)) := Lib.hid (by
            have h1 := HWF.out (⟨some ⟨b1, o1, none⟩, c, t :: tl⟩, ⟨some ⟨b2, o2, none⟩, d, u :: ul⟩) (by simp)
            intro p hp
            simp only [List.mem_append, List.mem_cons, List.not_mem_nil, or_false] at hp
            rcases hp with (hp | rfl) | rfl
            · exact HWF.out p (by simp [hp])
            · exact ⟨fun x hx => h1.1 x (List.mem_cons_of_mem _ hx), fun x hx => h1.2 x (List.mem_cons_of_mem _ hx)⟩
            · exact ⟨wf_subA (h1.1 t (by simp)), wf_subA (h1.2 u (by simp))⟩)
          have HWt : Hid (t.pt.Wf ∧ u.pt.Wf) := Lib.hid (by
            have h1 := HWF.out (⟨some ⟨b1, o1, none⟩, c, t :: tl⟩, ⟨some ⟨b2, o2, none⟩, d, u :: ul⟩) (by simp)
            exact ⟨h1.1 t (by simp), h1.2 u (by simp)⟩)
          have HST3 := Lib.hid hst3
          have HB3 := Lib.hid hb3
          clear hst3 hb3 hX hY hr3 hXg hYg HXY HTT HTU hk3 q0 q1 qf HS2 HB2 HLV3 HLV4 HS HT HW HWF HB hcl hcd HC1 HC2 hgX hgY
          generalize (((wc.setCell ⟨g, S1.length * 2, none⟩ (.slice (if c = 1 then some ⟨b1, o1, none⟩ else some ⟨b1, o1 + 5, none⟩) tl.length (c - 1))).setCell ⟨g, S1.length * 2 + 1, none⟩ (.slice (if d = 1 then some ⟨b2, o2, none⟩ else some ⟨b2, o2 + 5, none⟩) ul.length (d - 1))).drew) = w4 at *
          generalize (Value.slice (if c = 1 then some ⟨b1, o1, none⟩ else some ⟨b1, o1 + 5, none⟩) tl.length (c - 1)) = z1
          generalize (Value.slice (if d = 1 then some ⟨b2, o2, none⟩ else some ⟨b2, o2 + 5, none⟩) ul.length (d - 1)) = z2
          generalize (Lev.mk (if c = 1 then some ⟨b1, o1, none⟩ else some ⟨b1, o1 + 5, none⟩) (c - 1) tl) = LA at *
          generalize (Lev.mk (if d = 1 then some ⟨b2, o2, none⟩ else some ⟨b2, o2 + 5, none⟩) (d - 1) ul) = MA at *
          obtain ⟨x0, x1, x2, x3, x4⟩ := hvX
          obtain ⟨y0, y1, y2, y3, y4⟩ := hvY
          have HVX := Lib.hid (VC.mk x0 x1 x2 x3 x4)
          have HVY := Lib.hid (VC.mk y0 y1 y2 y3 y4)
          go_wp2_with fail
          refine (HF.out t u _ HWt.out.1 HWt.out.2).mono ?_
          rintro e w5 ⟨rfl, hb5⟩
          have HST5 := Lib.hid (HST3.out.blw hb5)
          have HB5 := Lib.hid (HB3.out.trans (hb5.mono HB3.out.size))
          have HTT5 := Lib.hid (HTT3.out.below hb5 (Nat.le_trans hN HB3.out.size))
          have HTU5 := Lib.hid (HTU3.out.below hb5 (Nat.le_trans hN HB3.out.size))
          clear x0 x1 x2 x3 x4 y0 y1 y2 y3 y4
          obtain ⟨x0, x1, x2, x3, x4⟩ := HVX.out.blw hb5
          obtain ⟨y0, y1, y2, y3, y4⟩ := HVY.out.blw hb5
          clear hb5 HVX HVY HST3 HB3 HTT3 HTU3
          have hr5 : w5.ownsRow w.heap.size 53 2 (.slice (some ⟨g, 0, none⟩) (S1.length + 1) cap) (S1.length + 1) (lvcells (S1 ++ [(LA, MA)])) := by
            have := HST5.out.row
            rwa [List.length_append, List.length_singleton] at this
          have HR5 := Lib.hid hr5
          have hcp5 := HST5.out.cap.2
          have hz5 : w.heap.size ≤ w5.heap.size := HB5.out.size
          clear hr5
          go_wp2_with (at_builtin; refine wpList_append_lies _ (by rfl) _ _ _ (by rfl) w.heap.size 53 i0 _ 2 48 Try.underlying54 hi hz0 hz1 hz2 rfl (by omega) _ (S1.length + 1) _ (by rfl) (HR5.out.alloc _) ⟨w5.heap.size, 0, none⟩ 1 1 [.slice t.a t.l.length t.cap, .slice u.a u.l.length u.cap] (by rfl) (by rfl) (World.news_of_block (cs := #[.slice t.a t.l.length t.cap, .slice u.a u.l.length u.cap]) (t := 53) (fr := (0, 0)) (heap_alloc_new w5 _)) (by simp [Value.oneCell']) (by omega) (by unfold maxLen; omega) (by omega) (by simp; omega) (w5.heap.size + 1) (by simp) ?_; intro gg cap2 w6 hown1 hgrow hat hlt)
          have hp6 := HST5.out.push (L := ⟨t.a, t.cap, t.l⟩) (M := ⟨u.a, u.cap, u.l⟩) (ob := .cells #[.slice t.a t.l.length t.cap, .slice u.a u.l.length u.cap] 53) HTT5.out HTU5.out (gg := gg) (cap2 := cap2) (w1 := w6) (n := S1.length + 1) (c := cap) (by rw [List.length_append, List.length_singleton]; exact hown1) hgrow
          have HP6 := Lib.hid hp6.1
          have HB6 := Lib.hid (HB5.out.trans hp6.2)
          clear hp6 hown1 hgrow hat hlt x0 x1 x2 x3 x4 y0 y1 y2 y3 y4
          go_wp2
          go_roundg (gk - 1)
          case measure => have := HWq.out; omega
          case rel => exact ⟨_, S1 ++ [(LA, MA)] ++ [(⟨t.a, t.cap, t.l⟩, ⟨u.a, u.cap, u.l⟩)], gg, cap2, rfl, by simp, HP6, HV, Lib.hid ⟨HWq.out.1, HWq.out.2.1⟩, HWF2, HB6⟩
    · have HV : Hid (tot = ord) := Lib.hid (by rw [HT.out]; exact orI_ne ho _)
      have hon : (ord == 0) = false := by simpa using ho
      go_wp2
      go_ret
      exact ⟨by rw [HV.out]; try rfl, HB.out⟩
end Go.Proofs.Ytilgncebhgplaaa
