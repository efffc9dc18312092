import Derived.Test.YtdjnkcoepmackaaG11
import Derived.Test.YtdjnkcoepmackaaG0
import Derived.Lib.Hide
import Derived.Outline
import Derived.ProofKit
import Derived.StillTailTactics
import Derived.Test.YtdjnkcoepmackaaG7
import Derived.Test.YtdjnkcoepmackaaG3
import Derived.Deep.RegionHeld3
/- SameVal of the model, and sameVal of the laws. -/
namespace Go.Proofs.Ytdjnkcoepmackaa
open Go.RowKit
theorem two' (w : World) (a b : Obj) : Below w.heap.size w ((w.alloc a).alloc b) := ((Below.refl w.heap.size w).alloc (Nat.le_refl _) a).alloc (by simp) b
theorem box55 (w : World) (k n x k2 n2 x2 : Int) (s s2 : ByteArray) (a a2 : Option Addr) (len len2 cap cap2 : Nat) (t : TypeId) {wr : World}
    (hb : Below (w.heap.size + 1 + 1) ((w.alloc (.cells #[.int .i64 k, .int .i64 n, .int .i64 x, .string s, .slice a len cap] t)).alloc (.cells #[.int .i64 k2, .int .i64 n2, .int .i64 x2, .string s2, .slice a2 len2 cap2] t)) wr) :
    wr.cell? ⟨w.heap.size, 4, none⟩ = some (.slice a len cap) ∧ wr.cell? ⟨w.heap.size + 1, 4, none⟩ = some (.slice a2 len2 cap2) := by
  refine ⟨?_, ?_⟩ <;> exact (hb.cell (by simp; try omega)).trans (by simp [go_sem])
theorem hd_cases {k k2 n n2 x x2 : Int} {s s2 : List UInt8} {a b : Nat} (h : ¬ (k = k2 ∧ n = n2 ∧ x = x2 ∧ s = s2 ∧ a = b)) :
    ¬ k = k2 ∨ (k = k2 ∧ ¬ n = n2) ∨ (k = k2 ∧ n = n2 ∧ ¬ x = x2) ∨ (k = k2 ∧ n = n2 ∧ x = x2 ∧ (s == s2) = false ∧ (s != s2) = true) ∨ (k = k2 ∧ n = n2 ∧ x = x2 ∧ s = s2 ∧ ¬ (a : Int) = b ∧ ((a : Int) == b) = false) := by
  by_cases h0 : k = k2
  · by_cases h1 : n = n2
    · by_cases h2 : x = x2
      · by_cases h3 : s = s2
        · exact .inr (.inr (.inr (.inr ⟨h0, h1, h2, h3, by intro e; exact h ⟨h0, h1, h2, h3, by omega⟩, by rw [beq_eq_false_iff_ne]; intro e; exact h ⟨h0, h1, h2, h3, by omega⟩⟩)))
        · exact .inr (.inr (.inr (.inl ⟨h0, h1, h2, by simpa using h3, by simpa using h3⟩)))
      · exact .inr (.inr (.inl ⟨h0, h1, h2⟩))
    · exact .inr (.inl ⟨h0, h1⟩)
  · exact .inl h0
set_option maxHeartbeats 4000000 in
set_option maxRecDepth 100000 in
theorem same_spec (T : AT) : T.pt.Wf → ∀ (U : AT) (w : World) (N : Nat), U.pt.Wf → T.In w N → U.In w N → N ≤ w.heap.size → Calls Try.prog 80 #[T.val, U.val] w fun e w' => e = .returned (.bool (T.pt.same U.pt)) ∧ Below w.heap.size w w' := by
  induction T using AT.ind with
  | h k n x s a cap l ih =>
    intro hwf U w N hwf2 hin hin2 hN
    obtain ⟨k2, n2, x2, s2, b, cap2, m⟩ := U
    have hll : l.length ≤ 9223372036854775807 := by
      cases hwf with
      | mk hk hn hx hs hl sub => rw [AT.ptL_length] at hl; exact hl
    have hml : m.length ≤ 9223372036854775807 := by
      cases hwf2 with
      | mk hk hn hx hs hl sub => rw [AT.ptL_length] at hl; exact hl
    have hc := fun (t : AT) (ht : t ∈ l) (u : AT) (hu : u ∈ m) (w1 : World) (hb : Below w.heap.size w w1) => ih t ht (hwf.sub' t.pt (by rw [AT.ptL_eq]; exact List.mem_map_of_mem ht)) u w1 N (hwf2.sub' u.pt (by rw [AT.ptL_eq]; exact List.mem_map_of_mem hu)) ((hin.lv.sub t ht).blw hb hN) ((hin2.lv.sub u hu).blw hb hN) (Nat.le_trans hN hb.size)
    have H := Lib.hid hin.lv
    have H2 := Lib.hid hin2.lv
    have HC := Lib.hid hc
    have hsame : ∀ B, (AT.mk k n x s a cap l).pt.same (AT.mk k2 n2 x2 s2 b cap2 m).pt = B ↔ ((k == k2 && n == n2 && x == x2 && s == s2 && l.length == m.length) && PT.sameL (AT.ptL l) (AT.ptL m)) = B := fun B => by rw [ptsame_eq]; rfl
    have HS := Lib.hid hsame
    clear hc ih hin hin2 hwf hwf2 hsame
    show Calls Try.prog 80 #[.agg #[.int .i64 k, .int .i64 n, .int .i64 x, .string ⟨s.toArray⟩, .slice a l.length cap], .agg #[.int .i64 k2, .int .i64 n2, .int .i64 x2, .string ⟨s2.toArray⟩, .slice b m.length cap2]] w _
    by_cases hf : k = k2 ∧ n = n2 ∧ x = x2 ∧ s = s2 ∧ l.length = m.length
    · obtain ⟨rfl, rfl, rfl, rfl, hlen⟩ := hf
      have HS2 : Hid (∀ B, PT.sameL (AT.ptL l) (AT.ptL m) = B → (AT.mk k n x s a cap l).pt.same (AT.mk k n x s b cap2 m).pt = B) := Lib.hid (fun B h => (HS.out B).2 (by simp [hlen, h]))
      have HL := Lib.hid hlen
      rw [← hlen]
      clear hlen HS
      go_enter Try.func80, Try.ntmps80
      go_wp2
      go_loopw [5] (fun i wr => ∃ i' : Nat, i = .int .i64 i' ∧ i' ≤ l.length ∧ PT.sameL ((AT.ptL l).take i') ((AT.ptL m).take i') = true ∧ Below (w.heap.size + 1 + 1) ((w.alloc (.cells #[.int .i64 k, .int .i64 n, .int .i64 x, .string ⟨s.toArray⟩, .slice a l.length cap] 28)).alloc (.cells #[.int .i64 k, .int .i64 n, .int .i64 x, .string ⟨s.toArray⟩, .slice b l.length cap2] 28)) wr) (fun i _ => l.length - (intOf i).toNat)
      case atStart => exact ⟨0, rfl, Nat.zero_le _, by simp [PT.sameL], Below.refl _ _⟩
      case round =>
        obtain ⟨i', rfl, hi', hsm, hb⟩ := hrel
        obtain ⟨f4, g4⟩ := box55 w k n x k n x _ _ a b _ _ cap cap2 28 hb
        have hBw : Below w.heap.size w wr := (two' _ _ _).trans (hb.mono (by omega))
        have HSM := Lib.hid hsm
        have HB := Lib.hid hb
        clear hsm hb
        by_cases hlt : i' < l.length
        · obtain ⟨c, o, rfl, hcN, hC⟩ := H.out.cell i' hlt
          have hlt2 : i' < m.length := by rw [← HL.out]; exact hlt
          obtain ⟨c2, o2, rfl, hcN2, hC2⟩ := H2.out.cell i' hlt2
          have hC := hC.keep (hBw.block c (by omega))
          have hC2 := hC2.keep (hBw.block c2 (by omega))
          have hc := fun (w1 : World) (hb1 : Below wr.heap.size wr w1) => HC.out l[i'] (List.getElem_mem hlt) m[i'] (List.getElem_mem hlt2) w1 (hBw.trans (hb1.mono hBw.size))
          have HCC := Lib.hid hc
          have e1 : i' < (AT.ptL l).length := by rw [AT.ptL_length]; exact hlt
          have e2 : i' < (AT.ptL m).length := by rw [AT.ptL_length]; exact hlt2
          have hst := sameL_split (AT.ptL l) (AT.ptL m) i' e1 e2
          have hst2 := sameL_false (AT.ptL l) (AT.ptL m) i' e1 e2
          rw [ptL_get l i' hlt, ptL_get m i' hlt2] at hst hst2
          obtain ⟨V, hV⟩ : ∃ V, V = l[i'] := ⟨_, rfl⟩
          obtain ⟨V2, hV2⟩ : ∃ V2, V2 = m[i'] := ⟨_, rfl⟩
          rw [← hV] at hC HCC hst hst2
          rw [← hV2] at hC2 HCC hst hst2
          have HST := Lib.hid hst
          have HST2 := Lib.hid hst2
          obtain ⟨c0, c1, c2, c3, c4⟩ := hC
          obtain ⟨d0, d1, d2, d3, d4⟩ := hC2
          have HBw := Lib.hid hBw
          have hi0 : (0 : Int) ≤ i' := by omega
          have hi1 : (i' : Int) < l.length := by omega
          clear hV hV2 hst hst2 hc e1 e2 hBw
          go_wp2_with fail
          go_still_tail 10, (by kernel_rfl)
          go_wp2_with fail
          refine (HCC.out _ ((Below.refl _ _).drew)).mono ?_
          rintro e w2 ⟨rfl, hb2⟩
          have HB2 := Lib.hid (Below.trans ((Below.refl wr.heap.size wr).drew) hb2)
          have hz := HBw.out.size
          clear hb2
          cases hv : V.pt.same V2.pt
          · have HV := Lib.hid hv
            clear hv
            go_wp2
            go_ret
            exact ⟨by rw [HS2.out false (HST2.out HV.out)]; rfl, HBw.out.trans (HB2.out.mono hz)⟩
          · have HV := Lib.hid hv
            clear hv
            go_wp2
            go_roundw
            case rel => exact ⟨i' + 1, by go_num, by omega, by rw [HST.out, HSM.out, HV.out]; rfl, HB.out.trans (HB2.out.mono (by have := HB.out.size; simp at this; omega))⟩
            case measure => simp [intOf]; omega
        · have hi2 : i' = l.length := by omega
          subst hi2
          have HBw := Lib.hid hBw
          clear hBw
          have HT : Hid (PT.sameL (AT.ptL l) (AT.ptL m) = true) := Lib.hid (by
            have := HSM.out
            rw [List.take_of_length_le (by simp), List.take_of_length_le (by simp [HL.out])] at this
            exact this)
          go_wp2
          go_ret
          exact ⟨by rw [HS2.out true HT.out]; rfl, HBw.out⟩
    · have hfalse : (k == k2 && n == n2 && x == x2 && s == s2 && l.length == m.length) = false := by
        rw [Bool.eq_false_iff]
        intro h
        simp only [Bool.and_eq_true, beq_iff_eq] at h
        exact hf ⟨h.1.1.1.1, h.1.1.1.2, h.1.1.2, h.1.2, h.2⟩
      have HR : Hid ((AT.mk k n x s a cap l).pt.same (AT.mk k2 n2 x2 s2 b cap2 m).pt = false) := Lib.hid ((HS.out false).2 (by rw [hfalse]; rfl))
      clear hfalse HS H H2 HC
      rcases hd_cases hf with h0 | ⟨rfl, h1⟩ | ⟨rfl, rfl, h2⟩ | ⟨rfl, rfl, rfl, h3, h4⟩ | ⟨rfl, rfl, rfl, rfl, h5, h6⟩
      all_goals clear hf
      all_goals
        go_enter Try.func80, Try.ntmps80
        go_wp2
        go_ret
        exact ⟨by rw [HR.out]; rfl, two' _ _ _⟩
end Go.Proofs.Ytdjnkcoepmackaa
/- compareIntegers of the program, l7Plain of the model. -/
namespace Go.Proofs.Ytdjnkcoepmackaa
open Go.RowKit
set_option maxRecDepth 100000
set_option maxHeartbeats 4000000 in
theorem ints_impl (T U : AT) (w : World) : Calls Try.prog 84 #[T.val, U.val] w fun e w' => e = .returned (.int .i64 (plainV T.k T.n T.x U.n U.x)) ∧ Below w.heap.size w w' := by
  obtain ⟨k, n, x, s, a, cap, l⟩ := T
  obtain ⟨k2, n2, x2, s2, b, cap2, m⟩ := U
  show Calls Try.prog 84 #[.agg #[.int .i64 k, .int .i64 n, .int .i64 x, .string ⟨s.toArray⟩, .slice a l.length cap], .agg #[.int .i64 k2, .int .i64 n2, .int .i64 x2, .string ⟨s2.toArray⟩, .slice b m.length cap2]] w fun e w' => e = .returned (.int .i64 (orI (cmpI n n2) (cmpI x x2))) ∧ Below w.heap.size w w'
  have h1 := fun W => (compare_int n n2 W).mono (fun e w' h => (⟨h.1, h.2.symm⟩ : e = .returned (.int .i64 (cmpI n n2)) ∧ w' = W))
  have h2 := fun W => (compare_int x x2 W).mono (fun e w' h => (⟨h.1, h.2.symm⟩ : e = .returned (.int .i64 (cmpI x x2)) ∧ w' = W))
  have h3 := fun W g cap c0 c1 => or_int (cmpI n n2) (cmpI x x2) W g cap c0 c1
  generalize cmpI n n2 = c1 at *
  generalize cmpI x x2 = c2 at *
  generalize orI c1 c2 = c3 at *
  go_enter Try.func84, Try.ntmps84
  go_wp2_with fail
  have hB := two' w (.cells #[.int .i64 k, .int .i64 n, .int .i64 x, .string ⟨s.toArray⟩, .slice a l.length cap] 28) (.cells #[.int .i64 k2, .int .i64 n2, .int .i64 x2, .string ⟨s2.toArray⟩, .slice b m.length cap2] 28)
  have hc : ((w.alloc (.cells #[.int .i64 k, .int .i64 n, .int .i64 x, .string ⟨s.toArray⟩, .slice a l.length cap] 28)).alloc (.cells #[.int .i64 k2, .int .i64 n2, .int .i64 x2, .string ⟨s2.toArray⟩, .slice b m.length cap2] 28)).cell? ⟨w.heap.size, 1, none⟩ = some (.int .i64 n) ∧ ((w.alloc (.cells #[.int .i64 k, .int .i64 n, .int .i64 x, .string ⟨s.toArray⟩, .slice a l.length cap] 28)).alloc (.cells #[.int .i64 k2, .int .i64 n2, .int .i64 x2, .string ⟨s2.toArray⟩, .slice b m.length cap2] 28)).cell? ⟨w.heap.size, 2, none⟩ = some (.int .i64 x) ∧ ((w.alloc (.cells #[.int .i64 k, .int .i64 n, .int .i64 x, .string ⟨s.toArray⟩, .slice a l.length cap] 28)).alloc (.cells #[.int .i64 k2, .int .i64 n2, .int .i64 x2, .string ⟨s2.toArray⟩, .slice b m.length cap2] 28)).cell? ⟨w.heap.size + 1, 1, none⟩ = some (.int .i64 n2) ∧ ((w.alloc (.cells #[.int .i64 k, .int .i64 n, .int .i64 x, .string ⟨s.toArray⟩, .slice a l.length cap] 28)).alloc (.cells #[.int .i64 k2, .int .i64 n2, .int .i64 x2, .string ⟨s2.toArray⟩, .slice b m.length cap2] 28)).cell? ⟨w.heap.size + 1, 2, none⟩ = some (.int .i64 x2) := by refine ⟨?_, ?_, ?_, ?_⟩ <;> simp [go_sem]
  generalize ((w.alloc (.cells #[.int .i64 k, .int .i64 n, .int .i64 x, .string ⟨s.toArray⟩, .slice a l.length cap] 28)).alloc (.cells #[.int .i64 k2, .int .i64 n2, .int .i64 x2, .string ⟨s2.toArray⟩, .slice b m.length cap2] 28)) = W0 at *
  obtain ⟨e1, e2, e3, e4⟩ := hc
  replace hB := hB.drew
  refine wp_region_still_tail 10 (by kernel_rfl) (by kernel_rfl) ?_
  simp only [List.take_succ_cons, List.take_zero, List.drop_succ_cons, List.drop_zero]
  still_step
  still_step
  still_step
  still_step
  still_call (h1 _)
  still_step
  still_step
  still_step
  still_step
  still_call (h2 _)
  refine wpStill_nil ?_
  change wpList _ _ _ _ _ (World.drew _)
  generalize (World.drew _) = w2 at *
  go_wp2_with (go_at_call 127; refine (h3 _ _ _ (by simp [go_sem]) (by simp [go_sem])).mono ?_; rintro e w' ⟨rfl, rfl⟩)
  go_ret
  exact ⟨rfl, hB.alloc hB.size _⟩
end Go.Proofs.Ytdjnkcoepmackaa
/- What LessFlt of the program and of the model returns: whether both are numbers and the one is less. -/
namespace Go.Proofs.Ytdjnkcoepmackaa
open Go.RowKit
theorem dec_int (m e : Int) : -9223372036854775808 ≤ decFN m e ∧ decFN m e ≤ 9223372036854775807 := by
  have := (decOk_range (decF_ok m e)).2.2.1
  omega

set_option maxRecDepth 100000 in
set_option maxHeartbeats 2000000 in
theorem lessflt_impl (m e M E : Int) (w : World) (h0 : -9223372036854775808 ≤ m) (h1 : m ≤ 9223372036854775807) (k0 : -9223372036854775808 ≤ e) (k1 : e ≤ 9223372036854775807) (H0 : -9223372036854775808 ≤ M) (H1 : M ≤ 9223372036854775807) (K0 : -9223372036854775808 ≤ E) (K1 : E ≤ 9223372036854775807) :
    Calls Try.prog 142 #[.agg #[.int .i64 m, .int .i64 e], .agg #[.int .i64 M, .int .i64 E]] w fun r w' => r = .returned (.bool (lessF m e M E)) ∧ Below w.heap.size w w' := by
  obtain ⟨W0, hW⟩ : ∃ W0 : World, W0 = (w.alloc (.cells #[.int .i64 m, .int .i64 e] 115)).alloc (.cells #[.int .i64 M, .int .i64 E] 115) := ⟨_, rfl⟩
  have hcells : ∀ W', Below W0.heap.size W0 W' → W'.cell? ⟨w.heap.size, 0, none⟩ = some (.int .i64 m) ∧ W'.cell? ⟨w.heap.size, 1, none⟩ = some (.int .i64 e) ∧ W'.cell? ⟨w.heap.size + 1, 0, none⟩ = some (.int .i64 M) ∧ W'.cell? ⟨w.heap.size + 1, 1, none⟩ = some (.int .i64 E) := fun W' hb => by
    subst hW
    exact ⟨(hb.cell (p := ⟨w.heap.size, 0, none⟩) (by simp; omega)).trans (by simp [go_sem]), (hb.cell (p := ⟨w.heap.size, 1, none⟩) (by simp; omega)).trans (by simp [go_sem]), (hb.cell (p := ⟨w.heap.size + 1, 0, none⟩) (by simp)).trans (by simp [go_sem]), (hb.cell (p := ⟨w.heap.size + 1, 1, none⟩) (by simp)).trans (by simp [go_sem])⟩
  have hend : ∀ W', Below W0.heap.size W0 W' → Below w.heap.size w W' := fun W' hb => by
    subst hW
    exact ((Below.refl _ _).alloc (Nat.le_refl _) _).alloc (by simp) _ |>.trans (hb.mono (by simp; omega))
  have hB := Below.refl W0.heap.size W0
  have hN := Nat.le_refl W0.heap.size
  have ca := relCall (fun W => fltok_impl m e W h0 h1 k0 k1) (N := W0.heap.size) (W0 := W0)
  have cb := relCall (fun W => fltok_impl M E W H0 H1 K0 K1) (N := W0.heap.size) (W0 := W0)
  have hkeep : ∀ W' : World, Below W0.heap.size W0 W' → W0.heap.size ≤ W'.heap.size → Below W0.heap.size W0 W' ∧ W0.heap.size ≤ W'.heap.size ∧ W'.cell? ⟨w.heap.size, 0, none⟩ = some (.int .i64 m) ∧ W'.cell? ⟨w.heap.size, 1, none⟩ = some (.int .i64 e) ∧ W'.cell? ⟨w.heap.size + 1, 0, none⟩ = some (.int .i64 M) ∧ W'.cell? ⟨w.heap.size + 1, 1, none⟩ = some (.int .i64 E) := fun W' hb hn => ⟨hb, hn, hcells W' hb⟩
  cases hv : fltOk m e
  · rw [hv] at ca
    rw [show lessF m e M E = false by unfold lessF; rw [hv]; rfl]
    clear h0 h1 k0 k1 H0 H1 K0 K1 hv
    go_enter Try.func142, Try.ntmps142
    go_wp2_with fail
    rw [← hW]
    clear hW
    obtain ⟨_, _, _, _⟩ := hcells _ hB
    go_region_with ((first | (go_at_call_of 140 (Value.agg #[Value.int IntKind.i64 m, Value.int IntKind.i64 e]); refine (ca _ ?_ ?_).mono ?_; (first | exact Below.drew hB | assumption); (first | exact hN | assumption); rintro r w' ⟨rfl, hb', hN'⟩; obtain ⟨_, _, _, _⟩ := hcells _ hb')))
    all_goals
      go_wp2
      go_ret
      exact ⟨rfl, hend _ (by assumption)⟩
  · rw [hv] at ca
    cases hk : fltOk M E
    · rw [hk] at cb
      rw [show lessF m e M E = false by unfold lessF; rw [hv, hk]; rfl]
      clear h0 h1 k0 k1 H0 H1 K0 K1 hv hk
      go_enter Try.func142, Try.ntmps142
      go_wp2_with fail
      rw [← hW]
      clear hW
      obtain ⟨_, _, _, _⟩ := hcells _ hB
      go_region_with ((first | (go_at_call_of 140 (Value.agg #[Value.int IntKind.i64 m, Value.int IntKind.i64 e]); refine (ca _ ?_ ?_).mono ?_; (first | exact Below.drew hB | assumption); (first | exact hN | assumption); rintro r w' ⟨rfl, hb', hN'⟩; obtain ⟨_, _, _, _⟩ := hcells _ hb') | (go_at_call_of 140 (Value.agg #[Value.int IntKind.i64 M, Value.int IntKind.i64 E]); refine (cb _ ?_ ?_).mono ?_; (first | exact Below.drew hB | assumption); (first | exact hN | assumption); rintro r w' ⟨rfl, hb', hN'⟩; obtain ⟨_, _, _, _⟩ := hcells _ hb')))
      all_goals
        go_wp2
        go_ret
        exact ⟨rfl, hend _ (by assumption)⟩
    · rw [hk] at cb
      rw [show lessF m e M E = lessB (decFN m e) (decFX m e) (decFN M E) (decFX M E) by unfold lessF; rw [hv, hk]; rfl]
      have pa := relCall (fun W => fltdec_impl m e W h0 h1 k0 k1) (N := W0.heap.size) (W0 := W0)
      have pb := relCall (fun W => fltdec_impl M E W H0 H1 K0 K1) (N := W0.heap.size) (W0 := W0)
      have cl := relCall (fun W => less_impl (decFN m e) (decFX m e) (decFN M E) (decFX M E) W (dec_int m e).1 (dec_int m e).2 (dec_int M E).1 (dec_int M E).2) (N := W0.heap.size) (W0 := W0)
      generalize decFN m e = n1 at *
      generalize decFX m e = x1 at *
      generalize decFN M E = n2 at *
      generalize decFX M E = x2 at *
      generalize lessB n1 x1 n2 x2 = L at *
      clear h0 h1 k0 k1 H0 H1 K0 K1 hv hk
      go_enter Try.func142, Try.ntmps142
      go_wp2_with fail
      rw [← hW]
      clear hW
      obtain ⟨_, _, _, _⟩ := hcells _ hB
      go_region_held3 (fun W' => Below W0.heap.size W0 W' ∧ W0.heap.size ≤ W'.heap.size ∧ W'.cell? ⟨w.heap.size, 0, none⟩ = some (.int .i64 m) ∧ W'.cell? ⟨w.heap.size, 1, none⟩ = some (.int .i64 e) ∧ W'.cell? ⟨w.heap.size + 1, 0, none⟩ = some (.int .i64 M) ∧ W'.cell? ⟨w.heap.size + 1, 1, none⟩ = some (.int .i64 E)) (first | (refine hkeep _ ?_ ?_ <;> assumption) | (refine hkeep _ (Below.drew ?_) ?_ <;> assumption)) ((first | (go_at_call_of 140 (Value.agg #[Value.int IntKind.i64 m, Value.int IntKind.i64 e]); go_split_ands; refine (ca _ ?_ ?_).mono ?_; assumption; assumption; rintro r w' ⟨rfl, hb', hN'⟩) | (go_at_call_of 140 (Value.agg #[Value.int IntKind.i64 M, Value.int IntKind.i64 E]); go_split_ands; refine (cb _ ?_ ?_).mono ?_; assumption; assumption; rintro r w' ⟨rfl, hb', hN'⟩) | (go_at_call_of 175 (Value.agg #[Value.int IntKind.i64 m, Value.int IntKind.i64 e]); go_split_ands; refine (pa _ ?_ ?_).mono ?_; assumption; assumption; rintro r w' ⟨rfl, hb', hN'⟩) | (go_at_call_of 175 (Value.agg #[Value.int IntKind.i64 M, Value.int IntKind.i64 E]); go_split_ands; refine (pb _ ?_ ?_).mono ?_; assumption; assumption; rintro r w' ⟨rfl, hb', hN'⟩) | (go_at_call 144; go_split_ands; refine (cl _ ?_ ?_).mono ?_; assumption; assumption; rintro r w' ⟨rfl, hb', hN'⟩)))
      all_goals
        go_split_ands
        go_wp2
        go_ret
        exact ⟨rfl, hend _ (by assumption)⟩
set_option maxRecDepth 100000 in
set_option maxHeartbeats 2000000 in
theorem lessflt_spec (m e M E : Int) (w : World) (h0 : -9223372036854775808 ≤ m) (h1 : m ≤ 9223372036854775807) (k0 : -9223372036854775808 ≤ e) (k1 : e ≤ 9223372036854775807) (H0 : -9223372036854775808 ≤ M) (H1 : M ≤ 9223372036854775807) (K0 : -9223372036854775808 ≤ E) (K1 : E ≤ 9223372036854775807) :
    Calls Try.prog 177 #[.agg #[.int .i64 m, .int .i64 e], .agg #[.int .i64 M, .int .i64 E]] w fun r w' => r = .returned (.bool (lessF m e M E)) ∧ Below w.heap.size w w' := by
  obtain ⟨W0, hW⟩ : ∃ W0 : World, W0 = (w.alloc (.cells #[.int .i64 m, .int .i64 e] 115)).alloc (.cells #[.int .i64 M, .int .i64 E] 115) := ⟨_, rfl⟩
  have hcells : ∀ W', Below W0.heap.size W0 W' → W'.cell? ⟨w.heap.size, 0, none⟩ = some (.int .i64 m) ∧ W'.cell? ⟨w.heap.size, 1, none⟩ = some (.int .i64 e) ∧ W'.cell? ⟨w.heap.size + 1, 0, none⟩ = some (.int .i64 M) ∧ W'.cell? ⟨w.heap.size + 1, 1, none⟩ = some (.int .i64 E) := fun W' hb => by
    subst hW
    exact ⟨(hb.cell (p := ⟨w.heap.size, 0, none⟩) (by simp; omega)).trans (by simp [go_sem]), (hb.cell (p := ⟨w.heap.size, 1, none⟩) (by simp; omega)).trans (by simp [go_sem]), (hb.cell (p := ⟨w.heap.size + 1, 0, none⟩) (by simp)).trans (by simp [go_sem]), (hb.cell (p := ⟨w.heap.size + 1, 1, none⟩) (by simp)).trans (by simp [go_sem])⟩
  have hend : ∀ W', Below W0.heap.size W0 W' → Below w.heap.size w W' := fun W' hb => by
    subst hW
    exact ((Below.refl _ _).alloc (Nat.le_refl _) _).alloc (by simp) _ |>.trans (hb.mono (by simp; omega))
  have hB := Below.refl W0.heap.size W0
  have hN := Nat.le_refl W0.heap.size
  have ca := relCall (fun W => fltok_spec m e W h0 h1 k0 k1) (N := W0.heap.size) (W0 := W0)
  have cb := relCall (fun W => fltok_spec M E W H0 H1 K0 K1) (N := W0.heap.size) (W0 := W0)
  have hkeep : ∀ W' : World, Below W0.heap.size W0 W' → W0.heap.size ≤ W'.heap.size → Below W0.heap.size W0 W' ∧ W0.heap.size ≤ W'.heap.size ∧ W'.cell? ⟨w.heap.size, 0, none⟩ = some (.int .i64 m) ∧ W'.cell? ⟨w.heap.size, 1, none⟩ = some (.int .i64 e) ∧ W'.cell? ⟨w.heap.size + 1, 0, none⟩ = some (.int .i64 M) ∧ W'.cell? ⟨w.heap.size + 1, 1, none⟩ = some (.int .i64 E) := fun W' hb hn => ⟨hb, hn, hcells W' hb⟩
  cases hv : fltOk m e
  · rw [hv] at ca
    rw [show lessF m e M E = false by unfold lessF; rw [hv]; rfl]
    clear h0 h1 k0 k1 H0 H1 K0 K1 hv
    go_enter Try.func177, Try.ntmps177
    go_wp2_with fail
    rw [← hW]
    clear hW
    obtain ⟨_, _, _, _⟩ := hcells _ hB
    go_region_with ((first | (go_at_call_of 115 (Value.agg #[Value.int IntKind.i64 m, Value.int IntKind.i64 e]); refine (ca _ ?_ ?_).mono ?_; (first | exact Below.drew hB | assumption); (first | exact hN | assumption); rintro r w' ⟨rfl, hb', hN'⟩; obtain ⟨_, _, _, _⟩ := hcells _ hb')))
    all_goals
      go_wp2
      go_ret
      exact ⟨rfl, hend _ (by assumption)⟩
  · rw [hv] at ca
    cases hk : fltOk M E
    · rw [hk] at cb
      rw [show lessF m e M E = false by unfold lessF; rw [hv, hk]; rfl]
      clear h0 h1 k0 k1 H0 H1 K0 K1 hv hk
      go_enter Try.func177, Try.ntmps177
      go_wp2_with fail
      rw [← hW]
      clear hW
      obtain ⟨_, _, _, _⟩ := hcells _ hB
      go_region_with ((first | (go_at_call_of 115 (Value.agg #[Value.int IntKind.i64 m, Value.int IntKind.i64 e]); refine (ca _ ?_ ?_).mono ?_; (first | exact Below.drew hB | assumption); (first | exact hN | assumption); rintro r w' ⟨rfl, hb', hN'⟩; obtain ⟨_, _, _, _⟩ := hcells _ hb') | (go_at_call_of 115 (Value.agg #[Value.int IntKind.i64 M, Value.int IntKind.i64 E]); refine (cb _ ?_ ?_).mono ?_; (first | exact Below.drew hB | assumption); (first | exact hN | assumption); rintro r w' ⟨rfl, hb', hN'⟩; obtain ⟨_, _, _, _⟩ := hcells _ hb')))
      all_goals
        go_wp2
        go_ret
        exact ⟨rfl, hend _ (by assumption)⟩
    · rw [hk] at cb
      rw [show lessF m e M E = lessB (decFN m e) (decFX m e) (decFN M E) (decFX M E) by unfold lessF; rw [hv, hk]; rfl]
      have pa := relCall (fun W => fltdec_spec m e W h0 h1 k0 k1) (N := W0.heap.size) (W0 := W0)
      have pb := relCall (fun W => fltdec_spec M E W H0 H1 K0 K1) (N := W0.heap.size) (W0 := W0)
      have cl := relCall (fun W => less_spec (decFN m e) (decFX m e) (decFN M E) (decFX M E) W (dec_int m e).1 (dec_int m e).2 (dec_int M E).1 (dec_int M E).2) (N := W0.heap.size) (W0 := W0)
      generalize decFN m e = n1 at *
      generalize decFX m e = x1 at *
      generalize decFN M E = n2 at *
      generalize decFX M E = x2 at *
      generalize lessB n1 x1 n2 x2 = L at *
      clear h0 h1 k0 k1 H0 H1 K0 K1 hv hk
      go_enter Try.func177, Try.ntmps177
      go_wp2_with fail
      rw [← hW]
      clear hW
      obtain ⟨_, _, _, _⟩ := hcells _ hB
      go_region_held3 (fun W' => Below W0.heap.size W0 W' ∧ W0.heap.size ≤ W'.heap.size ∧ W'.cell? ⟨w.heap.size, 0, none⟩ = some (.int .i64 m) ∧ W'.cell? ⟨w.heap.size, 1, none⟩ = some (.int .i64 e) ∧ W'.cell? ⟨w.heap.size + 1, 0, none⟩ = some (.int .i64 M) ∧ W'.cell? ⟨w.heap.size + 1, 1, none⟩ = some (.int .i64 E)) (first | (refine hkeep _ ?_ ?_ <;> assumption) | (refine hkeep _ (Below.drew ?_) ?_ <;> assumption)) ((first | (go_at_call_of 115 (Value.agg #[Value.int IntKind.i64 m, Value.int IntKind.i64 e]); go_split_ands; refine (ca _ ?_ ?_).mono ?_; assumption; assumption; rintro r w' ⟨rfl, hb', hN'⟩) | (go_at_call_of 115 (Value.agg #[Value.int IntKind.i64 M, Value.int IntKind.i64 E]); go_split_ands; refine (cb _ ?_ ?_).mono ?_; assumption; assumption; rintro r w' ⟨rfl, hb', hN'⟩) | (go_at_call_of 172 (Value.agg #[Value.int IntKind.i64 m, Value.int IntKind.i64 e]); go_split_ands; refine (pa _ ?_ ?_).mono ?_; assumption; assumption; rintro r w' ⟨rfl, hb', hN'⟩) | (go_at_call_of 172 (Value.agg #[Value.int IntKind.i64 M, Value.int IntKind.i64 E]); go_split_ands; refine (pb _ ?_ ?_).mono ?_; assumption; assumption; rintro r w' ⟨rfl, hb', hN'⟩) | (go_at_call 178; go_split_ands; refine (cl _ ?_ ?_).mono ?_; assumption; assumption; rintro r w' ⟨rfl, hb', hN'⟩)))
      all_goals
        go_split_ands
        go_wp2
        go_ret
        exact ⟨rfl, hend _ (by assumption)⟩
end Go.Proofs.Ytdjnkcoepmackaa
/- compareBy of the program, at floating-point and at decimal numbers; l7Plain of the model. -/
namespace Go.Proofs.Ytdjnkcoepmackaa
open Go.RowKit
set_option maxRecDepth 100000
def isI (n : Int) : Prop := -9223372036854775808 ≤ n ∧ n ≤ 9223372036854775807
theorem byflt_impl (m e M E : Int) (w : World) (h0 : isI m) (k0 : isI e) (H0 : isI M) (K0 : isI E) :
    Calls Try.prog 141 #[.agg #[.int .i64 m, .int .i64 e], .agg #[.int .i64 M, .int .i64 E], .func (.func 142) #[] #[]] w fun r w' => r = .returned (.int .i64 (byV (lessF m e M E) (lessF M E m e))) ∧ Below w.heap.size w w' := by
  obtain ⟨W0, hW⟩ : ∃ W0 : World, W0 = (w.alloc (.cells #[.int .i64 m, .int .i64 e] 115)).alloc (.cells #[.int .i64 M, .int .i64 E] 115) := ⟨_, rfl⟩
  have hcells : ∀ W', Below W0.heap.size W0 W' → W'.cell? ⟨w.heap.size, 0, none⟩ = some (.int .i64 m) ∧ W'.cell? ⟨w.heap.size, 1, none⟩ = some (.int .i64 e) ∧ W'.cell? ⟨w.heap.size + 1, 0, none⟩ = some (.int .i64 M) ∧ W'.cell? ⟨w.heap.size + 1, 1, none⟩ = some (.int .i64 E) := fun W' hb => by
    subst hW
    exact ⟨(hb.cell (p := ⟨w.heap.size, 0, none⟩) (by simp; omega)).trans (by simp [go_sem]), (hb.cell (p := ⟨w.heap.size, 1, none⟩) (by simp; omega)).trans (by simp [go_sem]), (hb.cell (p := ⟨w.heap.size + 1, 0, none⟩) (by simp)).trans (by simp [go_sem]), (hb.cell (p := ⟨w.heap.size + 1, 1, none⟩) (by simp)).trans (by simp [go_sem])⟩
  have hend : ∀ W', Below W0.heap.size W0 W' → Below w.heap.size w W' := fun W' hb => by
    subst hW
    exact ((Below.refl _ _).alloc (Nat.le_refl _) _).alloc (by simp) _ |>.trans (hb.mono (by simp; omega))
  have hB := Below.refl W0.heap.size W0
  have hN := Nat.le_refl W0.heap.size
  have ca := relCall (fun W => lessflt_impl m e M E W h0.1 h0.2 k0.1 k0.2 H0.1 H0.2 K0.1 K0.2) (N := W0.heap.size) (W0 := W0)
  have cb := relCall (fun W => lessflt_impl M E m e W H0.1 H0.2 K0.1 K0.2 h0.1 h0.2 k0.1 k0.2) (N := W0.heap.size) (W0 := W0)
  clear h0 k0 H0 K0
  generalize lessF m e M E = L at *
  generalize lessF M E m e = R at *
  obtain ⟨_, _, _, _⟩ := hcells _ hB
  cases L
  · go_enter Try.func141, Try.ntmps141
    go_wp2_with fail
    rw [← hW]
    go_wp2_with fail
    refine (ca _ hB hN).mono ?_
    clear hB hN
    rintro r w' ⟨rfl, hB, hN⟩
    obtain ⟨_, _, _, _⟩ := hcells _ hB
    go_wp2_with fail
    refine (cb _ hB hN).mono ?_
    clear hB hN
    rintro r w' ⟨rfl, hB, hN⟩
    cases R
    all_goals
      go_wp2
      go_ret
      exact ⟨rfl, hend _ hB⟩
  · go_enter Try.func141, Try.ntmps141
    go_wp2_with fail
    rw [← hW]
    go_wp2_with fail
    refine (ca _ hB hN).mono ?_
    clear hB hN
    rintro r w' ⟨rfl, hB, hN⟩
    go_wp2
    go_ret
    exact ⟨rfl, hend _ hB⟩
theorem bydec_impl (m e M E : Int) (w : World) (h0 : isI m) (H0 : isI M) :
    Calls Try.prog 143 #[.agg #[.int .i64 m, .int .i64 e], .agg #[.int .i64 M, .int .i64 E], .func (.func 144) #[] #[]] w fun r w' => r = .returned (.int .i64 (byV (lessB m e M E) (lessB M E m e))) ∧ Below w.heap.size w w' := by
  obtain ⟨W0, hW⟩ : ∃ W0 : World, W0 = (w.alloc (.cells #[.int .i64 m, .int .i64 e] 58)).alloc (.cells #[.int .i64 M, .int .i64 E] 58) := ⟨_, rfl⟩
  have hcells : ∀ W', Below W0.heap.size W0 W' → W'.cell? ⟨w.heap.size, 0, none⟩ = some (.int .i64 m) ∧ W'.cell? ⟨w.heap.size, 1, none⟩ = some (.int .i64 e) ∧ W'.cell? ⟨w.heap.size + 1, 0, none⟩ = some (.int .i64 M) ∧ W'.cell? ⟨w.heap.size + 1, 1, none⟩ = some (.int .i64 E) := fun W' hb => by
    subst hW
    exact ⟨(hb.cell (p := ⟨w.heap.size, 0, none⟩) (by simp; omega)).trans (by simp [go_sem]), (hb.cell (p := ⟨w.heap.size, 1, none⟩) (by simp; omega)).trans (by simp [go_sem]), (hb.cell (p := ⟨w.heap.size + 1, 0, none⟩) (by simp)).trans (by simp [go_sem]), (hb.cell (p := ⟨w.heap.size + 1, 1, none⟩) (by simp)).trans (by simp [go_sem])⟩
  have hend : ∀ W', Below W0.heap.size W0 W' → Below w.heap.size w W' := fun W' hb => by
    subst hW
    exact ((Below.refl _ _).alloc (Nat.le_refl _) _).alloc (by simp) _ |>.trans (hb.mono (by simp; omega))
  have hB := Below.refl W0.heap.size W0
  have hN := Nat.le_refl W0.heap.size
  have ca := relCall (fun W => less_impl m e M E W h0.1 h0.2 H0.1 H0.2) (N := W0.heap.size) (W0 := W0)
  have cb := relCall (fun W => less_impl M E m e W H0.1 H0.2 h0.1 h0.2) (N := W0.heap.size) (W0 := W0)
  clear h0 H0
  generalize lessB m e M E = L at *
  generalize lessB M E m e = R at *
  obtain ⟨_, _, _, _⟩ := hcells _ hB
  cases L
  · go_enter Try.func143, Try.ntmps143
    go_wp2_with fail
    rw [← hW]
    go_wp2_with fail
    refine (ca _ hB hN).mono ?_
    clear hB hN
    rintro r w' ⟨rfl, hB, hN⟩
    obtain ⟨_, _, _, _⟩ := hcells _ hB
    go_wp2_with fail
    refine (cb _ hB hN).mono ?_
    clear hB hN
    rintro r w' ⟨rfl, hB, hN⟩
    cases R
    all_goals
      go_wp2
      go_ret
      exact ⟨rfl, hend _ hB⟩
  · go_enter Try.func143, Try.ntmps143
    go_wp2_with fail
    rw [← hW]
    go_wp2_with fail
    refine (ca _ hB hN).mono ?_
    clear hB hN
    rintro r w' ⟨rfl, hB, hN⟩
    go_wp2
    go_ret
    exact ⟨rfl, hend _ hB⟩
theorem plain_spec (T U : AT) (w : World) : Calls Try.prog 179 #[T.val, U.val] w fun e w' => e = .returned (.int .i64 (plainV T.k T.n T.x U.n U.x)) ∧ Below w.heap.size w w' := by
  obtain ⟨k, n, x, s, a, cap, l⟩ := T
  obtain ⟨k2, n2, x2, s2, b, cap2, m⟩ := U
  show Calls Try.prog 179 #[.agg #[.int .i64 k, .int .i64 n, .int .i64 x, .string ⟨s.toArray⟩, .slice a l.length cap], .agg #[.int .i64 k2, .int .i64 n2, .int .i64 x2, .string ⟨s2.toArray⟩, .slice b m.length cap2]] w fun e w' => e = .returned (.int .i64 (orI (cmpI n n2) (cmpI x x2))) ∧ Below w.heap.size w w'
  rcases Int.lt_trichotomy n n2 with h | h | h
  · rw [show orI (cmpI n n2) (cmpI x x2) = -1 by rw [orI_ne]; exact if_pos h; rw [show cmpI n n2 = -1 from if_pos h]; decide]
    go_enter Try.func179, Try.ntmps179
    go_wp2
    go_ret
    exact ⟨rfl, two' _ _ _⟩
  · subst h
    rw [show orI (cmpI n n) (cmpI x x2) = cmpI x x2 by rw [cmpI_zero.2 rfl]; rfl]
    rcases Int.lt_trichotomy x x2 with h | h | h
    · rw [show cmpI x x2 = -1 from if_pos h]
      go_enter Try.func179, Try.ntmps179
      go_wp2
      go_ret
      exact ⟨rfl, two' _ _ _⟩
    · subst h
      rw [cmpI_zero.2 rfl]
      go_enter Try.func179, Try.ntmps179
      go_wp2
      go_ret
      exact ⟨rfl, two' _ _ _⟩
    · rw [show cmpI x x2 = 1 by unfold cmpI; rw [if_neg (by omega), if_pos h]]
      have h2 : ¬ x < x2 := by omega
      go_enter Try.func179, Try.ntmps179
      go_wp2
      go_ret
      exact ⟨rfl, two' _ _ _⟩
  · rw [show orI (cmpI n n2) (cmpI x x2) = 1 by rw [show cmpI n n2 = 1 by unfold cmpI; rw [if_neg (by omega), if_pos h]]; rfl]
    have h2 : ¬ n < n2 := by omega
    go_enter Try.func179, Try.ntmps179
    go_wp2
    go_ret
    exact ⟨rfl, two' _ _ _⟩
end Go.Proofs.Ytdjnkcoepmackaa
