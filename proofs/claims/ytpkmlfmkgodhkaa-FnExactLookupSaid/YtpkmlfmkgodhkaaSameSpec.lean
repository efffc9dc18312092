/- SameVal of the model, and sameVal of the laws. -/
import Derived.Test.YtpkmlfmkgodhkaaSameMath
import Derived.Test.YtpkmlfmkgodhkaaIn
import Derived.Lib.Hide
import Derived.Outline
import Derived.ProofKit
import Derived.StillTailTactics
namespace Go.Proofs.Ytpkmlfmkgodhkaa
open Go.RowKit
theorem two' (w : World) (a b : Obj) : Below w.heap.size w ((w.alloc a).alloc b) := ((Below.refl w.heap.size w).alloc (Nat.le_refl _) a).alloc (by simp) b
theorem box55 (w : World) (k n x k2 n2 x2 : Int) (s s2 : ByteArray) (a a2 : Option Addr) (len len2 cap cap2 : Nat) (t : TypeId) {wr : World}
    (hb : Below (w.heap.size + 1 + 1) ((w.alloc (.cells #[.int .i64 k, .int .i64 n, .int .i64 x, .string s, .slice a len cap] t)).alloc (.cells #[.int .i64 k2, .int .i64 n2, .int .i64 x2, .string s2, .slice a2 len2 cap2] t)) wr) :
    wr.cell? ⟨w.heap.size, 4, none⟩ = some (.slice a len cap) ∧ wr.cell? ⟨w.heap.size + 1, 4, none⟩ = some (.slice a2 len2 cap2) := by
  refine ⟨?_, ?_⟩ <;> exact (hb.cell (by simp; try omega)).trans (by simp [go_sem])
theorem hd_cases {k k2 n n2 x x2 : Int} {s s2 : List UInt8} {a b : Nat} (h : ¬ (k = k2 ∧ n = n2 ∧ x = x2 ∧ s = s2 ∧ a = b)) :
    ¬ k = k2 ∨ (k = k2 ∧ ¬ n = n2) ∨ (k = k2 ∧ n = n2 ∧ ¬ x = x2) ∨ (k = k2 ∧ n = n2 ∧ x = x2 ∧ (s == s2) = false ∧ (s != s2) = true) ∨ (k = k2 ∧ n = n2 ∧ x = x2 ∧ s = s2 ∧ ¬ (a : Int) = b ∧ ((a : Int) == b) = false) := by
  by_cases h0 : k = k2
  · by_cases h1 : n = n2
    · by_cases h2 : x = x2
      · by_cases h3 : s = s2
        · exact .inr (.inr (.inr (.inr ⟨h0, h1, h2, h3, by intro e; exact h ⟨h0, h1, h2, h3, by omega⟩, by rw [beq_eq_false_iff_ne]; intro e; exact h ⟨h0, h1, h2, h3, by omega⟩⟩)))
        · exact .inr (.inr (.inr (.inl ⟨h0, h1, h2, by simpa using h3, by simpa using h3⟩)))
      · exact .inr (.inr (.inl ⟨h0, h1, h2⟩))
    · exact .inr (.inl ⟨h0, h1⟩)
  · exact .inl h0
set_option maxHeartbeats 4000000 in
set_option maxRecDepth 100000 in
theorem same_spec (T : AT) : T.pt.Wf → ∀ (U : AT) (w : World) (N : Nat), U.pt.Wf → T.In w N → U.In w N → N ≤ w.heap.size → Calls Try.prog 102 #[T.val, U.val] w fun e w' => e = .returned (.bool (T.pt.same U.pt)) ∧ Below w.heap.size w w' := by
  induction T using AT.ind with
  | h k n x s a cap l ih =>
    intro hwf U w N hwf2 hin hin2 hN
    obtain ⟨k2, n2, x2, s2, b, cap2, m⟩ := U
    have hll : l.length ≤ 9223372036854775807 := by
      cases hwf with
      | mk hk hn hx hs hl sub => rw [AT.ptL_length] at hl; exact hl
    have hml : m.length ≤ 9223372036854775807 := by
      cases hwf2 with
      | mk hk hn hx hs hl sub => rw [AT.ptL_length] at hl; exact hl
    have hc := fun (t : AT) (ht : t ∈ l) (u : AT) (hu : u ∈ m) (w1 : World) (hb : Below w.heap.size w w1) => ih t ht (hwf.sub' t.pt (by rw [AT.ptL_eq]; exact List.mem_map_of_mem ht)) u w1 N (hwf2.sub' u.pt (by rw [AT.ptL_eq]; exact List.mem_map_of_mem hu)) ((hin.lv.sub t ht).blw hb hN) ((hin2.lv.sub u hu).blw hb hN) (Nat.le_trans hN hb.size)
    have H := Lib.hid hin.lv
    have H2 := Lib.hid hin2.lv
    have HC := Lib.hid hc
    have hsame : ∀ B, (AT.mk k n x s a cap l).pt.same (AT.mk k2 n2 x2 s2 b cap2 m).pt = B ↔ ((k == k2 && n == n2 && x == x2 && s == s2 && l.length == m.length) && PT.sameL (AT.ptL l) (AT.ptL m)) = B := fun B => by rw [ptsame_eq]; rfl
    have HS := Lib.hid hsame
    clear hc ih hin hin2 hwf hwf2 hsame
    show Calls Try.prog 102 #[.agg #[.int .i64 k, .int .i64 n, .int .i64 x, .string ⟨s.toArray⟩, .slice a l.length cap], .agg #[.int .i64 k2, .int .i64 n2, .int .i64 x2, .string ⟨s2.toArray⟩, .slice b m.length cap2]] w _
    by_cases hf : k = k2 ∧ n = n2 ∧ x = x2 ∧ s = s2 ∧ l.length = m.length
    · obtain ⟨rfl, rfl, rfl, rfl, hlen⟩ := hf
      have HS2 : Hid (∀ B, PT.sameL (AT.ptL l) (AT.ptL m) = B → (AT.mk k n x s a cap l).pt.same (AT.mk k n x s b cap2 m).pt = B) := Lib.hid (fun B h => (HS.out B).2 (by simp [hlen, h]))
      have HL := Lib.hid hlen
      rw [← hlen]
      clear hlen HS
      go_enter Try.func102, Try.ntmps102
      go_wp2
      go_loopw [5] (fun i wr => ∃ i' : Nat, i = .int .i64 i' ∧ i' ≤ l.length ∧ PT.sameL ((AT.ptL l).take i') ((AT.ptL m).take i') = true ∧ Below (w.heap.size + 1 + 1) ((w.alloc (.cells #[.int .i64 k, .int .i64 n, .int .i64 x, .string ⟨s.toArray⟩, .slice a l.length cap] 26)).alloc (.cells #[.int .i64 k, .int .i64 n, .int .i64 x, .string ⟨s.toArray⟩, .slice b l.length cap2] 26)) wr) (fun i _ => l.length - (intOf i).toNat)
      case atStart => exact ⟨0, rfl, Nat.zero_le _, by simp [PT.sameL], Below.refl _ _⟩
      case round =>
        obtain ⟨i', rfl, hi', hsm, hb⟩ := hrel
        obtain ⟨f4, g4⟩ := box55 w k n x k n x _ _ a b _ _ cap cap2 26 hb
        have hBw : Below w.heap.size w wr := (two' _ _ _).trans (hb.mono (by omega))
        have HSM := Lib.hid hsm
        have HB := Lib.hid hb
        clear hsm hb
        by_cases hlt : i' < l.length
        · obtain ⟨c, o, rfl, hcN, hC⟩ := H.out.cell i' hlt
          have hlt2 : i' < m.length := by rw [← HL.out]; exact hlt
          obtain ⟨c2, o2, rfl, hcN2, hC2⟩ := H2.out.cell i' hlt2
          have hC := hC.keep (hBw.block c (by omega))
          have hC2 := hC2.keep (hBw.block c2 (by omega))
          have hc := fun (w1 : World) (hb1 : Below wr.heap.size wr w1) => HC.out l[i'] (List.getElem_mem hlt) m[i'] (List.getElem_mem hlt2) w1 (hBw.trans (hb1.mono hBw.size))
          have HCC := Lib.hid hc
          have e1 : i' < (AT.ptL l).length := by rw [AT.ptL_length]; exact hlt
          have e2 : i' < (AT.ptL m).length := by rw [AT.ptL_length]; exact hlt2
          have hst := sameL_split (AT.ptL l) (AT.ptL m) i' e1 e2
          have hst2 := sameL_false (AT.ptL l) (AT.ptL m) i' e1 e2
          rw [ptL_get l i' hlt, ptL_get m i' hlt2] at hst hst2
          obtain ⟨V, hV⟩ : ∃ V, V = l[i'] := ⟨_, rfl⟩
          obtain ⟨V2, hV2⟩ : ∃ V2, V2 = m[i'] := ⟨_, rfl⟩
          rw [← hV] at hC HCC hst hst2
          rw [← hV2] at hC2 HCC hst hst2
          have HST := Lib.hid hst
          have HST2 := Lib.hid hst2
          obtain ⟨c0, c1, c2, c3, c4⟩ := hC
          obtain ⟨d0, d1, d2, d3, d4⟩ := hC2
          have HBw := Lib.hid hBw
          have hi0 : (0 : Int) ≤ i' := by omega
          have hi1 : (i' : Int) < l.length := by omega
          clear hV hV2 hst hst2 hc e1 e2 hBw
          go_wp2_with fail
          go_still_tail 10, (by kernel_rfl)
          go_wp2_with fail
          refine (HCC.out _ ((Below.refl _ _).drew)).mono ?_
          rintro e w2 ⟨rfl, hb2⟩
          have HB2 := Lib.hid (Below.trans ((Below.refl wr.heap.size wr).drew) hb2)
          have hz := HBw.out.size
          clear hb2
          cases hv : V.pt.same V2.pt
          · have HV := Lib.hid hv
            clear hv
            go_wp2
            go_ret
            exact ⟨by rw [HS2.out false (HST2.out HV.out)]; rfl, HBw.out.trans (HB2.out.mono hz)⟩
          · have HV := Lib.hid hv
            clear hv
            go_wp2
            go_roundw
            case rel => exact ⟨i' + 1, by go_num, by omega, by rw [HST.out, HSM.out, HV.out]; rfl, HB.out.trans (HB2.out.mono (by have := HB.out.size; simp at this; omega))⟩
            case measure => simp [intOf]; omega
        · have hi2 : i' = l.length := by omega
          subst hi2
          have HBw := Lib.hid hBw
          clear hBw
          have HT : Hid (PT.sameL (AT.ptL l) (AT.ptL m) = true) := Lib.hid (by
            have := HSM.out
            rw [List.take_of_length_le (by simp), List.take_of_length_le (by simp [HL.out])] at this
            exact this)
          go_wp2
          go_ret
          exact ⟨by rw [HS2.out true HT.out]; rfl, HBw.out⟩
    · have hfalse : (k == k2 && n == n2 && x == x2 && s == s2 && l.length == m.length) = false := by
        rw [Bool.eq_false_iff]
        intro h
        simp only [Bool.and_eq_true, beq_iff_eq] at h
        exact hf ⟨h.1.1.1.1, h.1.1.1.2, h.1.1.2, h.1.2, h.2⟩
      have HR : Hid ((AT.mk k n x s a cap l).pt.same (AT.mk k2 n2 x2 s2 b cap2 m).pt = false) := Lib.hid ((HS.out false).2 (by rw [hfalse]; rfl))
      clear hfalse HS H H2 HC
      rcases hd_cases hf with h0 | ⟨rfl, h1⟩ | ⟨rfl, rfl, h2⟩ | ⟨rfl, rfl, rfl, h3, h4⟩ | ⟨rfl, rfl, rfl, rfl, h5, h6⟩
      all_goals clear hf
      all_goals
        go_enter Try.func102, Try.ntmps102
        go_wp2
        go_ret
        exact ⟨by rw [HR.out]; rfl, two' _ _ _⟩
end Go.Proofs.Ytpkmlfmkgodhkaa
