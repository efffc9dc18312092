/- Sorted of the model and of the program. -/
import Derived.Test.YtpkmlfmkgodhkaaNames
import Derived.Test.YtpkmlfmkgodhkaaLessVal
namespace Go.Proofs.Ytpkmlfmkgodhkaa
open Go.RowKit
set_option maxRecDepth 100000
def asc : List PT → Bool
  | t :: u :: l => t.less u && asc (u :: l)
  | _ => true
theorem asc_one (l : List PT) : asc (l.take 1) = true := by cases l <;> simp [asc]
theorem asc_take (l : List PT) (r : Nat) (h : r + 1 < l.length) : asc (l.take (r + 1 + 1)) = (asc (l.take (r + 1)) && (l[r]).less l[r + 1]) := by
  induction l generalizing r with
  | nil => simp at h
  | cons t l ih =>
    cases l with
    | nil => simp at h
    | cons u l =>
      cases r with
      | zero => simp [asc]
      | succ r =>
        have := ih r (by simpa using h)
        simp only [List.take_succ_cons, asc, List.getElem_cons_succ] at this ⊢
        rw [this, Bool.and_assoc]
theorem asc_false (l : List PT) (r : Nat) (h : r + 1 < l.length) (hf : (l[r]).less l[r + 1] = false) : asc l = false := by
  induction l generalizing r with
  | nil => simp at h
  | cons t l ih =>
    cases l with
    | nil => simp at h
    | cons u l =>
      cases r with
      | zero => simp only [asc]; rw [show t.less u = false by simpa using hf]; rfl
      | succ r =>
        simp only [asc]
        rw [ih r (by simpa using h) (by simpa using hf), Bool.and_false]
theorem len_le_sz (T : AT) : T.l.length ≤ T.pt.sz := by obtain ⟨k, n, x, s, a, cap, l⟩ := T; simp [AT.pt, PT.sz, AT.l]; omega
theorem names_wf {p : PT} (h : p.Wf) (hsz : p.sz ≤ 1048576) : ∀ q ∈ p.names, q.Wf ∧ q.sz ≤ 1048576 := by
  obtain ⟨k, n, x, s, l⟩ := p
  intro q hq
  simp only [PT.names] at hq
  split at hq
  · have hm := evens_mem hq
    have := sz_mem hm
    simp only [PT.sz] at hsz
    exact ⟨h.sub' q hm, by omega⟩
  · cases hq
set_option maxHeartbeats 2000000 in
theorem sorted_spec (T : AT) (w : World) (N : Nat) (hwf : T.pt.Wf) (hin : T.In w N) (hsz : T.pt.sz ≤ 1048576) (hN : N ≤ w.heap.size) : Calls Try.prog 54 #[T.val] w fun e w' => e = .returned (.bool (asc T.pt.names)) ∧ Below w.heap.size w w' := by
  have HNC := Lib.hid (fun (w1 : World) (hb : Below w.heap.size w w1) => names_spec T w1 N (hin.blw hb hN) (by omega) (Nat.le_trans hN hb.size))
  have HNW : Hid (∀ p ∈ T.pt.names, p.Wf ∧ p.sz ≤ 1048576) := Lib.hid (names_wf hwf hsz)
  obtain ⟨tot, htot⟩ : ∃ tot, tot = asc T.pt.names := ⟨_, rfl⟩
  rw [← htot]
  have HTOT := Lib.hid htot
  clear hin hsz hwf htot
  show Calls Try.prog 54 #[.agg #[.int .i64 T.k, .int .i64 T.n, .int .i64 T.x, .string ⟨T.s.toArray⟩, .slice T.a T.l.length T.cap]] w _
  go_enter Try.func54, Try.ntmps54
  go_wp2_with fail
  have hb0 := vbox w (.cells #[.int .i64 T.k, .int .i64 T.n, .int .i64 T.x, .string ⟨T.s.toArray⟩, .slice T.a T.l.length T.cap] 26)
  refine (HNC.out _ hb0).mono ?_
  rintro e w1 ⟨a1, cap1, ns, hpt, rfl, hown, hnd, hb1⟩
  have HLV := Lib.hid hown.lv
  have HB1 := Lib.hid (hb0.trans (hb1.mono hb0.size))
  have HNP : Hid (AT.ptL ns = T.pt.names) := Lib.hid hpt
  have HCAP : Hid (cap1 ≤ maxLen) := Lib.hid (own_cap hown.row).2.2
  clear hpt hown hnd hb1 hb0
  obtain ⟨p, hp⟩ : ∃ p, p = T.pt.names := ⟨_, rfl⟩
  rw [← hp] at HNP HNW
  have HASC : Hid (tot = asc (AT.ptL ns)) := Lib.hid (by rw [HTOT.out, ← hp, HNP.out])
  have HWF : Hid (∀ t ∈ ns, t.pt.Wf ∧ t.pt.sz ≤ 1048576) := Lib.hid (fun t ht => HNW.out t.pt (by rw [← HNP.out, AT.ptL_eq]; exact List.mem_map_of_mem ht))
  have HLS := Lib.hid (fun (t : AT) (ht : t ∈ ns) (u : AT) (hu : u ∈ ns) (w2 : World) (hb : Below w1.heap.size w1 w2) => lessval_spec t u w2 w1.heap.size (HWF.out t ht).1 (HWF.out u hu).1 ((HLV.out.sub t ht).blw hb (Nat.le_refl _)) ((HLV.out.sub u hu).blw hb (Nat.le_refl _)) hb.size)
  clear hp HNP HNW HTOT HNC
  go_wp2_with fail
  go_loopw [4] (fun i wr => ∃ q : Nat, i = .int .i64 q ∧ 1 ≤ q ∧ (q ≤ ns.length ∨ q = 1) ∧ Hid (asc ((AT.ptL ns).take q) = true) ∧ Hid (Below w1.heap.size w1 wr)) (fun i _ => ns.length + 1 - (intOf i).toNat)
  case atStart => exact ⟨1, rfl, Nat.le_refl _, .inr rfl, Lib.hid (asc_one _), Lib.hid (Below.refl _ _)⟩
  case round =>
    obtain ⟨q, rfl, hq1, hq2, HA, HB⟩ := hrel
    have HBw := Lib.hid (HB1.out.trans (HB.out.mono HB1.out.size))
    by_cases hlt : q < ns.length
    · obtain ⟨r, rfl⟩ : ∃ r, q = r + 1 := ⟨q - 1, by omega⟩
      have hlr : r < ns.length := by omega
      obtain ⟨b, o, rfl, hbN, hC⟩ := HLV.out.cell r hlr
      obtain ⟨b', o', hbo, hbN2, hC2⟩ := HLV.out.cell (r + 1) hlt
      injection hbo with hbo
      injection hbo with e1 e2
      subst e1 e2
      have hC := hC.keep (HB.out.block b hbN)
      have hC2 := hC2.keep (HB.out.block b hbN)
      have hcall := fun w2 hb => HLS.out ns[r] (List.getElem_mem hlr) ns[r + 1] (List.getElem_mem hlt) w2 (HB.out.trans hb)
      have e1 : r + 1 < (AT.ptL ns).length := by rw [AT.ptL_length]; exact hlt
      have hT := asc_take (AT.ptL ns) r e1
      have hF := asc_false (AT.ptL ns) r e1
      rw [ptL_get ns r hlr, ptL_get ns (r + 1) hlt] at hT hF
      obtain ⟨V, hV⟩ : ∃ V, V = ns[r] := ⟨_, rfl⟩
      obtain ⟨V2, hV2⟩ : ∃ V2, V2 = ns[r + 1] := ⟨_, rfl⟩
      rw [← hV] at hC hcall hT hF
      rw [← hV2] at hC2 hcall hT hF
      have HC := Lib.hid hcall
      have HT := Lib.hid hT
      have HF := Lib.hid hF
      obtain ⟨c0, c1, c2, c3, c4⟩ := hC
      obtain ⟨d0, d1, d2, d3, d4⟩ := hC2
      have hi1 : (r : Int) + 1 < ns.length := by omega
      have hi2 : (r : Int) < ns.length := by omega
      have hi3 : (0 : Int) ≤ (r : Int) + 1 := by omega
      have hmx : ns.length ≤ 9223372036854775807 := by have h1 := HLV.out.hc; have h2 := HCAP.out; unfold maxLen at h2; omega
      have hw1 : IntKind.i64.wrap ((r : Int) + 1 - 1) = (r : Int) := by rw [Int.add_sub_cancel]; exact IntWalk.i64_in _ (by omega)
      have hw2 : IntKind.i64.wrap (r : Int) = (r : Int) := IntWalk.i64_in _ (by omega)
      clear hV hV2 hcall hT hF e1
      go_wp2_with fail
      refine wp_region_still_tail 9 (by kernel_rfl) (by kernel_rfl) ?_
      simp only [List.take_succ_cons, List.take_zero, List.drop_succ_cons, List.drop_zero]
      repeat still_step
      refine wpStill_nil ?_
      change wpList _ _ _ _ _ (World.drew _)
      have HBd := Lib.hid ((Below.refl wr.heap.size wr).drew)
      clear c0 c1 c2 c3 c4 d0 d1 d2 d3 d4
      generalize World.drew _ = w2 at *
      go_wp2_with fail
      refine (HC.out _ (HBd.out.mono HB.out.size)).mono ?_
      rintro e w3 ⟨rfl, hb3⟩
      have HB3 := Lib.hid (HB.out.trans ((HBd.out.trans (hb3.mono HBd.out.size)).mono HB.out.size))
      clear hb3
      cases hl : V.pt.less V2.pt
      · have HV : Hid (asc (AT.ptL ns) = false) := Lib.hid (HF.out hl)
        clear hl
        go_wp2
        go_ret
        exact ⟨by rw [HASC.out, HV.out]; try rfl, HB1.out.trans (HB3.out.mono HB1.out.size)⟩
      · have HV : Hid (asc ((AT.ptL ns).take (r + 1 + 1)) = true) := Lib.hid (by rw [HT.out, HA.out, hl]; rfl)
        clear hl
        go_wp2
        go_roundw
        case rel => exact ⟨r + 1 + 1, by go_num, by omega, .inl (by omega), HV, HB3⟩
        case measure => simp [intOf]; omega
    · have HV : Hid (asc (AT.ptL ns) = true) := Lib.hid (by
        have h1 := HA.out
        rwa [List.take_of_length_le (by rw [AT.ptL_length]; omega)] at h1)
      have hnl : ¬ (q : Int) < ns.length := by omega
      go_wp2
      go_ret
      exact ⟨by rw [HASC.out, HV.out]; try rfl, HBw.out⟩
set_option maxHeartbeats 2000000 in
theorem sorted_impl (T : AT) (w : World) (N : Nat) (hwf : T.pt.Wf) (hin : T.In w N) (hsz : T.pt.sz ≤ 1048576) (hN : N ≤ w.heap.size) : Calls Try.prog 53 #[T.val] w fun e w' => e = .returned (.bool (asc T.pt.names)) ∧ Below w.heap.size w w' := by
  have HNC := Lib.hid (fun (w1 : World) (hb : Below w.heap.size w w1) => names_impl T w1 N (hin.blw hb hN) (by have := len_le_sz T; omega) (Nat.le_trans hN hb.size))
  have HNW : Hid (∀ p ∈ T.pt.names, p.Wf ∧ p.sz ≤ 1048576) := Lib.hid (names_wf hwf hsz)
  obtain ⟨tot, htot⟩ : ∃ tot, tot = asc T.pt.names := ⟨_, rfl⟩
  rw [← htot]
  have HTOT := Lib.hid htot
  clear hin hsz hwf htot
  show Calls Try.prog 53 #[.agg #[.int .i64 T.k, .int .i64 T.n, .int .i64 T.x, .string ⟨T.s.toArray⟩, .slice T.a T.l.length T.cap]] w _
  go_enter Try.func53, Try.ntmps53
  go_wp2_with fail
  have hb0 := vbox w (.cells #[.int .i64 T.k, .int .i64 T.n, .int .i64 T.x, .string ⟨T.s.toArray⟩, .slice T.a T.l.length T.cap] 26)
  refine (HNC.out _ hb0).mono ?_
  rintro e w1 ⟨a1, cap1, rfl, hrow, hb1⟩
  have HLV := Lib.hid (hrow.lv (by have := hb1.size; have := hb0.size; omega))
  have HB1 := Lib.hid (hb0.trans (hb1.mono hb0.size))
  have HNP : Hid (AT.ptL T.names = T.pt.names) := Lib.hid (names_pt T)
  have HCAP : Hid (cap1 ≤ maxLen) := Lib.hid (own_cap hrow.row).2.2
  clear hrow hb1 hb0
  generalize T.names = ns at *
  obtain ⟨p, hp⟩ : ∃ p, p = T.pt.names := ⟨_, rfl⟩
  rw [← hp] at HNP HNW
  have HASC : Hid (tot = asc (AT.ptL ns)) := Lib.hid (by rw [HTOT.out, ← hp, HNP.out])
  have HWF : Hid (∀ t ∈ ns, t.pt.Wf ∧ t.pt.sz ≤ 1048576) := Lib.hid (fun t ht => HNW.out t.pt (by rw [← HNP.out, AT.ptL_eq]; exact List.mem_map_of_mem ht))
  have HLS := Lib.hid (fun (t : AT) (ht : t ∈ ns) (u : AT) (hu : u ∈ ns) (w2 : World) (hb : Below w1.heap.size w1 w2) => lessval_impl t u w2 w1.heap.size (HWF.out t ht).1 (HWF.out u hu).1 ((HLV.out.sub t ht).blw hb (Nat.le_refl _)) ((HLV.out.sub u hu).blw hb (Nat.le_refl _)) hb.size (by have := (HWF.out t ht).2; omega))
  clear hp HNP HNW HTOT HNC
  go_wp2_with fail
  go_loopw [4] (fun i wr => ∃ q : Nat, i = .int .i64 q ∧ 1 ≤ q ∧ (q ≤ ns.length ∨ q = 1) ∧ Hid (asc ((AT.ptL ns).take q) = true) ∧ Hid (Below w1.heap.size w1 wr)) (fun i _ => ns.length + 1 - (intOf i).toNat)
  case atStart => exact ⟨1, rfl, Nat.le_refl _, .inr rfl, Lib.hid (asc_one _), Lib.hid (Below.refl _ _)⟩
  case round =>
    obtain ⟨q, rfl, hq1, hq2, HA, HB⟩ := hrel
    have HBw := Lib.hid (HB1.out.trans (HB.out.mono HB1.out.size))
    by_cases hlt : q < ns.length
    · obtain ⟨r, rfl⟩ : ∃ r, q = r + 1 := ⟨q - 1, by omega⟩
      have hlr : r < ns.length := by omega
      obtain ⟨b, o, rfl, hbN, hC⟩ := HLV.out.cell r hlr
      obtain ⟨b', o', hbo, hbN2, hC2⟩ := HLV.out.cell (r + 1) hlt
      injection hbo with hbo
      injection hbo with e1 e2
      subst e1 e2
      have hC := hC.keep (HB.out.block b hbN)
      have hC2 := hC2.keep (HB.out.block b hbN)
      have hcall := fun w2 hb => HLS.out ns[r] (List.getElem_mem hlr) ns[r + 1] (List.getElem_mem hlt) w2 (HB.out.trans hb)
      have e1 : r + 1 < (AT.ptL ns).length := by rw [AT.ptL_length]; exact hlt
      have hT := asc_take (AT.ptL ns) r e1
      have hF := asc_false (AT.ptL ns) r e1
      rw [ptL_get ns r hlr, ptL_get ns (r + 1) hlt] at hT hF
      obtain ⟨V, hV⟩ : ∃ V, V = ns[r] := ⟨_, rfl⟩
      obtain ⟨V2, hV2⟩ : ∃ V2, V2 = ns[r + 1] := ⟨_, rfl⟩
      rw [← hV] at hC hcall hT hF
      rw [← hV2] at hC2 hcall hT hF
      have HC := Lib.hid hcall
      have HT := Lib.hid hT
      have HF := Lib.hid hF
      obtain ⟨c0, c1, c2, c3, c4⟩ := hC
      obtain ⟨d0, d1, d2, d3, d4⟩ := hC2
      have hi1 : (r : Int) + 1 < ns.length := by omega
      have hi2 : (r : Int) < ns.length := by omega
      have hi3 : (0 : Int) ≤ (r : Int) + 1 := by omega
      have hmx : ns.length ≤ 9223372036854775807 := by have h1 := HLV.out.hc; have h2 := HCAP.out; unfold maxLen at h2; omega
      have hw1 : IntKind.i64.wrap ((r : Int) + 1 - 1) = (r : Int) := by rw [Int.add_sub_cancel]; exact IntWalk.i64_in _ (by omega)
      have hw2 : IntKind.i64.wrap (r : Int) = (r : Int) := IntWalk.i64_in _ (by omega)
      clear hV hV2 hcall hT hF e1
      go_wp2_with fail
      refine wp_region_still_tail 9 (by kernel_rfl) (by kernel_rfl) ?_
      simp only [List.take_succ_cons, List.take_zero, List.drop_succ_cons, List.drop_zero]
      repeat still_step
      refine wpStill_nil ?_
      change wpList _ _ _ _ _ (World.drew _)
      have HBd := Lib.hid ((Below.refl wr.heap.size wr).drew)
      clear c0 c1 c2 c3 c4 d0 d1 d2 d3 d4
      generalize World.drew _ = w2 at *
      go_wp2_with fail
      refine (HC.out _ (HBd.out.mono HB.out.size)).mono ?_
      rintro e w3 ⟨rfl, hb3⟩
      have HB3 := Lib.hid (HB.out.trans ((HBd.out.trans (hb3.mono HBd.out.size)).mono HB.out.size))
      clear hb3
      cases hl : V.pt.less V2.pt
      · have HV : Hid (asc (AT.ptL ns) = false) := Lib.hid (HF.out hl)
        clear hl
        go_wp2
        go_ret
        exact ⟨by rw [HASC.out, HV.out]; try rfl, HB1.out.trans (HB3.out.mono HB1.out.size)⟩
      · have HV : Hid (asc ((AT.ptL ns).take (r + 1 + 1)) = true) := Lib.hid (by rw [HT.out, HA.out, hl]; rfl)
        clear hl
        go_wp2
        go_roundw
        case rel => exact ⟨r + 1 + 1, by go_num, by omega, .inl (by omega), HV, HB3⟩
        case measure => simp [intOf]; omega
    · have HV : Hid (asc (AT.ptL ns) = true) := Lib.hid (by
        have h1 := HA.out
        rwa [List.take_of_length_le (by rw [AT.ptL_length]; omega)] at h1)
      have hnl : ¬ (q : Int) < ns.length := by omega
      go_wp2
      go_ret
      exact ⟨by rw [HASC.out, HV.out]; try rfl, HBw.out⟩
end Go.Proofs.Ytpkmlfmkgodhkaa
