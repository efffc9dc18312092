/- copied and ListVal of the program. -/
import Derived.Test.YtgfebmnlcihpnaaCopyStep
import Derived.Test.YtgfebmnlcihpnaaCopyVal
namespace Go.Proofs.Ytgfebmnlcihpnaa
open Go.RowKit
theorem TodoAt.start (w : World) (V : AT) (hF : Frn w w.heap.size V) :
    TodoAt ((w.alloc (.cells #[.int .i64 V.k, .int .i64 V.n, .int .i64 V.x, .string ⟨V.s.toArray⟩, .slice V.a V.l.length V.cap] 26)).alloc (.cells #[.int .i64 0, .int .i64 0, .int .i64 0, .string ⟨#[]⟩, .slice none 0 0] 26)) ((((w.alloc (.cells #[.int .i64 V.k, .int .i64 V.n, .int .i64 V.x, .string ⟨V.s.toArray⟩, .slice V.a V.l.length V.cap] 26)).alloc (.cells #[.int .i64 0, .int .i64 0, .int .i64 0, .string ⟨#[]⟩, .slice none 0 0] 26)).alloc (.cells #[.int .i64 V.k, .int .i64 V.n, .int .i64 V.x, .string ⟨V.s.toArray⟩, .slice V.a V.l.length V.cap] 26)).alloc (.cells #[.slice (some ⟨w.heap.size + 1 + 1, 0, none⟩) 1 1] 24)) w.heap.size (w.heap.size + 1 + 1) ⟨w.heap.size + 1 + 1, 1, [V]⟩ (w.heap.size + 1 + 1 + 1) 1 [⟨w.heap.size + 1 + 1, 1, [V]⟩] := by
  have hb : Below w.heap.size w ((((w.alloc (.cells #[.int .i64 V.k, .int .i64 V.n, .int .i64 V.x, .string ⟨V.s.toArray⟩, .slice V.a V.l.length V.cap] 26)).alloc (.cells #[.int .i64 0, .int .i64 0, .int .i64 0, .string ⟨#[]⟩, .slice none 0 0] 26)).alloc (.cells #[.int .i64 V.k, .int .i64 V.n, .int .i64 V.x, .string ⟨V.s.toArray⟩, .slice V.a V.l.length V.cap] 26)).alloc (.cells #[.slice (some ⟨w.heap.size + 1 + 1, 0, none⟩) 1 1] 24)) := (boxes3 w _ _ _).alloc (by simp; omega) _
  have hn1 := heap_alloc_new ((w.alloc (.cells #[.int .i64 V.k, .int .i64 V.n, .int .i64 V.x, .string ⟨V.s.toArray⟩, .slice V.a V.l.length V.cap] 26)).alloc (.cells #[.int .i64 0, .int .i64 0, .int .i64 0, .string ⟨#[]⟩, .slice none 0 0] 26)) (.cells #[.int .i64 V.k, .int .i64 V.n, .int .i64 V.x, .string ⟨V.s.toArray⟩, .slice V.a V.l.length V.cap] 26)
  have hn2 := heap_alloc_new (((w.alloc (.cells #[.int .i64 V.k, .int .i64 V.n, .int .i64 V.x, .string ⟨V.s.toArray⟩, .slice V.a V.l.length V.cap] 26)).alloc (.cells #[.int .i64 0, .int .i64 0, .int .i64 0, .string ⟨#[]⟩, .slice none 0 0] 26)).alloc (.cells #[.int .i64 V.k, .int .i64 V.n, .int .i64 V.x, .string ⟨V.s.toArray⟩, .slice V.a V.l.length V.cap] 26)) (.cells #[.slice (some ⟨w.heap.size + 1 + 1, 0, none⟩) 1 1] 24)
  simp only [World.size_alloc] at hn1 hn2
  exact {
    row := ⟨rfl, .inr ⟨w.heap.size + 1 + 1 + 1, 1, _, rfl, by omega, hn2, Nat.le_refl _, by unfold maxLen; omega, rfl, rfl⟩⟩
    pend := fun Q hQ => by
      obtain rfl := List.mem_singleton.1 hQ
      refine ⟨⟨rfl, .inr ⟨w.heap.size + 1 + 1, 1, _, rfl, Nat.le_refl _, (Below.heap_alloc _ _ _ (by simp)).trans hn1, Nat.le_refl _, by unfold maxLen; omega, rfl, rfl⟩⟩, fun t ht => ?_, by simp⟩
      obtain rfl := List.mem_singleton.1 ht
      exact hF.kept fun k hk => hb.block k hk
    nd := by simp
    nB := by omega
    wand := fun w' bss hd _ _ _ => by
      cases bss with
      | nil => exact hd.elim
      | cons bs bss => exact ⟨bs, hd.1⟩
    w0B := by simp
    below := boxes2 _ _ _ }
theorem cellsL_one' (l : List AT) : ∀ u ∈ cellsL l, u.oneCell' = true := by
  intro u hu
  obtain ⟨t, _, ht⟩ := List.mem_flatMap.1 hu
  exact cells_one t u ht
theorem cnt_mem {l : List AT} {t : AT} (h : t ∈ l) : t.pt.cnt ≤ PT.cntL (AT.ptL l) := by
  induction l with
  | nil => simp at h
  | cons u l ih =>
    simp only [AT.ptL, PT.cntL]
    rcases List.mem_cons.1 h with rfl | h
    · omega
    · have := ih h; omega
set_option maxHeartbeats 4000000 in
set_option maxRecDepth 100000 in
theorem copied_any (V : AT) (w : World) (B0 : Nat) (hown : V.Own w B0) (hsz : V.pt.sz ≤ 1048576) : Calls Try.prog 104 #[V.val] w (FreshV w V.pt) := by
  obtain ⟨i0, hi, hz0, hz1, hz2⟩ := info_parts valInfo
  obtain ⟨j0, hj, hy0, hy1, hy2⟩ := info_parts walkInfo
  obtain ⟨M, hM⟩ := todoM_ex
  have HM := Lib.hid hM
  have HF : Hid (Frn w w.heap.size V) := Lib.hid ⟨hown.base (Nat.zero_le _), fun k hk => (hown.lt k hk).2⟩
  have hcnt : V.pt.cnt ≤ 1048577 := by have := cnt_le_sz V.pt; omega
  have HCNT := Lib.hid hcnt
  have HSZ := Lib.hid hsz
  clear hM hown hcnt hsz
  show Calls Try.prog 104 #[.agg #[.int .i64 V.k, .int .i64 V.n, .int .i64 V.x, .string ⟨V.s.toArray⟩, .slice V.a V.l.length V.cap]] w _
  go_enter Try.func104, Try.ntmps104
  go_wp2_with fail
  have hst := TodoAt.start w V HF.out
  have hr : ∀ wr : World, Below ((w.alloc (.cells #[.int .i64 V.k, .int .i64 V.n, .int .i64 V.x, .string ⟨V.s.toArray⟩, .slice V.a V.l.length V.cap] 26)).alloc (.cells #[.int .i64 0, .int .i64 0, .int .i64 0, .string ⟨#[]⟩, .slice none 0 0] 26)).heap.size ((w.alloc (.cells #[.int .i64 V.k, .int .i64 V.n, .int .i64 V.x, .string ⟨V.s.toArray⟩, .slice V.a V.l.length V.cap] 26)).alloc (.cells #[.int .i64 0, .int .i64 0, .int .i64 0, .string ⟨#[]⟩, .slice none 0 0] 26)) wr → wr.cell? ⟨w.heap.size + 1, 0, none⟩ = some (.int .i64 0) ∧ wr.cell? ⟨w.heap.size + 1, 1, none⟩ = some (.int .i64 0) ∧ wr.cell? ⟨w.heap.size + 1, 2, none⟩ = some (.int .i64 0) ∧ wr.cell? ⟨w.heap.size + 1, 3, none⟩ = some (.string ⟨#[]⟩) ∧ wr.cell? ⟨w.heap.size + 1, 4, none⟩ = some (.slice none 0 0) ∧ ∀ o, wr.frozen? ⟨w.heap.size + 1, o, none⟩ = false := fun wr hb => by
    refine ⟨?_, ?_, ?_, ?_, ?_, fun o => (hb.frozen (by simp)).trans (by simp [go_sem])⟩ <;> exact (hb.cell (by simp)).trans (by simp [go_sem])
  have hw0 : Below w.heap.size w ((w.alloc (.cells #[.int .i64 V.k, .int .i64 V.n, .int .i64 V.x, .string ⟨V.s.toArray⟩, .slice V.a V.l.length V.cap] 26)).alloc (.cells #[.int .i64 0, .int .i64 0, .int .i64 0, .string ⟨#[]⟩, .slice none 0 0] 26)) := boxes2 _ _ _
  have HST := Lib.hid hst
  have HRR := Lib.hid hr
  have HW0 := Lib.hid hw0
  have hroot : restN [Pend.mk (w.heap.size + 1 + 1) 1 [V]] ≤ 1048577 := by
    have := HCNT.out
    simp only [restN, List.map_cons, List.map_nil, List.sum_cons, List.sum_nil, AT.ptL, PT.cntL]
    omega
  have HROOT := Lib.hid hroot
  clear hst hr hw0 hroot
  generalize ((((w.alloc (.cells #[.int .i64 V.k, .int .i64 V.n, .int .i64 V.x, .string ⟨V.s.toArray⟩, .slice V.a V.l.length V.cap] 26)).alloc (.cells #[.int .i64 0, .int .i64 0, .int .i64 0, .string ⟨#[]⟩, .slice none 0 0] 26)).alloc (.cells #[.int .i64 V.k, .int .i64 V.n, .int .i64 V.x, .string ⟨V.s.toArray⟩, .slice V.a V.l.length V.cap] 26)).alloc (.cells #[.slice (some ⟨w.heap.size + 1 + 1, 0, none⟩) 1 1] 24)) = W at *
  generalize ((w.alloc (.cells #[.int .i64 V.k, .int .i64 V.n, .int .i64 V.x, .string ⟨V.s.toArray⟩, .slice V.a V.l.length V.cap] 26)).alloc (.cells #[.int .i64 0, .int .i64 0, .int .i64 0, .string ⟨#[]⟩, .slice none 0 0] 26)) = W0 at *
  go_loopw [4] (fun v wr => ∃ (Qs : List Pend) (h cap : Nat), v = .slice (some ⟨h, 0, none⟩) Qs.length cap ∧ TodoAt W0 wr w.heap.size (w.heap.size + 1 + 1) ⟨w.heap.size + 1 + 1, 1, [V]⟩ h cap Qs ∧ restN Qs ≤ 1048577) (fun v wr => M v wr)
  case atStart => exact ⟨_, _, _, rfl, HST.out, HROOT.out⟩
  case round =>
    obtain ⟨Qs, h, cap, rfl, htd, hrest⟩ := hrel
    have HTD := Lib.hid htd
    have HRS := Lib.hid hrest
    clear hrest
    rcases snoc_or Qs with rfl | ⟨Qs0, Q, rfl⟩
    · obtain ⟨bs, l', ho, hp, hbs, hnd⟩ := htd.wand wr [] trivial (by simp) (by simp) (fun _ _ _ _ => rfl)
      obtain ⟨V', rfl⟩ : ∃ V', l' = [V'] := by
        have := congrArg List.length hp
        simp only [AT.ptL_length, List.length_singleton] at this
        exact List.length_eq_one_iff.1 this
      have hVp : V'.pt = V.pt := by simpa [AT.ptL] using hp
      obtain ⟨g, hg, _, _, hC⟩ := own_cellL ho.row 0 (by simp)
      obtain rfl : w.heap.size + 1 + 1 = g := by injection hg with hg; injection hg
      obtain ⟨d0, d1, d2, d3, d4⟩ := hC
      obtain ⟨q0, q1, q2, q3, q4, qf⟩ := HRR.out wr htd.below
      have HVP := Lib.hid hVp
      have HO := Lib.hid (ho.sub V' (by simp))
      have HND := Lib.hid (hbs ▸ hnd)
      have HBL := Lib.hid (HW0.out.trans (htd.below.mono HW0.out.size))
      simp only [Nat.zero_add, Nat.zero_mul, List.getElem_cons_zero] at d0 d1 d2 d3 d4
      clear htd ho hp hbs hnd hVp hg HM
      go_wp2
      refine bodyPost_ret (v := V'.val) (by simp [results, Try.results104, go_sem, q0, q1, q2, q3, q4]) rfl ⟨V', HVP.out, rfl, ?_, ?_, ?_⟩
      · refine AT.Own.base (B := w.heap.size + 1 + 1) ?_ (by omega)
        exact AT.Own.set (AT.Own.set (AT.Own.set (AT.Own.set (AT.Own.set HO.out (by omega)) (by omega)) (by omega)) (by omega)) (by omega)
      · have := HND.out
        rw [List.nodup_cons, AT.blksL_one] at this
        exact this.2
      · exact bset (bset (bset (bset (bset HBL.out (by omega)) (by omega)) (by omega)) (by omega)) (by omega)
    · obtain ⟨wo, rfl⟩ : ∃ wo, wo = wr := ⟨_, rfl⟩
      have hrow := htd.row
      have hlQ : (Qs0 ++ [Q]).length = Qs0.length + 1 := by simp
      have hcl := hrow.cellAt Qs0.length (by simp)
      rw [List.map_append, List.getElem?_append_right (by simp)] at hcl
      simp only [List.length_map, Nat.sub_self, List.map_cons, List.map_nil, List.getElem?_cons_zero] at hcl
      replace hcl : wo.cell? ⟨h, Qs0.length, none⟩ = some (.slice (some ⟨Q.g, 0, none⟩) Q.l.length Q.cap) := hcl
      have hcap := own_cap hrow
      rw [hlQ] at hcap ⊢
      obtain ⟨_, hcap1, hcap2⟩ := hcap
      unfold maxLen at hcap2
      have hq0 := own_cap (htd.pend Q (by simp)).row
      have hq1 : Q.l.length ≤ 1048577 := by
        have h1 := HRS.out
        rw [restN_append] at h1
        have h2 := len_le_cnt Q.l
        simp only [restN, List.map_cons, List.map_nil, List.sum_cons, List.sum_nil] at h1
        omega
      have hqs : Qs0.length ≤ 1048577 := by
        have h1 := len_le_rest (Qs0 ++ [Q]) (fun R hR => (HTD.out.pend R hR).ne)
        have h2 := HRS.out
        rw [hlQ] at h1
        omega
      have HQ0 := Lib.hid hq0
      have hmid0 : MidAt wo wo w.heap.size (w.heap.size + 1 + 1) Qs0 Q h [] [] h cap := by
        have hnd := htd.nd
        rw [List.map_append, List.nodup_cons, List.nodup_append] at hnd
        refine { mt := .mnil, len := Nat.zero_le _, rowQ := by simpa using (htd.pend Q (by simp)).row, row := ?_, pend := fun R hR => htd.pend R (by simp at hR; simp [hR]), new := by simp, nd := ?_, hh := .inl rfl, only := Only2.refl _ _ _ }
        · rw [List.append_nil]
          exact own_sub (ys := [Q.val]) (by simpa using hrow) (by simp)
        · rw [List.append_nil, List.nodup_cons, List.nodup_cons]
          refine ⟨fun hx => hnd.1 ?_, fun hx => ?_, hnd.2.1⟩
          · simp only [List.mem_cons, List.mem_append, List.map_cons, List.map_nil, List.not_mem_nil, or_false] at hx ⊢
            rcases hx with hx | hx
            · exact .inr hx
            · exact .inl hx
          · exact hnd.2.2.2 Q.g hx Q.g (by simp) rfl
      have HMID := Lib.hid hmid0
      have hfr0 : ∀ t ∈ Q.l, Frn wo w.heap.size t := (htd.pend Q (by simp)).sub
      have HFR := Lib.hid hfr0
      have hsq : ∀ t ∈ Q.l, t.l.length ≤ 1048577 := fun t ht => by
        have h1 := HRS.out
        rw [restN_append] at h1
        simp only [restN, List.map_cons, List.map_nil, List.sum_cons, List.sum_nil] at h1
        have h2 := cnt_mem ht
        have h3 := cnt_eq' t
        have h4 := len_le_cnt t.l
        omega
      have HSQ := Lib.hid hsq
      have hcs : ∀ (ns : List AT) (Cs : List Pend) wi h' cap', MidAt wo wi w.heap.size (w.heap.size + 1 + 1) Qs0 Q h ns Cs h' cap' → (Qs0 ++ Cs).length ≤ 1048577 ∧ restN (Qs0 ++ Cs) + ns.length ≤ restN (Qs0 ++ [Q]) := fun ns Cs wi h' cap' hm => by
        have h1 := len_le_rest (Qs0 ++ Cs) (fun R hR => (hm.pend R hR).ne)
        have h2 := hm.mt.rest
        have h3 : PT.cntL (AT.ptL (Q.l.take ns.length)) ≤ PT.cntL (AT.ptL Q.l) := by
          have := cntL_take_le (AT.ptL Q.l) ns.length
          rw [AT.ptL_eq, List.map_take, ← AT.ptL_eq]; exact this
        have h4 := HRS.out
        have h5 : (Q.l.take ns.length).length = ns.length := by rw [List.length_take]; have := hm.len; omega
        rw [restN_append] at h1 h4 ⊢
        rw [restN_append]
        simp only [restN, List.map_cons, List.map_nil, List.sum_cons, List.sum_nil] at *
        omega
      have HCS := Lib.hid hcs
      have HLQ := Lib.hid hlQ
      clear hrow htd hq0 hlQ hmid0 hfr0 hsq hcs
      go_wp2_with fail
      go_loopw [4, 27] (fun v i wi => ∃ (ns : List AT) (Cs : List Pend) (h' cap' : Nat), v = .slice (some ⟨h', 0, none⟩) (Qs0 ++ Cs).length cap' ∧ i = .int .i64 ns.length ∧ MidAt wo wi w.heap.size (w.heap.size + 1 + 1) Qs0 Q h ns Cs h' cap') (fun _ i _ => Q.l.length - (intOf i).toNat)
      case atStart => exact ⟨[], [], h, cap, by simp, rfl, HMID.out⟩
      case round =>
        obtain ⟨ns, Cs, h', cap', rfl, rfl, hmid⟩ := hrel
        have HMI := Lib.hid hmid
        have hnl := hmid.len
        obtain ⟨hCs1, hCs2⟩ := HCS.out _ _ _ _ _ hmid
        have HC2 := Lib.hid hCs2
        clear hCs2
        by_cases hlt : ns.length < Q.l.length
        · obtain ⟨T, hT⟩ : ∃ T, T = Q.l[ns.length] := ⟨_, rfl⟩
          have hmem : T ∈ Q.l := by rw [hT]; exact List.getElem_mem hlt
          have hf := hmid.facts
          have hFT : Frn wr w.heap.size T := (HFR.out T hmem).kept fun k hk => hmid.only.block k (by have := (HTD.out.pend Q (by simp)).lt; omega) (by omega) (by have := (HTD.out.row.lt h rfl).1; omega)
          have hc4 : wr.cell? ⟨Q.g, ns.length * 5 + 4, none⟩ = some (.slice T.a T.l.length T.cap) := by
            rw [hmid.rowQ.cellAt (ns.length * 5 + 4) (by omega), List.getElem?_append_right (by rw [cellsL_length]; omega), cellsL_length, drop_cells Q.l ns.length hlt, ← hT]
            rw [show ns.length * 5 + 4 - ns.length * 5 = 4 by omega]
            rfl
          have hfg := hmid.rowQ.frozenAt
          have hTl := HSQ.out T hmem
          have HT := Lib.hid hT
          have HFT := Lib.hid hFT
          have HF := Lib.hid hf
          have hlt2 : (ns.length : Int) < Q.l.length := by omega
          clear hmid hT hf hFT
          by_cases hl0 : T.l = []
          · have hg0 : T.l.length = 0 := by rw [hl0]; rfl
            have hrowT := HFT.out.1.l'.row
            rw [hg0] at hc4 hrowT
            have fin : ∀ wA : World, wr.grownBy wA none → MidAt wo (wA.setCell ⟨Q.g, ns.length * 5 + 4, none⟩ (.slice none 0 0)) w.heap.size (w.heap.size + 1 + 1) Qs0 Q h (ns ++ [.mk T.k T.n T.x T.s none 0 []]) Cs h' cap' := fun wA hg => HMI.out.none' (by omega) hlt T HT.out hl0 hg
            have FIN := Lib.hid fin
            have HL0 := Lib.hid hl0
            have hkA : ∀ wA : World, wr.grownBy wA none → wA.cell? ⟨Q.g, ns.length * 5 + 4, none⟩ = wr.cell? ⟨Q.g, ns.length * 5 + 4, none⟩ ∧ wA.frozen? ⟨Q.g, ns.length * 5 + 4, none⟩ = wr.frozen? ⟨Q.g, ns.length * 5 + 4, none⟩ := fun wA hg => by
              have := hg.block Q.g HF.out.2.1 (by simp)
              exact ⟨World.cell?_of_block this, frozen_blk this⟩
            have HKA := Lib.hid hkA
            clear hl0 hg0 fin hkA
            rcases hTa : T.a with _ | ad
            · rw [hTa] at hc4 hrowT
              have hcap0 : T.cap = 0 := by
                rcases hrowT.2 with ⟨h1, _⟩ | ⟨g, c, cur, h1, _⟩
                · injection h1
                · injection h1 with h1; cases h1
              rw [hcap0] at hc4
              have HT2 := Lib.hid (And.intro hTa hcap0)
              clear hTa hcap0 hrowT
              go_wp2_with (refine wpList_append_own_none rfl _ _ _ rfl (w.heap.size + 1 + 1) 26 i0 5 Try.underlying24 hi _ 0 [] rfl (World.ownsRow_nil _ _ _ _) rfl ?_)
              refine ⟨⟨_, Cs, h', cap', by rw [List.length_append], by rw [List.length_append]; go_num, FIN.out wr (World.grownBy.refl _ _)⟩, by simp [intOf]; omega⟩
            · rw [hTa] at hc4 hrowT
              obtain ⟨b, rfl⟩ : ∃ b, ad = ⟨b, 0, none⟩ := by
                rcases hrowT.2 with ⟨h1, _⟩ | ⟨g, c, cur, h1, _⟩
                · injection h1 with h1; cases h1
                · injection h1 with h1; injection h1 with h1; exact ⟨g, h1⟩
              have HTa := Lib.hid hTa
              clear hTa hrowT
              go_wp2_with (refine wpList_append_own_at _ rfl _ _ _ rfl (w.heap.size + 1 + 1) 26 i0 _ 5 64 Try.underlying24 hi hz0 hz1 hz2 rfl (by omega) _ 0 [] rfl (World.ownsRow_nil _ _ _ _) ⟨b, 0, none⟩ 0 T.cap [] rfl rfl (by simp) (by simp) (by unfold maxLen; omega) (by omega) (by have := HF.out; omega) ?_)
              intro v' wA hownA hgrow hnil hat
              obtain rfl : v' = .slice none 0 0 := by first | exact hnil | exact hnil.2 ⟨rfl, rfl⟩
              obtain ⟨k1, k2⟩ := HKA.out wA hgrow
              have k3 : wA.frozen? ⟨Q.g, ns.length * 5 + 4, none⟩ = false := k2.trans (hfg _)
              rw [hc4] at k1
              have HG := Lib.hid hgrow
              clear hownA hgrow hnil hat k2
              go_wp2
              refine ⟨⟨_, Cs, h', cap', by rw [List.length_append], by rw [List.length_append]; go_num, FIN.out wA HG.out⟩, by simp [intOf]; omega⟩
          · have hrowT := HFT.out.1.l'.row
            obtain ⟨b, hTa, hx1, hx2, hx3⟩ := own_cellL hrowT 0 (List.length_pos_iff.2 hl0)
            clear hx1 hx2 hx3
            have hpos : 0 < T.l.length := List.length_pos_iff.2 hl0
            rw [hTa] at hc4 hrowT
            have HL0 := Lib.hid hl0
            have HTa := Lib.hid hTa
            have hnews := World.ownsRow.cells hrowT (g := b) rfl
            have HRT := Lib.hid hrowT
            clear hl0 hTa hrowT
            go_wp2_with (refine wpList_append_lies _ (by rfl) _ _ _ (by rfl) (w.heap.size + 1 + 1) 26 i0 _ 5 64 Try.underlying24 hi hz0 hz1 hz2 rfl (by omega) _ 0 [] (by rfl) (World.ownsRow_nil _ _ _ _) ⟨b, 0, none⟩ T.l.length T.cap (cellsL T.l) (by rfl) (cellsL_length T.l) hnews (cellsL_one' T.l) hpos (by unfold maxLen; omega) (by omega) (by have := HF.out; omega) wr.heap.size rfl ?_)
            intro c capc wA hownA hgrow hat hcA
            have hc : c = wr.heap.size := by simpa [Value.ownBlock] using hat
            have hownA : wA.ownsRow (w.heap.size + 1 + 1) 26 5 (.slice (some ⟨c, 0, none⟩) T.l.length capc) T.l.length (cellsL T.l) := by simpa using hownA
            have hblk : ∀ k, k < wr.heap.size → wA.heap[k]? = wr.heap[k]? := fun k hk => hgrow.block k hk (by simp [Value.ownBlock])
            have k1 : wA.cell? ⟨Q.g, ns.length * 5 + 4, none⟩ = some (.slice (some ⟨b, 0, none⟩) T.l.length T.cap) := by rw [World.cell?_of_block (hblk Q.g HF.out.2.1)]; exact hc4
            have k3 : wA.frozen? ⟨Q.g, ns.length * 5 + 4, none⟩ = false := by rw [frozen_blk (hblk Q.g HF.out.2.1)]; exact hfg _
            have hgs := hgrow.size
            have hrowH : ∀ u : Value, ((wA.setCell ⟨Q.g, ns.length * 5 + 4, none⟩ (.slice (some ⟨c, 0, none⟩) T.l.length capc)).alloc (.cells #[u] 24)).ownsRow (w.heap.size + 1 + 1) 24 1 (.slice (some ⟨h', 0, none⟩) (Qs0.length + Cs.length) cap') (Qs0.length + Cs.length) ((Qs0 ++ Cs).map Pend.val) := fun u => by
              have := own_heap HMI.out.row (w' := ((wA.setCell ⟨Q.g, ns.length * 5 + 4, none⟩ (.slice (some ⟨c, 0, none⟩) T.l.length capc)).alloc (.cells #[u] 24))) (fun k hk => by
                simp [Value.ownBlock] at hk
                subst hk
                have hf := HF.out
                exact (Below.heap_alloc _ _ _ (by simp [World.setCell]; omega)).trans ((Below.heap_setCell _ _ _ _ (by show h' ≠ Q.g; omega)).trans (hblk h' hf.2.2.2.1)))
              rwa [List.length_append] at this
            have HOA := Lib.hid hownA
            have HGR := Lib.hid hgrow
            have HC := Lib.hid hc
            have HRH := Lib.hid hrowH
            have HF2 := Lib.hid (And.intro hgs (And.intro HF.out.2.2.2.1 HF.out.1))
            have hlpos : (0 : Int) < T.l.length := by omega
            have hCs3 : Qs0.length + Cs.length ≤ 1048577 := by rw [List.length_append] at hCs1; exact hCs1
            have HCA := Lib.hid hcA
            clear hownA hgrow hat hblk hgs hrowH hc hc4 hnews hcA
            go_wp2_with (refine wpList_append_lies _ (by rfl) _ _ _ (by rfl) (w.heap.size + 1 + 1) 24 j0 _ 1 24 Try.underlying101 hj hy0 hy1 hy2 rfl (by omega) _ (Qs0.length + Cs.length) _ (by rfl) (HRH.out _) ⟨wA.heap.size, 0, none⟩ 1 1 [.slice (some ⟨c, 0, none⟩) T.l.length capc] (by rfl) (by rfl) ?news (by simp [Value.oneCell']) (by omega) (by unfold maxLen; omega) (by omega) (by have h1 := HF.out; have h2 := HF2.out; simp; omega) (wA.heap.size + 1) (by simp) ?_)
            case news =>
              have := World.news_of_block (cs := #[.slice (some ⟨c, 0, none⟩) T.l.length capc]) (t := 24) (fr := (0, 0)) (heap_alloc_new (wA.setCell ⟨Q.g, ns.length * 5 + 4, none⟩ (.slice (some ⟨c, 0, none⟩) T.l.length capc)) (.cells #[.slice (some ⟨c, 0, none⟩) T.l.length capc] 24))
              simpa using this
            intro h2 cap2 wD hownD hgD hatD hltD
            have hmidD := HMI.out.some' (wD := wD) (h2 := h2) (cap2 := cap2) (ob := .cells #[.slice (some ⟨c, 0, none⟩) T.l.length capc] 24) (by omega) hlt T HT.out HL0.out HFT.out HGR.out HC.out HCA.out HOA.out (by rw [List.length_append, List.map_append]; simpa using hownD) (by simpa [Value.ownBlock] using hgD) (by simpa [Value.ownBlock] using hatD)
            have HMD := Lib.hid hmidD
            clear hownD hgD hatD hltD hmidD
            go_wp2
            refine ⟨⟨_, Cs ++ [⟨c, capc, T.l⟩], h2, cap2, ?_, by rw [List.length_append]; go_num, HMD.out⟩, by simp [intOf]; omega⟩
            simp only [List.length_append, List.length_cons, List.length_nil]
            rw [Nat.add_assoc]
        · have hend : ns.length = Q.l.length := by omega
          have hnext := HTD.out.next hmid hend
          have hne := (HTD.out.pend Q (by simp)).ne
          have hpos : 0 < Q.l.length := List.length_pos_iff.2 hne
          have hms : M (.slice (some ⟨h', 0, none⟩) (Qs0 ++ Cs).length cap') wr < M (.slice (some ⟨h, 0, none⟩) (Qs0.length + 1) cap) wo := by
            rw [HM.out _ _ _ _ _ _ hnext.row hnext.pend, ← HLQ.out, HM.out _ _ _ _ _ _ HTD.out.row HTD.out.pend]
            have := HC2.out
            omega
          have HN := Lib.hid hnext
          have HMS := Lib.hid hms
          have HRN : Hid (restN (Qs0 ++ Cs) ≤ 1048577) := Lib.hid (by have := HC2.out; have := HRS.out; omega)
          clear hmid hnext hms hne hend
          go_wp2
          exact ⟨⟨Qs0 ++ Cs, h', cap', rfl, HN.out, HRN.out⟩, HMS.out⟩
theorem listcontent_any (w : World) (a : Option Addr) (len cap : Nat) : Calls Try.prog 105 #[.slice a len cap] w fun e w' => e = .returned (.agg #[.int .i64 9, .int .i64 0, .int .i64 0, .string ⟨#[]⟩, .slice a len cap]) ∧ Below w.heap.size w w' := by
  go_enter Try.func105, Try.ntmps105
  go_wp2
  exact bodyPost_ret (v := .agg #[.int .i64 9, .int .i64 0, .int .i64 0, .string ⟨#[]⟩, .slice a len cap]) (by simp [results, Try.results105, go_sem]) rfl ⟨rfl, vbox _ _⟩
theorem listval_impl (l : List AT) (hsz : l.length + PT.szL (AT.ptL l) ≤ 1048576) (w : World) (B0 : Nat) (a : Option Addr) (cap : Nat) (h : OwnL w B0 a cap l) : Calls Try.prog 37 #[.slice a l.length cap] w (FreshV w (.mk 9 0 0 [] (AT.ptL l))) := by
  have hc := fun (w1 : World) (hb : Below w.heap.size w w1) => copied_any (.mk 9 0 0 [] a cap l) w1 B0 (h.blw hb).own (by simp only [AT.pt, PT.sz, AT.ptL_length, List.length_nil]; omega)
  have HC := Lib.hid hc
  clear hc h
  go_enter Try.func37, Try.ntmps37
  go_wp2_with fail
  refine (listcontent_any _ _ _ _).mono ?_
  rintro e w1 ⟨rfl, hb1⟩
  have hbw := (vbox w (.cells #[.int .i64 0, .int .i64 0, .int .i64 0, .string ⟨#[]⟩, .slice none 0 0] 26)).trans (hb1.mono (by simp))
  obtain ⟨q0, q1, q2, q3, q4, qf⟩ := zbox5 w hb1
  have hsz1 := hb1.size
  simp only [World.size_alloc] at hsz1
  have HB1 := Lib.hid hbw
  clear hb1 hbw
  go_wp2_with fail
  refine (HC.out w1 HB1.out).mono ?_
  rintro e w2 ⟨T, hp, rfl, ho, hn, hb2⟩
  replace q0 := keep_below hb2 q0
  replace q1 := keep_below hb2 q1
  replace q2 := keep_below hb2 q2
  replace q3 := keep_below hb2 q3
  replace q4 := keep_below hb2 q4
  have qf2 : ∀ o, w2.frozen? ⟨w.heap.size, o, none⟩ = false := fun o => by rw [frozen_blk (hb2.block _ (by omega))]; exact qf o
  have HB2 := Lib.hid (HB1.out.trans (hb2.mono HB1.out.size))
  have HP := Lib.hid hp
  have HO := Lib.hid ho
  have HN := Lib.hid hn
  clear hb2 hp ho hn qf
  go_wp2
  refine bodyPost_ret (v := T.val) (by simp [results, Try.results37, go_sem, q0, q1, q2, q3, q4]) rfl ⟨T, ?_, rfl, ?_, HN.out, ?_⟩
  · rw [HP.out]; simp [AT.pt]
  · refine AT.Own.base (B := w1.heap.size) ?_ (by omega)
    exact AT.Own.set (AT.Own.set (AT.Own.set (AT.Own.set (AT.Own.set HO.out (by omega)) (by omega)) (by omega)) (by omega)) (by omega)
  · exact bset (bset (bset (bset (bset HB2.out (Nat.le_refl _)) (Nat.le_refl _)) (Nat.le_refl _)) (Nat.le_refl _)) (Nat.le_refl _)
end Go.Proofs.Ytgfebmnlcihpnaa
