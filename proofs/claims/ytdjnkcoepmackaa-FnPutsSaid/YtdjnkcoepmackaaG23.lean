import Derived.Test.YtdjnkcoepmackaaG22
import Derived.Test.YtdjnkcoepmackaaG10
import Derived.Test.YtdjnkcoepmackaaG21
import Derived.Test.YtdjnkcoepmackaaG12
/- copied and ListVal of the program. -/
namespace Go.Proofs.Ytdjnkcoepmackaa
open Go.RowKit
theorem TodoAt.start (w : World) (V : AT) (hF : Frn w w.heap.size V) :
    TodoAt ((w.alloc (.cells #[.int .i64 V.k, .int .i64 V.n, .int .i64 V.x, .string ⟨V.s.toArray⟩, .slice V.a V.l.length V.cap] 28)).alloc (.cells #[.int .i64 0, .int .i64 0, .int .i64 0, .string ⟨#[]⟩, .slice none 0 0] 28)) ((((w.alloc (.cells #[.int .i64 V.k, .int .i64 V.n, .int .i64 V.x, .string ⟨V.s.toArray⟩, .slice V.a V.l.length V.cap] 28)).alloc (.cells #[.int .i64 0, .int .i64 0, .int .i64 0, .string ⟨#[]⟩, .slice none 0 0] 28)).alloc (.cells #[.int .i64 V.k, .int .i64 V.n, .int .i64 V.x, .string ⟨V.s.toArray⟩, .slice V.a V.l.length V.cap] 28)).alloc (.cells #[.slice (some ⟨w.heap.size + 1 + 1, 0, none⟩) 1 1] 26)) w.heap.size (w.heap.size + 1 + 1) ⟨w.heap.size + 1 + 1, 1, [V]⟩ (w.heap.size + 1 + 1 + 1) 1 [⟨w.heap.size + 1 + 1, 1, [V]⟩] := by
  have hb : Below w.heap.size w ((((w.alloc (.cells #[.int .i64 V.k, .int .i64 V.n, .int .i64 V.x, .string ⟨V.s.toArray⟩, .slice V.a V.l.length V.cap] 28)).alloc (.cells #[.int .i64 0, .int .i64 0, .int .i64 0, .string ⟨#[]⟩, .slice none 0 0] 28)).alloc (.cells #[.int .i64 V.k, .int .i64 V.n, .int .i64 V.x, .string ⟨V.s.toArray⟩, .slice V.a V.l.length V.cap] 28)).alloc (.cells #[.slice (some ⟨w.heap.size + 1 + 1, 0, none⟩) 1 1] 26)) := (boxes3 w _ _ _).alloc (by simp; omega) _
  have hn1 := heap_alloc_new ((w.alloc (.cells #[.int .i64 V.k, .int .i64 V.n, .int .i64 V.x, .string ⟨V.s.toArray⟩, .slice V.a V.l.length V.cap] 28)).alloc (.cells #[.int .i64 0, .int .i64 0, .int .i64 0, .string ⟨#[]⟩, .slice none 0 0] 28)) (.cells #[.int .i64 V.k, .int .i64 V.n, .int .i64 V.x, .string ⟨V.s.toArray⟩, .slice V.a V.l.length V.cap] 28)
  have hn2 := heap_alloc_new (((w.alloc (.cells #[.int .i64 V.k, .int .i64 V.n, .int .i64 V.x, .string ⟨V.s.toArray⟩, .slice V.a V.l.length V.cap] 28)).alloc (.cells #[.int .i64 0, .int .i64 0, .int .i64 0, .string ⟨#[]⟩, .slice none 0 0] 28)).alloc (.cells #[.int .i64 V.k, .int .i64 V.n, .int .i64 V.x, .string ⟨V.s.toArray⟩, .slice V.a V.l.length V.cap] 28)) (.cells #[.slice (some ⟨w.heap.size + 1 + 1, 0, none⟩) 1 1] 26)
  simp only [World.size_alloc] at hn1 hn2
  exact {
    row := ⟨rfl, .inr ⟨w.heap.size + 1 + 1 + 1, 1, _, rfl, by omega, hn2, Nat.le_refl _, by unfold maxLen; omega, rfl, rfl⟩⟩
    pend := fun Q hQ => by
      obtain rfl := List.mem_singleton.1 hQ
      refine ⟨⟨rfl, .inr ⟨w.heap.size + 1 + 1, 1, _, rfl, Nat.le_refl _, (Below.heap_alloc _ _ _ (by simp)).trans hn1, Nat.le_refl _, by unfold maxLen; omega, rfl, rfl⟩⟩, fun t ht => ?_, by simp⟩
      obtain rfl := List.mem_singleton.1 ht
      exact hF.kept fun k hk => hb.block k hk
    nd := by simp
    nB := by omega
    wand := fun w' bss hd _ _ _ => by
      cases bss with
      | nil => exact hd.elim
      | cons bs bss => exact ⟨bs, hd.1⟩
    w0B := by simp
    below := boxes2 _ _ _ }
theorem cellsL_one' (l : List AT) : ∀ u ∈ cellsL l, u.oneCell' = true := by
  intro u hu
  obtain ⟨t, _, ht⟩ := List.mem_flatMap.1 hu
  exact cells_one t u ht
theorem cnt_mem {l : List AT} {t : AT} (h : t ∈ l) : t.pt.cnt ≤ PT.cntL (AT.ptL l) := by
  induction l with
  | nil => simp at h
  | cons u l ih =>
    simp only [AT.ptL, PT.cntL]
    rcases List.mem_cons.1 h with rfl | h
    · omega
    · have := ih h; omega
set_option maxHeartbeats 4000000 in
set_option maxRecDepth 100000 in
theorem copied_any (V : AT) (w : World) (B0 : Nat) (hown : V.Own w B0) (hsz : V.pt.sz ≤ 1048576) : Calls Try.prog 73 #[V.val] w (FreshV w V.pt) := by
  obtain ⟨i0, hi, hz0, hz1, hz2⟩ := info_parts valInfo
  obtain ⟨j0, hj, hy0, hy1, hy2⟩ := info_parts walkInfo
  obtain ⟨M, hM⟩ := todoM_ex
  have HM := Lib.hid hM
  have HF : Hid (Frn w w.heap.size V) := Lib.hid ⟨hown.base (Nat.zero_le _), fun k hk => (hown.lt k hk).2⟩
  have hcnt : V.pt.cnt ≤ 1048577 := by have := cnt_le_sz V.pt; omega
  have HCNT := Lib.hid hcnt
  have HSZ := Lib.hid hsz
  clear hM hown hcnt hsz
  show Calls Try.prog 73 #[.agg #[.int .i64 V.k, .int .i64 V.n, .int .i64 V.x, .string ⟨V.s.toArray⟩, .slice V.a V.l.length V.cap]] w _
  go_enter Try.func73, Try.ntmps73
  go_wp2_with fail
  have hst := TodoAt.start w V HF.out
  have hr : ∀ wr : World, Below ((w.alloc (.cells #[.int .i64 V.k, .int .i64 V.n, .int .i64 V.x, .string ⟨V.s.toArray⟩, .slice V.a V.l.length V.cap] 28)).alloc (.cells #[.int .i64 0, .int .i64 0, .int .i64 0, .string ⟨#[]⟩, .slice none 0 0] 28)).heap.size ((w.alloc (.cells #[.int .i64 V.k, .int .i64 V.n, .int .i64 V.x, .string ⟨V.s.toArray⟩, .slice V.a V.l.length V.cap] 28)).alloc (.cells #[.int .i64 0, .int .i64 0, .int .i64 0, .string ⟨#[]⟩, .slice none 0 0] 28)) wr → wr.cell? ⟨w.heap.size + 1, 0, none⟩ = some (.int .i64 0) ∧ wr.cell? ⟨w.heap.size + 1, 1, none⟩ = some (.int .i64 0) ∧ wr.cell? ⟨w.heap.size + 1, 2, none⟩ = some (.int .i64 0) ∧ wr.cell? ⟨w.heap.size + 1, 3, none⟩ = some (.string ⟨#[]⟩) ∧ wr.cell? ⟨w.heap.size + 1, 4, none⟩ = some (.slice none 0 0) ∧ ∀ o, wr.frozen? ⟨w.heap.size + 1, o, none⟩ = false := fun wr hb => by
    refine ⟨?_, ?_, ?_, ?_, ?_, fun o => (hb.frozen (by simp)).trans (by simp [go_sem])⟩ <;> exact (hb.cell (by simp)).trans (by simp [go_sem])
  have hw0 : Below w.heap.size w ((w.alloc (.cells #[.int .i64 V.k, .int .i64 V.n, .int .i64 V.x, .string ⟨V.s.toArray⟩, .slice V.a V.l.length V.cap] 28)).alloc (.cells #[.int .i64 0, .int .i64 0, .int .i64 0, .string ⟨#[]⟩, .slice none 0 0] 28)) := boxes2 _ _ _
  have HST := Lib.hid hst
  have HRR := Lib.hid hr
  have HW0 := Lib.hid hw0
  have hroot : restN [Pend.mk (w.heap.size + 1 + 1) 1 [V]] ≤ 1048577 := by
    have := HCNT.out
    simp only [restN, List.map_cons, List.map_nil, List.sum_cons, List.sum_nil, AT.ptL, PT.cntL]
    omega
  have HROOT := Lib.hid hroot
  clear hst hr hw0 hroot
  generalize ((((w.alloc (.cells #[.int .i64 V.k, .int .i64 V.n, .int .i64 V.x, .string ⟨V.s.toArray⟩, .slice V.a V.l.length V.cap] 28)).alloc (.cells #[.int .i64 0, .int .i64 0, .int .i64 0, .string ⟨#[]⟩, .slice none 0 0] 28)).alloc (.cells #[.int .i64 V.k, .int .i64 V.n, .int .i64 V.x, .string ⟨V.s.toArray⟩, .slice V.a V.l.length V.cap] 28)).alloc (.cells #[.slice (some ⟨w.heap.size + 1 + 1, 0, none⟩) 1 1] 26)) = W at *
  generalize ((w.alloc (.cells #[.int .i64 V.k, .int .i64 V.n, .int .i64 V.x, .string ⟨V.s.toArray⟩, .slice V.a V.l.length V.cap] 28)).alloc (.cells #[.int .i64 0, .int .i64 0, .int .i64 0, .string ⟨#[]⟩, .slice none 0 0] 28)) = W0 at *
  go_loopw [4] (fun v wr => ∃ (Qs : List Pend) (h cap : Nat), v = .slice (some ⟨h, 0, none⟩) Qs.length cap ∧ TodoAt W0 wr w.heap.size (w.heap.size + 1 + 1) ⟨w.heap.size + 1 + 1, 1, [V]⟩ h cap Qs ∧ restN Qs ≤ 1048577) (fun v wr => M v wr)
  case atStart => exact ⟨_, _, _, rfl, HST.out, HROOT.out⟩
  case round =>
    obtain ⟨Qs, h, cap, rfl, htd, hrest⟩ := hrel
    have HTD := Lib.hid htd
    have HRS := Lib.hid hrest
    clear hrest
    rcases snoc_or Qs with rfl | ⟨Qs0, Q, rfl⟩
    · obtain ⟨bs, l', ho, hp, hbs, hnd⟩ := htd.wand wr [] trivial (by simp) (by simp) (fun _ _ _ _ => rfl)
      obtain ⟨V', rfl⟩ : ∃ V', l' = [V'] := by
        have := congrArg List.length hp
        simp only [AT.ptL_length, List.length_singleton] at this
        exact List.length_eq_one_iff.1 this
      have hVp : V'.pt = V.pt := by simpa [AT.ptL] using hp
      obtain ⟨g, hg, _, _, hC⟩ := own_cellL ho.row 0 (by simp)
      obtain rfl : w.heap.size + 1 + 1 = g := by injection hg with hg; injection hg
      obtain ⟨d0, d1, d2, d3, d4⟩ := hC
      obtain ⟨q0, q1, q2, q3, q4, qf⟩ := HRR.out wr htd.below
      have HVP := Lib.hid hVp
      have HO := Lib.hid (ho.sub V' (by simp))
      have HND := Lib.hid (hbs ▸ hnd)
      have HBL := Lib.hid (HW0.out.trans (htd.below.mono HW0.out.size))
      simp only [Nat.zero_add, Nat.zero_mul, List.getElem_cons_zero] at d0 d1 d2 d3 d4
      clear htd ho hp hbs hnd hVp hg HM
      go_wp2
      refine bodyPost_ret (v := V'.val) (by simp [results, Try.results73, go_sem, q0, q1, q2, q3, q4]) rfl ⟨V', HVP.out, rfl, ?_, ?_, ?_⟩
      · refine AT.Own.base (B := w.heap.size + 1 + 1) ?_ (by omega)
        exact AT.Own.set (AT.Own.set (AT.Own.set (AT.Own.set (AT.Own.set HO.out (by omega)) (by omega)) (by omega)) (by omega)) (by omega)
      · have := HND.out
        rw [List.nodup_cons, AT.blksL_one] at this
        exact this.2
      · exact bset (bset (bset (bset (bset HBL.out (by omega)) (by omega)) (by omega)) (by omega)) (by omega)
    · obtain ⟨wo, rfl⟩ : ∃ wo, wo = wr := ⟨_, rfl⟩
      have hrow := htd.row
      have hlQ : (Qs0 ++ [Q]).length = Qs0.length + 1 := by simp
      have hcl := hrow.cellAt Qs0.length (by simp)
      rw [List.map_append, List.getElem?_append_right (by simp)] at hcl
      simp only [List.length_map, Nat.sub_self, List.map_cons, List.map_nil, List.getElem?_cons_zero] at hcl
      replace hcl : wo.cell? ⟨h, Qs0.length, none⟩ = some (.slice (some ⟨Q.g, 0, none⟩) Q.l.length Q.cap) := hcl
      have hcap := own_cap hrow
      rw [hlQ] at hcap ⊢
      obtain ⟨_, hcap1, hcap2⟩ := hcap
      unfold maxLen at hcap2
      have hq0 := own_cap (htd.pend Q (by simp)).row
      have hq1 : Q.l.length ≤ 1048577 := by
        have h1 := HRS.out
        rw [restN_append] at h1
        have h2 := len_le_cnt Q.l
        simp only [restN, List.map_cons, List.map_nil, List.sum_cons, List.sum_nil] at h1
        omega
      have hqs : Qs0.length ≤ 1048577 := by
        have h1 := len_le_rest (Qs0 ++ [Q]) (fun R hR => (HTD.out.pend R hR).ne)
        have h2 := HRS.out
        rw [hlQ] at h1
        omega
      have HQ0 := Lib.hid hq0
      have hmid0 : MidAt wo wo w.heap.size (w.heap.size + 1 + 1) Qs0 Q h [] [] h cap := by
        have hnd := htd.nd
        rw [List.map_append, List.nodup_cons, List.nodup_append] at hnd
        refine { mt := .mnil, len := Nat.zero_le _, rowQ := by simpa using (htd.pend Q (by simp)).row, row := ?_, pend := fun R hR => htd.pend R (by simp at hR; simp [hR]), new := by simp, nd := ?_, hh := .inl rfl, only := Only2.refl _ _ _ }
        · rw [List.append_nil]
          exact own_sub (ys := [Q.val]) (by simpa using hrow) (by simp)
        · rw [List.append_nil, List.nodup_cons, List.nodup_cons]
          refine ⟨fun hx => hnd.1 ?_, fun hx => ?_, hnd.2.1⟩
          · simp only [List.mem_cons, List.mem_append, List.map_cons, List.map_nil, List.not_mem_nil, or_false] at hx ⊢
            rcases hx with hx | hx
            · exact .inr hx
            · exact .inl hx
          · exact hnd.2.2.2 Q.g hx Q.g (by simp) rfl
      have HMID := Lib.hid hmid0
      have hfr0 : ∀ t ∈ Q.l, Frn wo w.heap.size t := (htd.pend Q (by simp)).sub
      have HFR := Lib.hid hfr0
      have hsq : ∀ t ∈ Q.l, t.l.length ≤ 1048577 := fun t ht => by
        have h1 := HRS.out
        rw [restN_append] at h1
        simp only [restN, List.map_cons, List.map_nil, List.sum_cons, List.sum_nil] at h1
        have h2 := cnt_mem ht
        have h3 := cnt_eq' t
        have h4 := len_le_cnt t.l
        omega
      have HSQ := Lib.hid hsq
      have hcs : ∀ (ns : List AT) (Cs : List Pend) wi h' cap', MidAt wo wi w.heap.size (w.heap.size + 1 + 1) Qs0 Q h ns Cs h' cap' → (Qs0 ++ Cs).length ≤ 1048577 ∧ restN (Qs0 ++ Cs) + ns.length ≤ restN (Qs0 ++ [Q]) := fun ns Cs wi h' cap' hm => by
        have h1 := len_le_rest (Qs0 ++ Cs) (fun R hR => (hm.pend R hR).ne)
        have h2 := hm.mt.rest
        have h3 : PT.cntL (AT.ptL (Q.l.take ns.length)) ≤ PT.cntL (AT.ptL Q.l) := by
          have := cntL_take_le (AT.ptL Q.l) ns.length
          rw [AT.ptL_eq, List.map_take, ← AT.ptL_eq]; exact this
        have h4 := HRS.out
        have h5 : (Q.l.take ns.length).length = ns.length := by rw [List.length_take]; have := hm.len; omega
        rw [restN_append] at h1 h4 ⊢
        rw [restN_append]
        simp only [restN, List.map_cons, List.map_nil, List.sum_cons, List.sum_nil] at *
        omega
      have HCS := Lib.hid hcs
      have HLQ := Lib.hid hlQ
      clear hrow htd hq0 hlQ hmid0 hfr0 hsq hcs
      go_wp2_with fail
      go_loopw [4, 27] (fun v i wi => ∃ (ns : List AT) (Cs : List Pend) (h' cap' : Nat), v = .slice (some ⟨h', 0, none⟩) (Qs0 ++ Cs).length cap' ∧ i = .int .i64 ns.length ∧ MidAt wo wi w.heap.size (w.heap.size + 1 + 1) Qs0 Q h ns Cs h' cap') (fun _ i _ => Q.l.length - (intOf i).toNat)
      case atStart => exact ⟨[], [], h, cap, by simp, rfl, HMID.out⟩
      case round =>
        obtain ⟨ns, Cs, h', cap', rfl, rfl, hmid⟩ := hrel
        have HMI := Lib.hid hmid
        have hnl := hmid.len
        obtain ⟨hCs1, hCs2⟩ := HCS.out _ _ _ _ _ hmid
        have HC2 := Lib.hid hCs2
        clear hCs2
        by_cases hlt : ns.length < Q.l.length
        · obtain ⟨T, hT⟩ : ∃ T, T = Q.l[ns.length] := ⟨_, rfl⟩
          have hmem : T ∈ Q.l := by rw [hT]; exact List.getElem_mem hlt
          have hf := hmid.facts
          have hFT : Frn wr w.heap.size T := (HFR.out T hmem).kept fun k hk => hmid.only.block k (by have := (HTD.out.pend Q (by simp)).lt; omega) (by omega) (by have := (HTD.out.row.lt h rfl).1; omega)
          have hc4 : wr.cell? ⟨Q.g, ns.length * 5 + 4, none⟩ = some (.slice T.a T.l.length T.cap) := by
            rw [hmid.rowQ.cellAt (ns.length * 5 + 4) (by omega), List.getElem?_append_right (by rw [cellsL_length]; omega), cellsL_length, drop_cells Q.l ns.length hlt, ← hT]
            rw [show ns.length * 5 + 4 - ns.length * 5 = 4 by omega]
            rfl
          have hfg := hmid.rowQ.frozenAt
          have hTl := HSQ.out T hmem
          have HT := Lib.hid hT
          have HFT := Lib.hid hFT
          have HF := Lib.hid hf
          have hlt2 : (ns.length : Int) < Q.l.length := by omega
          clear hmid hT hf hFT
          by_cases hl0 : T.l = []
          · have hg0 : T.l.length = 0 := by rw [hl0]; rfl
            have hrowT := HFT.out.1.l'.row
            rw [hg0] at hc4 hrowT
            have fin : ∀ wA : World, wr.grownBy wA none → MidAt wo (wA.setCell ⟨Q.g, ns.length * 5 + 4, none⟩ (.slice none 0 0)) w.heap.size (w.heap.size + 1 + 1) Qs0 Q h (ns ++ [.mk T.k T.n T.x T.s none 0 []]) Cs h' cap' := fun wA hg => HMI.out.none' (by omega) hlt T HT.out hl0 hg
            have FIN := Lib.hid fin
            have HL0 := Lib.hid hl0
            have hkA : ∀ wA : World, wr.grownBy wA none → wA.cell? ⟨Q.g, ns.length * 5 + 4, none⟩ = wr.cell? ⟨Q.g, ns.length * 5 + 4, none⟩ ∧ wA.frozen? ⟨Q.g, ns.length * 5 + 4, none⟩ = wr.frozen? ⟨Q.g, ns.length * 5 + 4, none⟩ := fun wA hg => by
              have := hg.block Q.g HF.out.2.1 (by simp)
              exact ⟨World.cell?_of_block this, frozen_blk this⟩
            have HKA := Lib.hid hkA
            clear hl0 hg0 fin hkA
            rcases hTa : T.a with _ | ad
            · rw [hTa] at hc4 hrowT
              have hcap0 : T.cap = 0 := by
                rcases hrowT.2 with ⟨h1, _⟩ | ⟨g, c, cur, h1, _⟩
                · injection h1
                · injection h1 with h1; cases h1
              rw [hcap0] at hc4
              have HT2 := Lib.hid (And.intro hTa hcap0)
              clear hTa hcap0 hrowT
              go_wp2_with (refine wpList_append_own_none rfl _ _ _ rfl (w.heap.size + 1 + 1) 28 i0 5 Try.underlying26 hi _ 0 [] rfl (World.ownsRow_nil _ _ _ _) rfl ?_)
              refine ⟨⟨_, Cs, h', cap', by rw [List.length_append], by rw [List.length_append]; go_num, FIN.out wr (World.grownBy.refl _ _)⟩, by simp [intOf]; omega⟩
            · rw [hTa] at hc4 hrowT
              obtain ⟨b, rfl⟩ : ∃ b, ad = ⟨b, 0, none⟩ := by
                rcases hrowT.2 with ⟨h1, _⟩ | ⟨g, c, cur, h1, _⟩
                · injection h1 with h1; cases h1
                · injection h1 with h1; injection h1 with h1; exact ⟨g, h1⟩
              have HTa := Lib.hid hTa
              clear hTa hrowT
              go_wp2_with (refine wpList_append_own_at _ rfl _ _ _ rfl (w.heap.size + 1 + 1) 28 i0 _ 5 64 Try.underlying26 hi hz0 hz1 hz2 rfl (by omega) _ 0 [] rfl (World.ownsRow_nil _ _ _ _) ⟨b, 0, none⟩ 0 T.cap [] rfl rfl (by simp) (by simp) (by unfold maxLen; omega) (by omega) (by have := HF.out; omega) ?_)
              intro v' wA hownA hgrow hnil hat
              obtain rfl : v' = .slice none 0 0 := by first | exact hnil | exact hnil.2 ⟨rfl, rfl⟩
              obtain ⟨k1, k2⟩ := HKA.out wA hgrow
              have k3 : wA.frozen? ⟨Q.g, ns.length * 5 + 4, none⟩ = false := k2.trans (hfg _)
              rw [hc4] at k1
              have HG := Lib.hid hgrow
              clear hownA hgrow hnil hat k2
              go_wp2
              refine ⟨⟨_, Cs, h', cap', by rw [List.length_append], by rw [List.length_append]; go_num, FIN.out wA HG.out⟩, by simp [intOf]; omega⟩
          · have hrowT := HFT.out.1.l'.row
            obtain ⟨b, hTa, hx1, hx2, hx3⟩ := own_cellL hrowT 0 (List.length_pos_iff.2 hl0)
            clear hx1 hx2 hx3
            have hpos : 0 < T.l.length := List.length_pos_iff.2 hl0
            rw [hTa] at hc4 hrowT
            have HL0 := Lib.hid hl0
            have HTa := Lib.hid hTa
            have hnews := World.ownsRow.cells hrowT (g := b) rfl
            have HRT := Lib.hid hrowT
            clear hl0 hTa hrowT
            go_wp2_with (refine wpList_append_lies _ (by rfl) _ _ _ (by rfl) (w.heap.size + 1 + 1) 28 i0 _ 5 64 Try.underlying26 hi hz0 hz1 hz2 rfl (by omega) _ 0 [] (by rfl) (World.ownsRow_nil _ _ _ _) ⟨b, 0, none⟩ T.l.length T.cap (cellsL T.l) (by rfl) (cellsL_length T.l) hnews (cellsL_one' T.l) hpos (by unfold maxLen; omega) (by omega) (by have := HF.out; omega) wr.heap.size rfl ?_)
            intro c capc wA hownA hgrow hat hcA
            have hc : c = wr.heap.size := by simpa [Value.ownBlock] using hat
            have hownA : wA.ownsRow (w.heap.size + 1 + 1) 28 5 (.slice (some ⟨c, 0, none⟩) T.l.length capc) T.l.length (cellsL T.l) := by simpa using hownA
            have hblk : ∀ k, k < wr.heap.size → wA.heap[k]? = wr.heap[k]? := fun k hk => hgrow.block k hk (by simp [Value.ownBlock])
            have k1 : wA.cell? ⟨Q.g, ns.length * 5 + 4, none⟩ = some (.slice (some ⟨b, 0, none⟩) T.l.length T.cap) := by rw [World.cell?_of_block (hblk Q.g HF.out.2.1)]; exact hc4
            have k3 : wA.frozen? ⟨Q.g, ns.length * 5 + 4, none⟩ = false := by rw [frozen_blk (hblk Q.g HF.out.2.1)]; exact hfg _
            have hgs := hgrow.size
            have hrowH : ∀ u : Value, ((wA.setCell ⟨Q.g, ns.length * 5 + 4, none⟩ (.slice (some ⟨c, 0, none⟩) T.l.length capc)).alloc (.cells #[u] 26)).ownsRow (w.heap.size + 1 + 1) 26 1 (.slice (some ⟨h', 0, none⟩) (Qs0.length + Cs.length) cap') (Qs0.length + Cs.length) ((Qs0 ++ Cs).map Pend.val) := fun u => by
              have := own_heap HMI.out.row (w' := ((wA.setCell ⟨Q.g, ns.length * 5 + 4, none⟩ (.slice (some ⟨c, 0, none⟩) T.l.length capc)).alloc (.cells #[u] 26))) (fun k hk => by
                simp [Value.ownBlock] at hk
                subst hk
                have hf := HF.out
                exact (Below.heap_alloc _ _ _ (by simp [World.setCell]; omega)).trans ((Below.heap_setCell _ _ _ _ (by show h' ≠ Q.g; omega)).trans (hblk h' hf.2.2.2.1)))
              rwa [List.length_append] at this
            have HOA := Lib.hid hownA
            have HGR := Lib.hid hgrow
            have HC := Lib.hid hc
            have HRH := Lib.hid hrowH
            have HF2 := Lib.hid (And.intro hgs (And.intro HF.out.2.2.2.1 HF.out.1))
            have hlpos : (0 : Int) < T.l.length := by omega
            have hCs3 : Qs0.length + Cs.length ≤ 1048577 := by rw [List.length_append] at hCs1; exact hCs1
            have HCA := Lib.hid hcA
            clear hownA hgrow hat hblk hgs hrowH hc hc4 hnews hcA
            go_wp2_with (refine wpList_append_lies _ (by rfl) _ _ _ (by rfl) (w.heap.size + 1 + 1) 26 j0 _ 1 24 Try.underlying117 hj hy0 hy1 hy2 rfl (by omega) _ (Qs0.length + Cs.length) _ (by rfl) (HRH.out _) ⟨wA.heap.size, 0, none⟩ 1 1 [.slice (some ⟨c, 0, none⟩) T.l.length capc] (by rfl) (by rfl) ?news (by simp [Value.oneCell']) (by omega) (by unfold maxLen; omega) (by omega) (by have h1 := HF.out; have h2 := HF2.out; simp; omega) (wA.heap.size + 1) (by simp) ?_)
            case news =>
              have := World.news_of_block (cs := #[.slice (some ⟨c, 0, none⟩) T.l.length capc]) (t := 26) (fr := (0, 0)) (heap_alloc_new (wA.setCell ⟨Q.g, ns.length * 5 + 4, none⟩ (.slice (some ⟨c, 0, none⟩) T.l.length capc)) (.cells #[.slice (some ⟨c, 0, none⟩) T.l.length capc] 26))
              simpa using this
            intro h2 cap2 wD hownD hgD hatD hltD
            have hmidD := HMI.out.some' (wD := wD) (h2 := h2) (cap2 := cap2) (ob := .cells #[.slice (some ⟨c, 0, none⟩) T.l.length capc] 26) (by omega) hlt T HT.out HL0.out HFT.out HGR.out HC.out HCA.out HOA.out (by rw [List.length_append, List.map_append]; simpa using hownD) (by simpa [Value.ownBlock] using hgD) (by simpa [Value.ownBlock] using hatD)
            have HMD := Lib.hid hmidD
            clear hownD hgD hatD hltD hmidD
            go_wp2
            refine ⟨⟨_, Cs ++ [⟨c, capc, T.l⟩], h2, cap2, ?_, by rw [List.length_append]; go_num, HMD.out⟩, by simp [intOf]; omega⟩
            simp only [List.length_append, List.length_cons, List.length_nil]
            rw [Nat.add_assoc]
        · have hend : ns.length = Q.l.length := by omega
          have hnext := HTD.out.next hmid hend
          have hne := (HTD.out.pend Q (by simp)).ne
          have hpos : 0 < Q.l.length := List.length_pos_iff.2 hne
          have hms : M (.slice (some ⟨h', 0, none⟩) (Qs0 ++ Cs).length cap') wr < M (.slice (some ⟨h, 0, none⟩) (Qs0.length + 1) cap) wo := by
            rw [HM.out _ _ _ _ _ _ hnext.row hnext.pend, ← HLQ.out, HM.out _ _ _ _ _ _ HTD.out.row HTD.out.pend]
            have := HC2.out
            omega
          have HN := Lib.hid hnext
          have HMS := Lib.hid hms
          have HRN : Hid (restN (Qs0 ++ Cs) ≤ 1048577) := Lib.hid (by have := HC2.out; have := HRS.out; omega)
          clear hmid hnext hms hne hend
          go_wp2
          exact ⟨⟨Qs0 ++ Cs, h', cap', rfl, HN.out, HRN.out⟩, HMS.out⟩
theorem listcontent_any (w : World) (a : Option Addr) (len cap : Nat) : Calls Try.prog 120 #[.slice a len cap] w fun e w' => e = .returned (.agg #[.int .i64 9, .int .i64 0, .int .i64 0, .string ⟨#[]⟩, .slice a len cap]) ∧ Below w.heap.size w w' := by
  go_enter Try.func120, Try.ntmps120
  go_wp2
  exact bodyPost_ret (v := .agg #[.int .i64 9, .int .i64 0, .int .i64 0, .string ⟨#[]⟩, .slice a len cap]) (by simp [results, Try.results120, go_sem]) rfl ⟨rfl, vbox _ _⟩
theorem listval_impl (l : List AT) (hsz : l.length + PT.szL (AT.ptL l) ≤ 1048576) (w : World) (B0 : Nat) (a : Option Addr) (cap : Nat) (h : OwnL w B0 a cap l) : Calls Try.prog 64 #[.slice a l.length cap] w (FreshV w (.mk 9 0 0 [] (AT.ptL l))) := by
  have hc := fun (w1 : World) (hb : Below w.heap.size w w1) => copied_any (.mk 9 0 0 [] a cap l) w1 B0 (h.blw hb).own (by simp only [AT.pt, PT.sz, AT.ptL_length, List.length_nil]; omega)
  have HC := Lib.hid hc
  clear hc h
  go_enter Try.func64, Try.ntmps64
  go_wp2_with fail
  refine (listcontent_any _ _ _ _).mono ?_
  rintro e w1 ⟨rfl, hb1⟩
  have hbw := (vbox w (.cells #[.int .i64 0, .int .i64 0, .int .i64 0, .string ⟨#[]⟩, .slice none 0 0] 28)).trans (hb1.mono (by simp))
  obtain ⟨q0, q1, q2, q3, q4, qf⟩ := zbox5 w hb1
  have hsz1 := hb1.size
  simp only [World.size_alloc] at hsz1
  have HB1 := Lib.hid hbw
  clear hb1 hbw
  go_wp2_with fail
  refine (HC.out w1 HB1.out).mono ?_
  rintro e w2 ⟨T, hp, rfl, ho, hn, hb2⟩
  replace q0 := keep_below hb2 q0
  replace q1 := keep_below hb2 q1
  replace q2 := keep_below hb2 q2
  replace q3 := keep_below hb2 q3
  replace q4 := keep_below hb2 q4
  have qf2 : ∀ o, w2.frozen? ⟨w.heap.size, o, none⟩ = false := fun o => by rw [frozen_blk (hb2.block _ (by omega))]; exact qf o
  have HB2 := Lib.hid (HB1.out.trans (hb2.mono HB1.out.size))
  have HP := Lib.hid hp
  have HO := Lib.hid ho
  have HN := Lib.hid hn
  clear hb2 hp ho hn qf
  go_wp2
  refine bodyPost_ret (v := T.val) (by simp [results, Try.results64, go_sem, q0, q1, q2, q3, q4]) rfl ⟨T, ?_, rfl, ?_, HN.out, ?_⟩
  · rw [HP.out]; simp [AT.pt]
  · refine AT.Own.base (B := w1.heap.size) ?_ (by omega)
    exact AT.Own.set (AT.Own.set (AT.Own.set (AT.Own.set (AT.Own.set HO.out (by omega)) (by omega)) (by omega)) (by omega)) (by omega)
  · exact bset (bset (bset (bset (bset HB2.out (Nat.le_refl _)) (Nat.le_refl _)) (Nat.le_refl _)) (Nat.le_refl _)) (Nat.le_refl _)
end Go.Proofs.Ytdjnkcoepmackaa
/- NamesOf of the program. -/
namespace Go.Proofs.Ytdjnkcoepmackaa
open Go.RowKit
set_option maxRecDepth 100000
theorem evens_sub {l : List PT} : (evens l).length + PT.szL (evens l) ≤ l.length + PT.szL l := by
  induction l using evens.induct with
  | case1 => simp [evens]
  | case2 => simp [evens]
  | case3 x y l ih => simp only [evens, List.length_cons, PT.szL] at *; omega
theorem names_sz (p : PT) : p.names.length + PT.szL p.names ≤ p.sz := by
  obtain ⟨k, n, x, s, l⟩ := p
  simp only [PT.names, PT.sz]
  split
  · have := evens_sub (l := l); omega
  · simp [PT.szL]
theorem namesof_impl (T : AT) (w : World) (B0 : Nat) (hown : T.Own w B0) (hsz : T.pt.sz ≤ 1048576) : Calls Try.prog 33 #[T.val] w (FreshL w T.pt.names) := by
  have hll : T.l.length ≤ 1048576 := by have := len_le_sz T; omega
  have HNC := Lib.hid (fun (w1 : World) (hb : Below w.heap.size w w1) => names_impl T w1 w.heap.size (hown.in.blw hb (Nat.le_refl _)) hll hb.size)
  have hle : ∀ (w1 : World), Below w.heap.size w w1 → ∀ t ∈ T.names, t.Own w1 0 := fun w1 hb t ht => ((hown.l'.sub t (names_mem ht)).blw hb).base (Nat.zero_le _)
  have HLE := Lib.hid hle
  have hns := names_sz T.pt
  rw [← names_pt T] at hns ⊢
  rw [AT.ptL_length] at hns
  have HLV := Lib.hid (fun (w1 : World) (a : Option Addr) (cap : Nat) (h : OwnL w1 0 a cap T.names) => listval_impl T.names (by omega) w1 0 a cap h)
  clear hown hsz hll hle hns
  show Calls Try.prog 33 #[.agg #[.int .i64 T.k, .int .i64 T.n, .int .i64 T.x, .string ⟨T.s.toArray⟩, .slice T.a T.l.length T.cap]] w _
  generalize T.names = ns at *
  go_enter Try.func33, Try.ntmps33
  go_wp2_with fail
  have hb0 := vbox w (.cells #[.int .i64 T.k, .int .i64 T.n, .int .i64 T.x, .string ⟨T.s.toArray⟩, .slice T.a T.l.length T.cap] 28)
  refine (HNC.out _ hb0).mono ?_
  rintro e w1 ⟨a1, cap1, rfl, hrow, hb1⟩
  have HB1 := Lib.hid (hb0.trans (hb1.mono hb0.size))
  have HO : Hid (OwnL w1 0 a1 cap1 ns) := Lib.hid ⟨own_base' hrow.row (Nat.zero_le _), HLE.out w1 HB1.out⟩
  clear hb0 hb1 hrow
  go_wp2_with fail
  refine (HLV.out w1 a1 cap1 HO.out).mono ?_
  rintro e w2 ⟨V, hp, rfl, ho, hn, hb2⟩
  have HP := Lib.hid hp
  have HOV := Lib.hid ho
  have HN := Lib.hid hn
  have HB2 := Lib.hid (HB1.out.trans (hb2.mono HB1.out.size))
  have hfd : ∀ W : World, (Instr.field 28 (.agg #[.int .i64 V.k, .int .i64 V.n, .int .i64 V.x, .string ⟨V.s.toArray⟩, .slice V.a V.l.length V.cap]) 4).run Try.prog W = .ok (.slice V.a V.l.length V.cap) W := fun W => by kernel_rfl
  clear hp ho hn hb2
  go_wp2
  go_ret
  refine ⟨V.a, V.cap, V.l, ?_, rfl, (HOV.out.base HB1.out.size).l', by rw [← AT.blks_eq]; exact HN.out, HB2.out⟩
  have h := HP.out
  cases V
  simp only [AT.pt, PT.mk.injEq] at h
  exact h.2.2.2.2
end Go.Proofs.Ytdjnkcoepmackaa
/- The value of a name: plain, Lookup of the model. -/
namespace Go.Proofs.Ytdjnkcoepmackaa
open Go.RowKit
set_option maxRecDepth 100000
/-- the value of the last pair whose name is m -/
def lookL : List PT → PT → Option PT
  | n :: v :: l, m => (lookL l m).or (if n.same m then some v else none)
  | _, _ => none
def PT.even : PT → Bool
  | .mk k _ _ _ l => k == 10 && l.length % 2 == 0
def PT.look (p m : PT) : PT × Bool := match p with
  | .mk k n x s l => if (PT.mk k n x s l).even = true then (match lookL l m with | some v => (v, true) | none => (zeroPT, false)) else (zeroPT, false)
theorem lookL_none (l : List PT) (m : PT) (h : ∀ j (hj : 2 * j + 1 < l.length), (l[2 * j]).same m = false) : lookL l m = none := by
  induction l using evens.induct with
  | case1 => rfl
  | case2 => rfl
  | case3 x y l ih =>
    simp only [lookL]
    have h0 : x.same m = false := h 0 (by simp)
    rw [ih (fun j hj => by
      have := h (j + 1) (by simp; omega)
      simpa [Nat.mul_add] using this), h0]
    rfl
theorem lookL_some (l : List PT) (m : PT) (j : Nat) (hj : 2 * j + 1 < l.length) (h : (l[2 * j]).same m = true) (h2 : ∀ i (hi : 2 * i + 1 < l.length), j < i → (l[2 * i]).same m = false) : lookL l m = some l[2 * j + 1] := by
  induction l using evens.induct generalizing j with
  | case1 => simp at hj
  | case2 => simp at hj
  | case3 x y l ih =>
    simp only [lookL]
    cases j with
    | zero =>
      have h0 : x.same m = true := h
      rw [lookL_none l m (fun i hi => by
        have := h2 (i + 1) (by simp; omega) (by omega)
        simpa [Nat.mul_add] using this), h0]
      rfl
    | succ j =>
      have hj' : 2 * j + 1 < l.length := by simp at hj; omega
      have := ih j hj' (by simpa [Nat.mul_add] using h) (fun i hi hji => by
        have := h2 (i + 1) (by simp; omega) (by omega)
        simpa [Nat.mul_add] using this)
      rw [this]
      simp [Nat.mul_add]
theorem lookL_mem {l : List PT} {m v : PT} (h : lookL l m = some v) : v ∈ l := by
  induction l using evens.induct with
  | case1 => cases h
  | case2 => cases h
  | case3 x y l ih =>
    simp only [lookL] at h
    cases hl : lookL l m with
    | some u =>
      rw [hl] at h
      obtain rfl : u = v := by simpa using h
      exact List.mem_cons_of_mem _ (List.mem_cons_of_mem _ (ih hl))
    | none =>
      rw [hl] at h
      cases hs : x.same m
      · rw [hs] at h; cases h
      · rw [hs] at h
        obtain rfl : y = v := by simpa using h
        simp
theorem cnt_mem' {l : List PT} {t : PT} (h : t ∈ l) : t.cnt ≤ PT.cntL l := by
  induction l with
  | nil => cases h
  | cons u l ih =>
    simp only [PT.cntL]
    rcases List.mem_cons.1 h with rfl | h
    · omega
    · have := ih h; omega
theorem look_wf (p m : PT) (h : p.Wf) (hc : p.cnt ≤ 1048578) : (p.look m).1.Wf ∧ (p.look m).1.cnt ≤ 1048578 := by
  obtain ⟨k, n, x, s, l⟩ := p
  have hz : zeroPT.Wf ∧ zeroPT.cnt ≤ 1048578 := ⟨.mk (by omega) (by omega) (by omega) (by simp) (by simp) (by simp), by simp [zeroPT, PT.cnt, PT.cntL]⟩
  simp only [PT.look]
  split
  · cases hl : lookL l m with
    | none => exact hz
    | some v =>
      have hm := lookL_mem hl
      have := cnt_mem' hm
      simp only [PT.cnt] at hc
      exact ⟨h.sub' v hm, by show v.cnt ≤ _; omega⟩
  · exact hz
theorem even_iff {k n x : Int} {s : List UInt8} {l : List PT} : (PT.mk k n x s l).even = true ↔ k = 10 ∧ l.length % 2 = 0 := by simp [PT.even]
theorem l7map_spec (T : AT) (w : World) (hl : T.l.length ≤ 9223372036854775807) : Calls Try.prog 71 #[T.val] w fun e w' => e = .returned (.bool T.pt.even) ∧ Below w.heap.size w w' := by
  obtain ⟨k, n, x, s, a, cap, l⟩ := T
  have hev : (AT.mk k n x s a cap l).pt.even = (k == 10 && l.length % 2 == 0) := by simp [AT.pt, PT.even]
  rw [hev]
  simp only [AT.l] at hl
  show Calls Try.prog 71 #[.agg #[.int .i64 k, .int .i64 n, .int .i64 x, .string ⟨s.toArray⟩, .slice a l.length cap]] w _
  by_cases hk : k = 10
  · subst hk
    have hm : ((l.length : Int) % 2 == 0) = (l.length % 2 == 0) := by
      cases h : l.length % 2 == 0
      · rw [beq_eq_false_iff_ne] at *; omega
      · rw [beq_iff_eq] at *; omega
    rw [show ((10 : Int) == 10 && l.length % 2 == 0) = (l.length % 2 == 0) by simp]
    cases hq : l.length % 2 == 0
    · rw [hq] at hm
      go_enter Try.func71, Try.ntmps71
      go_wp2
      go_ret
      exact ⟨rfl, vbox _ _⟩
    · rw [hq] at hm
      go_enter Try.func71, Try.ntmps71
      go_wp2
      go_ret
      exact ⟨rfl, vbox _ _⟩
  · have hkb : (k == 10) = false := by simpa using hk
    rw [hkb]
    go_enter Try.func71, Try.ntmps71
    go_wp2
    go_ret
    exact ⟨rfl, vbox _ _⟩
theorem haspairs_impl (T : AT) (w : World) (hl : T.l.length ≤ 9223372036854775807) : Calls Try.prog 74 #[T.val] w fun e w' => e = .returned (.bool T.pt.even) ∧ Below w.heap.size w w' := by
  obtain ⟨k, n, x, s, a, cap, l⟩ := T
  have hev : (AT.mk k n x s a cap l).pt.even = (k == 10 && l.length % 2 == 0) := by simp [AT.pt, PT.even]
  rw [hev]
  simp only [AT.l] at hl
  show Calls Try.prog 74 #[.agg #[.int .i64 k, .int .i64 n, .int .i64 x, .string ⟨s.toArray⟩, .slice a l.length cap]] w _
  by_cases hk : k = 10
  · subst hk
    have hm : ((l.length : Int) % 2 == 0) = (l.length % 2 == 0) := by
      cases h : l.length % 2 == 0
      · rw [beq_eq_false_iff_ne] at *; omega
      · rw [beq_iff_eq] at *; omega
    rw [show ((10 : Int) == 10 && l.length % 2 == 0) = (l.length % 2 == 0) by simp]
    cases hq : l.length % 2 == 0
    · rw [hq] at hm
      go_enter Try.func74, Try.ntmps74
      go_wp2
      go_ret
      exact ⟨rfl, vbox _ _⟩
    · rw [hq] at hm
      go_enter Try.func74, Try.ntmps74
      go_wp2
      go_ret
      exact ⟨rfl, vbox _ _⟩
  · have hkb : (k == 10) = false := by simpa using hk
    rw [hkb]
    go_enter Try.func74, Try.ntmps74
    go_wp2
    go_ret
    exact ⟨rfl, vbox _ _⟩
theorem three_boxes (w : World) (k n x k2 n2 x2 : Int) (s s2 : ByteArray) (a a2 : Option Addr) (len cap len2 cap2 : Nat) (t : TypeId) :
    let W := ((w.alloc (.cells #[.int .i64 k, .int .i64 n, .int .i64 x, .string s, .slice a len cap] t)).alloc (.cells #[.int .i64 k2, .int .i64 n2, .int .i64 x2, .string s2, .slice a2 len2 cap2] t)).alloc (.cells #[.int .i64 0, .int .i64 0, .int .i64 0, .string ⟨#[]⟩, .slice none 0 0] t)
    VC W w.heap.size k n x s a len cap ∧ VC W (w.heap.size + 1) k2 n2 x2 s2 a2 len2 cap2 ∧ VC W (w.heap.size + 2) 0 0 0 ⟨#[]⟩ none 0 0 ∧ (∀ o, W.frozen? ⟨w.heap.size + 2, o, none⟩ = false) ∧ Below w.heap.size w W ∧ W.heap.size = w.heap.size + 3 := by
  refine ⟨⟨?_, ?_, ?_, ?_, ?_⟩, ⟨?_, ?_, ?_, ?_, ?_⟩, ⟨?_, ?_, ?_, ?_, ?_⟩, fun o => ?_, boxes3 w _ _ _, by simp⟩ <;> simp [go_sem]
set_option maxHeartbeats 4000000 in
theorem look_spec (T U : AT) (w : World) (N : Nat) (hwf : T.pt.Wf) (hwf2 : U.pt.Wf) (hin : T.In w N) (hin2 : U.In w N) (hsz : T.pt.sz ≤ 1048576) (hN : N ≤ w.heap.size) : Calls Try.prog 29 #[T.val, U.val] w (LookPost w (T.pt.look U.pt)) := by
  have hll : T.l.length ≤ 1048576 := by have := len_le_sz T; omega
  have hcp : ∀ t ∈ T.l, t.pt.sz ≤ 1048576 := fun t ht => by
    have h1 := szL_ge ht
    have h2 : PT.szL (AT.ptL T.l) ≤ T.pt.sz := by obtain ⟨k, n, x, s, a, cap, l⟩ := T; simp [AT.pt, PT.sz, AT.l]; omega
    omega
  have hsw : ∀ t ∈ T.l, t.pt.Wf := fun t ht => by
    obtain ⟨k, n, x, s, a, cap, l⟩ := T
    exact hwf.sub' t.pt (by rw [AT.ptL_eq]; exact List.mem_map_of_mem ht)
  have HMAP := Lib.hid (fun (w1 : World) => l7map_spec T w1 (by omega))
  have HCP := Lib.hid (fun (t : AT) (ht : t ∈ T.l) (w1 : World) (hb : Below w.heap.size w w1) => l6Copy_any t (hcp t ht) w1 N ((hin.lv'.sub t ht).blw hb hN) (Nat.le_trans hN hb.size))
  have HSM := Lib.hid (fun (t : AT) (ht : t ∈ T.l) (w1 : World) (hb : Below w.heap.size w w1) => same_spec t (hsw t ht) U w1 N hwf2 ((hin.lv'.sub t ht).blw hb hN) (hin2.blw hb hN) (Nat.le_trans hN hb.size))
  have H := Lib.hid hin.lv'
  have hlook : T.pt.look U.pt = if T.pt.even = true then (match lookL (AT.ptL T.l) U.pt with | some v => (v, true) | none => (zeroPT, false)) else (zeroPT, false) := by
    obtain ⟨k, n, x, s, a, cap, l⟩ := T
    rfl
  have hev : T.pt.even = true → T.l.length % 2 = 0 := fun h => by
    obtain ⟨k, n, x, s, a, cap, l⟩ := T
    have := (even_iff (k := k) (n := n) (x := x) (s := s) (l := AT.ptL l)).1 h
    simpa [AT.l] using this.2
  obtain ⟨p, hp⟩ : ∃ p, p = U.pt := ⟨_, rfl⟩
  rw [← hp] at hlook HSM ⊢
  obtain ⟨r, hr⟩ : ∃ r, r = T.pt.look p := ⟨_, rfl⟩
  rw [← hr] at hlook ⊢
  have HLK := Lib.hid hlook
  clear hin hin2 hsz hcp hsw hwf hwf2 hp hr hlook
  show Calls Try.prog 29 #[.agg #[.int .i64 T.k, .int .i64 T.n, .int .i64 T.x, .string ⟨T.s.toArray⟩, .slice T.a T.l.length T.cap], .agg #[.int .i64 U.k, .int .i64 U.n, .int .i64 U.x, .string ⟨U.s.toArray⟩, .slice U.a U.l.length U.cap]] w _
  have h3 := three_boxes w T.k T.n T.x U.k U.n U.x ⟨T.s.toArray⟩ ⟨U.s.toArray⟩ T.a U.a T.l.length T.cap U.l.length U.cap 28
  go_enter Try.func29, Try.ntmps29
  go_wp2_with fail
  try dsimp only at h3
  generalize (((w.alloc (.cells #[.int .i64 T.k, .int .i64 T.n, .int .i64 T.x, .string ⟨T.s.toArray⟩, .slice T.a T.l.length T.cap] 28)).alloc (.cells #[.int .i64 U.k, .int .i64 U.n, .int .i64 U.x, .string ⟨U.s.toArray⟩, .slice U.a U.l.length U.cap] 28)).alloc (.cells #[.int .i64 0, .int .i64 0, .int .i64 0, .string ⟨#[]⟩, .slice none 0 0] 28)) = W0 at *
  obtain ⟨hT, hU, hZ, hzf, hB, hz⟩ := h3
  have HB := Lib.hid hB
  have hwz : w.heap.size ≤ W0.heap.size := by omega
  have hz2 : w.heap.size + 2 < W0.heap.size := by omega
  have HX := Lib.hid (And.intro hT (And.intro hU (And.intro hZ hzf)))
  clear hT hU hZ hzf hB hz
  have HZERO : Hid (∀ W : World, Rl W0 W → LookPost w (zeroPT, false) (.returned (.tuple #[.agg #[.int .i64 0, .int .i64 0, .int .i64 0, .string ⟨#[]⟩, .slice none 0 0], .bool false])) (((((W.setCell ⟨w.heap.size + 2, 0, none⟩ (.int .i64 0)).setCell ⟨w.heap.size + 2, 1, none⟩ (.int .i64 0)).setCell ⟨w.heap.size + 2, 2, none⟩ (.int .i64 0)).setCell ⟨w.heap.size + 2, 3, none⟩ (.string ⟨#[]⟩)).setCell ⟨w.heap.size + 2, 4, none⟩ (.slice none 0 0))) := Lib.hid (fun W hW => by
    have hb := HB.out.trans (hW.b.mono HB.out.size)
    exact ⟨zeroAT, zeroAT_pt, rfl, AT.leaf_own _ _ 0 0 0 [], by simp [zeroAT, AT.blks, AT.blksL], bset (bset (bset (bset (bset hb (by omega)) (by omega)) (by omega)) (by omega)) (by omega)⟩)
  have hh : ∀ W : World, Rl W0 W → VC W w.heap.size T.k T.n T.x ⟨T.s.toArray⟩ T.a T.l.length T.cap ∧ VC W (w.heap.size + 1) U.k U.n U.x ⟨U.s.toArray⟩ U.a U.l.length U.cap ∧ VC W (w.heap.size + 2) 0 0 0 ⟨#[]⟩ none 0 0 ∧ (∀ o, W.frozen? ⟨w.heap.size + 2, o, none⟩ = false) := fun W hW =>
    ⟨HX.out.1.blw hW.b, HX.out.2.1.blw hW.b, HX.out.2.2.1.blw hW.b, fun o => by rw [frozen_blk' (hW.b.block _ hz2)]; exact HX.out.2.2.2 o⟩
  have HH := Lib.hid hh
  clear hh HX
  cases he : T.pt.even
  · have HR : Hid (r = (zeroPT, false)) := Lib.hid (by rw [HLK.out, he]; rfl)
    rw [he] at HMAP
    clear hev he HCP HSM
    obtain ⟨⟨c0, c1, c2, c3, c4⟩, -, -, -⟩ := HH.out W0 (Rl.refl _)
    go_wp2_with fail
    go_loopw [6] (fun i wr => i = .int .i64 ((T.l.length : Int) - 2) ∧ wr = W0) (fun _ _ => 0)
    case atStart => exact ⟨rfl, rfl⟩
    case round =>
      obtain ⟨rfl, rfl⟩ := hrel
      by_cases hge : (0 : Int) ≤ (T.l.length : Int) - 2
      · have hd : decide ((0 : Int) ≤ (T.l.length : Int) - 2) = true := by simpa using hge
        go_wp2_with fail
        refine (HMAP.out _).mono ?_
        rintro e w1 ⟨rfl, hb1⟩
        have HR1 := Lib.hid ((Rl.refl wr).below hb1)
        obtain ⟨-, -, ⟨z0, z1, z2, z3, z4⟩, zf⟩ := HH.out w1 HR1.out
        clear hb1
        go_wp2
        refine bodyPost_ret (v := .tuple #[.agg #[.int .i64 0, .int .i64 0, .int .i64 0, .string ⟨#[]⟩, .slice none 0 0], .bool false]) (by simp [results, Try.results29, go_sem, z0, z1, z2, z3, z4]) rfl ?_
        rw [HR.out]; exact HZERO.out w1 HR1.out
      · have hd : decide ((0 : Int) ≤ (T.l.length : Int) - 2) = false := by simpa using hge
        obtain ⟨-, -, ⟨z0, z1, z2, z3, z4⟩, zf⟩ := HH.out wr (Rl.refl _)
        go_wp2
        refine bodyPost_ret (v := .tuple #[.agg #[.int .i64 0, .int .i64 0, .int .i64 0, .string ⟨#[]⟩, .slice none 0 0], .bool false]) (by simp [results, Try.results29, go_sem, z0, z1, z2, z3, z4]) rfl ?_
        rw [HR.out]; exact HZERO.out wr (Rl.refl _)
  · have hm2 := hev he
    rw [he] at HMAP
    have hlook2 : r = match lookL (AT.ptL T.l) p with | some v => (v, true) | none => (zeroPT, false) := by rw [HLK.out, he]; rfl
    have HL := Lib.hid hlook2
    clear hev he hlook2
    obtain ⟨⟨c0, c1, c2, c3, c4⟩, -, -, -⟩ := HH.out W0 (Rl.refl _)
    go_wp2_with fail
    go_loopw [6] (fun i wr => ∃ j : Nat, i = .int .i64 (2 * (j : Int) - 2) ∧ 2 * j ≤ T.l.length ∧ Hid (∀ q (hq : 2 * q + 1 < (AT.ptL T.l).length), j ≤ q → ((AT.ptL T.l)[2 * q]).same p = false) ∧ Hid (Rl W0 wr)) (fun i _ => (intOf i + 2).toNat)
    case atStart => exact ⟨T.l.length / 2, by congr 1; omega, by omega, Lib.hid (fun q hq hj => by rw [AT.ptL_length] at hq; omega), Lib.hid (Rl.refl _)⟩
    case round =>
      obtain ⟨j, rfl, hj, HN, HRl⟩ := hrel
      cases j with
      | zero =>
        have HR : Hid (r = (zeroPT, false)) := Lib.hid (by rw [HL.out, lookL_none _ _ (fun q hq => HN.out q hq (Nat.zero_le _))])
        obtain ⟨-, -, ⟨z0, z1, z2, z3, z4⟩, zf⟩ := HH.out wr HRl.out
        go_wp2
        refine bodyPost_ret (v := .tuple #[.agg #[.int .i64 0, .int .i64 0, .int .i64 0, .string ⟨#[]⟩, .slice none 0 0], .bool false]) (by simp [results, Try.results29, go_sem, z0, z1, z2, z3, z4]) rfl ?_
        rw [HR.out]; exact HZERO.out wr HRl.out
      | succ j =>
        obtain ⟨i, hi⟩ : ∃ i : Nat, i = 2 * j := ⟨_, rfl⟩
        have hiv : 2 * ((j + 1 : Nat) : Int) - 2 = (i : Int) := by omega
        rw [hiv]
        have hlt : i < T.l.length := by omega
        have hlt2 : i + 1 < T.l.length := by omega
        have hge : decide ((0 : Int) ≤ (i : Int)) = true := by simp
        have HI := Lib.hid hi
        obtain ⟨⟨c0, c1, c2, c3, c4⟩, ⟨d0, d1, d2, d3, d4⟩, -, -⟩ := HH.out wr HRl.out
        clear hi hiv hm2
        go_wp2_with fail
        refine (HMAP.out _).mono ?_
        rintro e w1 ⟨rfl, hb1⟩
        have HR1 := Lib.hid (HRl.out.below hb1)
        have HBw := Lib.hid (HB.out.trans (HR1.out.b.mono hwz))
        clear hb1 c0 c1 c2 c3 c4 d0 d1 d2 d3 d4
        obtain ⟨⟨c0, c1, c2, c3, c4⟩, ⟨d0, d1, d2, d3, d4⟩, -, -⟩ := HH.out w1 HR1.out
        obtain ⟨b, o, ha, hbN, hC⟩ := H.out.cell i hlt
        obtain ⟨b', o', ha', hbN', hC'⟩ := H.out.cell (i + 1) hlt2
        rw [ha] at ha'
        injection ha' with ha'
        injection ha' with e1 e2
        subst e1 e2
        have HC := Lib.hid hC
        have HC' := Lib.hid hC'
        have hcall := fun w2 hb => HSM.out T.l[i] (List.getElem_mem hlt) w2 hb
        have hcopy := fun w2 hb => HCP.out T.l[i + 1] (List.getElem_mem hlt2) w2 hb
        have e1 : i < (AT.ptL T.l).length := by rw [AT.ptL_length]; exact hlt
        have e2 : i + 1 < (AT.ptL T.l).length := by rw [AT.ptL_length]; exact hlt2
        have hnext : (T.l[i]).pt.same p = false → ∀ q (hq : 2 * q + 1 < (AT.ptL T.l).length), j ≤ q → ((AT.ptL T.l)[2 * q]).same p = false := fun h q hq hjq => by
          by_cases hq2 : q = j
          · subst hq2
            have hi := HI.out
            subst hi
            rw [ptL_get T.l (2 * q) hlt]; exact h
          · exact HN.out q hq (by omega)
        have hfound : (T.l[i]).pt.same p = true → r = ((T.l[i + 1]).pt, true) := fun h => by
          have hi := HI.out
          subst hi
          rw [HL.out, lookL_some (AT.ptL T.l) p j e2 (by rw [ptL_get T.l (2 * j) hlt]; exact h) (fun q hq hjq => HN.out q hq (by omega)), ptL_get T.l (2 * j + 1) hlt2]
        obtain ⟨V, hV⟩ : ∃ V, V = T.l[i] := ⟨_, rfl⟩
        obtain ⟨V2, hV2⟩ : ∃ V2, V2 = T.l[i + 1] := ⟨_, rfl⟩
        rw [← hV] at HC hcall hnext hfound
        rw [← hV2] at HC' hcopy hfound
        have HCALL := Lib.hid hcall
        have HCOPY := Lib.hid hcopy
        have HNEXT := Lib.hid hnext
        have HFOUND := Lib.hid hfound
        obtain ⟨f0, f1, f2, f3, f4⟩ := HC.out.keep (HBw.out.block b (by omega))
        have hi1 : (i : Int) < T.l.length := by omega
        have hi2 : (i : Int) + 1 < T.l.length := by omega
        have hi0 : (0 : Int) ≤ (i : Int) + 1 := by omega
        have hix : IntKind.i64.wrap ((i : Int) + 1) = (i : Int) + 1 := IntWalk.i64_in _ (by omega)
        rw [ha] at c4
        have HA := Lib.hid ha
        clear hV hV2 hcall hcopy hnext hfound hC hC' e1 e2 ha
        go_wp2_with fail
        refine wp_region_still_tail 6 (by kernel_rfl) (by kernel_rfl) ?_
        simp only [List.take_succ_cons, List.take_zero, List.drop_succ_cons, List.drop_zero]
        repeat still_step
        refine wpStill_nil ?_
        change wpList _ _ _ _ _ (World.drew _)
        have HR2 := Lib.hid HR1.out.drew
        have HB2 := Lib.hid (HBw.out.drew)
        clear c0 c1 c2 c3 c4 d0 d1 d2 d3 d4 f0 f1 f2 f3 f4
        generalize World.drew _ = w2 at *
        go_wp2_with fail
        refine (HCALL.out _ HB2.out).mono ?_
        rintro e w3 ⟨rfl, hb3⟩
        have HR3 := Lib.hid (HR2.out.below hb3)
        have HB3 := Lib.hid (HB.out.trans (HR3.out.b.mono hwz))
        clear hb3
        cases hs : V.pt.same p
        · have HNX := Lib.hid (HNEXT.out hs)
          have hw2 : IntKind.i64.wrap ((i : Int) - 2) = (i : Int) - 2 := IntWalk.i64_in _ (by omega)
          clear hs
          go_wp2
          go_roundw
          case rel => exact ⟨j, by congr 1; have := HI.out; omega, by omega, HNX, HR3⟩
          case measure => simp [intOf]; have := HI.out; omega
        · have HF := Lib.hid (HFOUND.out hs)
          obtain ⟨f0, f1, f2, f3, f4⟩ := HC'.out.keep (HB3.out.block b (by omega))
          obtain ⟨⟨c0, c1, c2, c3, c4⟩, -, -, -⟩ := HH.out w3 HR3.out
          rw [HA.out] at c4
          clear hs
          go_wp2_with fail
          refine (HCOPY.out _ HB3.out).mono ?_
          rintro e w4 ⟨X, hX, rfl, hO, hNd, hb4⟩
          have HR4 := Lib.hid (HR3.out.below hb4)
          have HO := Lib.hid (hO.base HR3.out.z)
          have HND := Lib.hid hNd
          have HXP := Lib.hid hX
          have HB4 := Lib.hid (HB.out.trans (HR4.out.b.mono hwz))
          obtain ⟨-, -, ⟨z0, z1, z2, z3, z4⟩, zf⟩ := HH.out w4 HR4.out
          clear hX hO hNd hb4 c0 c1 c2 c3 c4 f0 f1 f2 f3 f4
          go_wp2
          refine bodyPost_ret (v := .tuple #[.agg #[.int .i64 X.k, .int .i64 X.n, .int .i64 X.x, .string ⟨X.s.toArray⟩, .slice X.a X.l.length X.cap], .bool true]) (by simp [results, Try.results29, go_sem, z0, z1, z2, z3, z4]) rfl ?_
          rw [HF.out]
          refine ⟨X, HXP.out, rfl, ?_, HND.out, ?_⟩
          · exact AT.Own.base (AT.Own.set (AT.Own.set (AT.Own.set (AT.Own.set (AT.Own.set HO.out hz2) hz2) hz2) hz2) hz2) hwz
          · exact bset (bset (bset (bset (bset HB4.out (by omega)) (by omega)) (by omega)) (by omega)) (by omega)
end Go.Proofs.Ytdjnkcoepmackaa
