import Derived.Test.YtilgncebhgplaaaDoorG21
/- ValOk of the program: the walk. -/
namespace Go.Proofs.YtilgncebhgplaaaDoor
open Go.RowKit
theorem setW {wr : World} {B P g cap X o : Nat} {S : List Lev} {d : Int} {u : Value} (h : WalkAt wr B B P g cap S d) (hX : X ≠ P ∧ X ≠ g ∧ B ≤ X) : WalkAt (wr.setCell ⟨X, o, none⟩ u) B B P g cap S d := by
  refine h.kept (fun k hk => Below.heap_setCell _ _ _ _ ?_)
  show k ≠ X
  rcases hk with rfl | rfl | hk <;> omega
theorem keep6 {w0 w w' : World} {p0 p1 p2 p3 p4 : Addr} {v0 v1 v2 v3 v4 : Value} (hb : Below w.heap.size w w')
    (h : w.cell? p0 = some v0 ∧ w.cell? p1 = some v1 ∧ w.cell? p2 = some v2 ∧ w.cell? p3 = some v3 ∧ w.cell? p4 = some v4 ∧ Below w0.heap.size w0 w) :
    w'.cell? p0 = some v0 ∧ w'.cell? p1 = some v1 ∧ w'.cell? p2 = some v2 ∧ w'.cell? p3 = some v3 ∧ w'.cell? p4 = some v4 ∧ Below w0.heap.size w0 w' := by
  obtain ⟨h0, h1, h2, h3, h4, hB⟩ := h
  exact ⟨keep_below hb h0, keep_below hb h1, keep_below hb h2, keep_below hb h3, keep_below hb h4, hB.trans (hb.mono hB.size)⟩
def HeadV (w wr : World) (B P : Nat) (tot : Bool) (X : Nat) : Prop :=
  ∃ (g cap : Nat) (S : List Lev) (d : Int) (t : AT), WalkAt wr B B P g cap S d ∧ CellsAt wr X 0 t ∧ (X ≠ P ∧ X ≠ g ∧ B ≤ X) ∧ (w.heap.size ≤ B ∧ Below w.heap.size w wr) ∧ ((t.node && okS S) = tot ∧ GoodT t ∧ GoodS S ∧ lr S ≤ 4194304)
/-- the contracts of a round, by the kind of the value at hand -/
def ConRound (t : AT) (c : Value) : Prop := (∀ w, Calls Tryd.prog 59 #[t.val] w fun e w' => e = .returned c ∧ Below w.heap.size w w')
theorem con_round (t : AT) (hg : GoodT t) : (∃ c, (∀ w, Calls Tryd.prog 59 #[t.val] w fun e w' => e = .returned c ∧ Below w.heap.size w w') ∧ (∀ w, Calls Tryd.prog 60 #[c] w fun e w' => e = .returned (.bool false) ∧ Below w.heap.size w w') ∧ t.node = false) ∨ ((1 ≤ t.k ∧ t.k ≤ 11) ∧ okF t.k t.n t.x t.s t.l.length = true ∧ (∀ w, Calls Tryd.prog 60 #[conOf t] w fun e w' => e = .returned (.bool true) ∧ Below w.heap.size w w') ∧ t.node = zF t.k t.n t.x t.s t.l.length) := by
  cases ho : okF t.k t.n t.x t.s t.l.length
  · refine .inl ⟨conOf t, cof_any t, fun w => ?_, ?_⟩
    · have := cok_any t hg w
      rw [ho] at this; exact this
    · rw [AT.node, nodeF, ho]; rfl
  · refine .inr ⟨?_, rfl, fun w => ?_, ?_⟩
    · rcases con_kind t with ⟨_, _, h⟩ | h
      · rw [ho] at h; cases h
      · rcases h with h | h | h | h | h | h | h | h | h | h | h <;> omega
    · have := cok_any t hg w
      rw [ho] at this; exact this
    · rw [AT.node, nodeF, ho]; rfl
set_option maxHeartbeats 4000000 in
set_option maxRecDepth 100000 in
theorem valok_impl (T : AT) (w : World) (N : Nat) (hin : T.In w N) (hN : N ≤ w.heap.size) (hg : GoodT T) :
    Calls Tryd.prog 33 #[T.val] w fun e w' => e = .returned (.bool T.pt.ok) ∧ Below w.heap.size w w' := by
  have hcb : T.pt.cnt ≤ 1048577 := by have := cnt_le_sz T.pt; have := hg.2; omega
  have HWO := Lib.hid (walkof_head T w N hin hN)
  have HLR : Hid (∀ b, lr [Lev.mk (some ⟨b, 0, none⟩) 1 [T]] ≤ 4194304) := Lib.hid (fun b => by rw [lr_one]; omega)
  have HG : Hid (∀ b, GoodS [Lev.mk (some ⟨b, 0, none⟩) 1 [T]]) := Lib.hid (fun b L hL u hu => by
    obtain rfl : L = _ := List.mem_singleton.1 hL
    obtain rfl : u = T := List.mem_singleton.1 hu
    exact hg)
  have hs0 : ∀ b, okS [Lev.mk (some ⟨b, 0, none⟩) 1 [T]] = T.pt.ok := fun b => by simp [okS, AT.ptL, PT.okL]
  have HS0 := Lib.hid hs0
  obtain ⟨tot, htot⟩ : ∃ tot, tot = T.pt.ok := ⟨_, rfl⟩
  rw [← htot] at HS0 ⊢
  clear hcb hin hs0 htot hg
  obtain ⟨k, n, x, s, a, cap, l⟩ := T
  show Calls Tryd.prog 33 #[.agg #[.int .i64 k, .int .i64 n, .int .i64 x, .string ⟨s.toArray⟩, .slice a l.length cap]] w _
  go_enter Tryd.func33, Tryd.ntmps33
  go_wp2_with fail
  refine (HWO.out _ (vbox _ _)).mono ?_
  rintro e w1 ⟨P, g, b, B, rfl, hw1, hB, hb1, hbw⟩
  have hBw : w.heap.size ≤ B := by simp at hB; omega
  have HW1 := Lib.hid hw1
  have HBW := Lib.hid hbw
  clear hw1 hb1 hbw hB
  go_wp2_with fail
  refine (next_head HW1.out hBw HBW.out (by simp)).mono ?_
  rintro e w2 (⟨S1, E, L, t, tl, a', c', g', cap', hS, hE, hL, rfl, hw2, hg2, ho2, hb2⟩ | ⟨hS, -⟩)
  case inr => exact absurd (hS _ (List.mem_singleton.2 rfl)) (by simp)
  have hhead : HeadV w (w2.alloc (.cells #[.int .i64 t.k, .int .i64 t.n, .int .i64 t.x, .string ⟨t.s.toArray⟩, .slice t.a t.l.length t.cap] 29)) B P tot w2.heap.size := by
    have hl := hw2.lt
    have hp := hw2.pB
    have hgs := HG.out b
    rw [hS] at hgs
    refine ⟨g', cap', _, _, t, hw2.blw (vbox _ _), ?_, ⟨by omega, by omega, by omega⟩, ⟨hBw, hb2.alloc hb2.size _⟩, ?_, (hgs.step a' c' hL).1, (hgs.step a' c' hL).2, ?_⟩
    · refine ⟨?_, ?_, ?_, ?_, ?_⟩ <;> simp [go_sem]
    · rw [← okS_step S1 E L t tl a' c' hE hL, ← hS]; exact HS0.out _
    · have := lr_step S1 E L t tl a' c' hE hL
      rw [← hS] at this
      exact Nat.le_trans this (HLR.out b)
  have HHEAD := Lib.hid hhead
  clear hS hE hL hw2 hg2 ho2 hb2 hhead HLR HS0 HG HWO HW1
  go_wp2_with fail
  obtain ⟨M, hM1, hM0⟩ := leftM_ex P
  have HM1 := Lib.hid hM1
  have HM0 := Lib.hid hM0
  clear hM1 hM0
  go_loopw [4, 5] (fun x more wr => ∃ bo : Bool, more = .bool bo ∧ ((bo = true ∧ ∃ X : Nat, x = .pointer (some ⟨X, 0, none⟩) ∧ HeadV w wr B P tot X) ∨ (bo = false ∧ tot = true ∧ Below w.heap.size w wr))) (fun _ m wr => M m wr)
  case atStart => exact ⟨true, rfl, .inl ⟨rfl, _, rfl, HHEAD.out⟩⟩
  case round =>
    obtain ⟨bo, rfl, ⟨rfl, X, rfl, hh⟩ | ⟨rfl, hcC, hbf⟩⟩ := hrel
    · obtain ⟨g, cap, S, d, t, hw, hx, hX, ⟨hB, hb⟩, ⟨hok, hgt, hgs, hl⟩⟩ := hh
      obtain ⟨c0, c1, c2, c3, c4⟩ := hx
      have HX := Lib.hid hX
      have HW := Lib.hid hw
      have HWR := Lib.hid hb
      have HGS := Lib.hid hgs
      have HL := Lib.hid hl
      rcases con_round t hgt with ⟨c, hco, hck, hnd⟩ | ⟨hk1, ho, hck, hnd⟩
      · have HCO := Lib.hid hco
        have HCK := Lib.hid hck
        have HT : Hid (tot = false) := Lib.hid (by rw [← hok, hnd]; rfl)
        clear hco hck hnd hok hw hX hb hgs hl hgt
        go_wp2_with fail
        refine (HCO.out _).mono ?_
        rintro e w4 ⟨rfl, hb4⟩
        have HB4 := Lib.hid hb4
        replace c0 := keep_below hb4 c0
        replace c1 := keep_below hb4 c1
        replace c2 := keep_below hb4 c2
        replace c3 := keep_below hb4 c3
        replace c4 := keep_below hb4 c4
        clear hb4
        have hb40 : Below w4.heap.size w4 w4 := Below.refl _ _
        go_wp2_with fail
        first | (go_region_with (go_at_call 60; refine (HCK.out _).mono ?_; rintro e w5 ⟨rfl, hb5⟩)) | (fail "the region")
        all_goals
          have HBF := Lib.hid (HWR.out.trans ((HB4.out.trans ((Below.trans ((Below.refl w4.heap.size w4).drew) hb5).mono HB4.out.size)).mono HWR.out.size))
          clear hb5
          go_wp2
          go_ret
          exact ⟨by rw [HT.out]; rfl, HBF.out⟩
      · have hzz := con_hd t hk1
        have hok' : ((conAT t).hd t && okS S) = tot := by rw [hzz, ← hnd]; exact hok
        have HCO := Lib.hid (cof_any t)
        have HCK := Lib.hid hck
        have HFI := Lib.hid (fields_impl (conAT t) t)
        have HT := Lib.hid hok'
        clear hck hnd hok hw hX hb hgs hl hgt ho hzz hok'
        rcases con_kind t with ⟨h2, _⟩ | ⟨hk, hc, hca⟩ | ⟨hk, hc, hca⟩ | ⟨hk, hc, hca⟩ | ⟨hk, hc, hca⟩ | ⟨hk, hc, hca⟩ | ⟨hk, hc, hca⟩ | ⟨hk, hc, hca⟩ | ⟨hk, hc, hca⟩ | ⟨hk, hc, hca⟩ | ⟨hk, hc, hca⟩ | ⟨hk, hc, hca⟩
        · omega
        all_goals
          rw [hc] at HCO HCK
          rw [hca] at HFI
          generalize hB : (conAT t).hd t = B' at *
          rw [hca] at hB
          clear hk hk1 hc hca
        · have HCV := Lib.hid (fun w => cval_null w t.n t.x ⟨t.s.toArray⟩ t.a t.l.length t.cap)
          have me : ∀ W : World, (method 249 99 (.agg #[]) "loop.example/g00502/impl.val").run Tryd.prog W = .ok (128, .agg #[]) W := fun W => by kernel_rfl
          rw [hB] at HFI
          clear hB
          go_wp2_with fail
          refine (HCO.out _).mono ?_
          rintro e w4 ⟨rfl, hb4⟩
          have HB4 := Lib.hid hb4
          replace c0 := keep_below hb4 c0
          replace c1 := keep_below hb4 c1
          replace c2 := keep_below hb4 c2
          replace c3 := keep_below hb4 c3
          replace c4 := keep_below hb4 c4
          clear hb4
          have hb40 : Below w4.heap.size w4 w4 := Below.refl _ _
          go_wp2_with fail
          go_region_held3 (fun W' => W'.cell? ⟨X, 0, none⟩ = some (.int .i64 t.k) ∧ W'.cell? ⟨X, 1, none⟩ = some (.int .i64 t.n) ∧ W'.cell? ⟨X, 2, none⟩ = some (.int .i64 t.x) ∧ W'.cell? ⟨X, 3, none⟩ = some (.string ⟨t.s.toArray⟩) ∧ W'.cell? ⟨X, 4, none⟩ = some (.slice t.a t.l.length t.cap) ∧ Below w4.heap.size w4 W') (first | (refine ⟨⟨?_, ?_, ?_, ?_, ?_⟩, ?_⟩ <;> assumption) | (refine ⟨?_, ?_, ?_, ?_, ?_, ?_⟩ <;> assumption) | (refine ⟨?_, ?_, ?_, ?_, ?_, Below.drew ?_⟩ <;> assumption) | (refine keep6 (by assumption) ⟨?_, ?_, ?_, ?_, ?_, ?_⟩ <;> assumption)) (first | (go_at_call 60; go_split_ands; ((with_reducible refine (HCK.out _).mono ?_); rintro e w5 ⟨rfl, hb5⟩)) | (go_at_call 128; go_split_ands; ((with_reducible refine (HCV.out _).mono ?_); rintro e w6 ⟨rfl, hb6⟩)) | (go_at_call 61; go_split_ands; ((refine (HFI.out _).mono ?_); rintro e w7 ⟨rfl, hb7⟩)))
          rename_i hH
          have HBF := Lib.hid (HWR.out.trans ((HB4.out.trans (hH.2.2.2.2.2.mono HB4.out.size)).mono HWR.out.size))
          have HB6 := Lib.hid (HB4.out.trans (hH.2.2.2.2.2.mono HB4.out.size))
          obtain ⟨c0, c1, c2, c3, c4, -⟩ := hH
          clear me HFI HCV HCK HCO HB4
          cases B'
          · have HT2 : Hid (tot = false) := Lib.hid (by rw [← HT.out]; rfl)
            clear HT
            go_wp2
            go_ret
            exact ⟨by rw [HT2.out]; rfl, HBF.out⟩
          · have hT2 : okS S = tot := by rw [← HT.out, Bool.true_and]
            have HT2 := Lib.hid hT2
            have hwx := HW.out.blw HB6.out
            have HWX := Lib.hid hwx
            clear HT hT2 hwx
            go_wp2_with fail
            have HWN := Lib.hid (HWX.out.blw (vbox _ (.cells #[.int .i64 t.k, .int .i64 t.n, .int .i64 t.x, .string ⟨t.s.toArray⟩, .slice t.a t.l.length t.cap] 29)))
            refine (next_head (w := w) HWN.out hB (HBF.out.alloc HBF.out.size _) (by have := HL.out; simp only [lr] at this; omega)).mono ?_
            have hl6 := HWX.out.lt
            have hp6 := HWX.out.pB
            have hBR := HBF.out
            rintro e w8 (⟨S1', E', L', t2, tl', a1', c1', g1', cap1', hS, hE, hL, rfl, hw2, hg2, ho2, hb2⟩ | ⟨hS, rfl, ho, hb2⟩)
            · have hblk := ho2.block w7.heap.size (by simp) (by omega) (by omega)
              obtain ⟨d0, d1, d2, d3, d4, df⟩ := vold hblk
              simp only [World.size_alloc] at hg2
              have hXX : w7.heap.size ≠ P ∧ w7.heap.size ≠ g1' ∧ B ≤ w7.heap.size := ⟨by omega, by omega, by omega⟩
              have hwx := setW (o := 4) (u := .slice t2.a t2.l.length t2.cap) (setW (o := 3) (u := .string ⟨t2.s.toArray⟩) (setW (o := 2) (u := .int .i64 t2.x) (setW (o := 1) (u := .int .i64 t2.n) (setW (o := 0) (u := .int .i64 t2.k) hw2 hXX) hXX) hXX) hXX) hXX
              have hww : w.heap.size ≤ w7.heap.size := hBR.size
              have hbx := bset (bset (bset (bset (bset hb2 hww (o := 0) (u := .int .i64 t2.k)) hww (o := 1) (u := .int .i64 t2.n)) hww (o := 2) (u := .int .i64 t2.x)) hww (o := 3) (u := .string ⟨t2.s.toArray⟩)) hww (o := 4) (u := .slice t2.a t2.l.length t2.cap)
              have hgs := HGS.out
              have hok2 := HT2.out
              have hlr := HL.out
              have hms : M (.bool true) (((((w8.setCell ⟨w7.heap.size, 0, none⟩ (.int .i64 t2.k)).setCell ⟨w7.heap.size, 1, none⟩ (.int .i64 t2.n)).setCell ⟨w7.heap.size, 2, none⟩ (.int .i64 t2.x)).setCell ⟨w7.heap.size, 3, none⟩ (.string ⟨t2.s.toArray⟩)).setCell ⟨w7.heap.size, 4, none⟩ (.slice t2.a t2.l.length t2.cap)) < M (.bool true) wr := by
                rw [HM1.out _ _ _ _ _ _ _ hwx, HM1.out _ _ _ _ _ _ _ HW.out, hS, remN_step S1' E' L' t2 tl' a1' c1' hE hL]
                omega
              rw [hS] at hgs hok2
              have hhead : HeadV w (((((w8.setCell ⟨w7.heap.size, 0, none⟩ (.int .i64 t2.k)).setCell ⟨w7.heap.size, 1, none⟩ (.int .i64 t2.n)).setCell ⟨w7.heap.size, 2, none⟩ (.int .i64 t2.x)).setCell ⟨w7.heap.size, 3, none⟩ (.string ⟨t2.s.toArray⟩)).setCell ⟨w7.heap.size, 4, none⟩ (.slice t2.a t2.l.length t2.cap)) B P tot w7.heap.size := by
                refine ⟨g1', cap1', _, _, t2, hwx, ?_, hXX, ⟨hB, hbx⟩, ?_, (hgs.step a1' c1' hL).1, (hgs.step a1' c1' hL).2, ?_⟩
                · refine ⟨?_, ?_, ?_, ?_, ?_⟩ <;> simp [go_sem, d0, d1, d2, d3, d4]
                · rw [← okS_step S1' E' L' t2 tl' a1' c1' hE hL]; exact hok2
                · have := lr_step S1' E' L' t2 tl' a1' c1' hE hL
                  rw [← hS] at this
                  exact Nat.le_trans this hlr
              have HMS := Lib.hid hms
              have HHEAD2 := Lib.hid hhead
              clear hS hE hL hw2 hg2 ho2 hb2 hwx hms hhead hXX hblk hl6 hp6 hbx hgs hok2 hlr hBR
              go_wp2
              go_roundw
              case rel => exact ⟨true, rfl, .inl ⟨rfl, _, rfl, HHEAD2.out⟩⟩
              case measure => exact HMS.out
            · have hblk := ho.block w7.heap.size (by simp) (by omega) (by omega)
              obtain ⟨d0, d1, d2, d3, d4, df⟩ := vold hblk
              have hT : tot = true := by rw [← HT2.out]; exact okS_empty _ hS
              have HTT := Lib.hid hT
              have hww : w.heap.size ≤ w7.heap.size := hBR.size
              have HBX := Lib.hid (bset (bset (bset (bset (bset hb2 hww (o := 0) (u := .int .i64 0)) hww (o := 1) (u := .int .i64 0)) hww (o := 2) (u := .int .i64 0)) hww (o := 3) (u := .string ⟨#[]⟩)) hww (o := 4) (u := .slice none 0 0))
              have HMS : Hid (∀ w9 : World, M (.bool false) w9 < M (.bool true) wr) := Lib.hid (fun w9 => by rw [HM0.out, HM1.out _ _ _ _ _ _ _ HW.out]; omega)
              clear hS ho hb2 hblk hl6 hp6 hww hBR hT
              go_wp2
              go_roundw
              case rel => exact ⟨false, rfl, .inr ⟨rfl, HTT.out, HBX.out⟩⟩
              case measure => exact HMS.out _
        · have HCV := Lib.hid (fun w => cval_bool w t.n t.x ⟨t.s.toArray⟩ t.a t.l.length t.cap)
          have me : ∀ W : World, (method 249 100 (.int .i64 t.n) "loop.example/g00502/impl.val").run Tryd.prog W = .ok (129, .int .i64 t.n) W := fun W => by kernel_rfl
          rw [hB] at HFI
          clear hB
          go_wp2_with fail
          refine (HCO.out _).mono ?_
          rintro e w4 ⟨rfl, hb4⟩
          have HB4 := Lib.hid hb4
          replace c0 := keep_below hb4 c0
          replace c1 := keep_below hb4 c1
          replace c2 := keep_below hb4 c2
          replace c3 := keep_below hb4 c3
          replace c4 := keep_below hb4 c4
          clear hb4
          have hb40 : Below w4.heap.size w4 w4 := Below.refl _ _
          go_wp2_with fail
          go_region_held3 (fun W' => W'.cell? ⟨X, 0, none⟩ = some (.int .i64 t.k) ∧ W'.cell? ⟨X, 1, none⟩ = some (.int .i64 t.n) ∧ W'.cell? ⟨X, 2, none⟩ = some (.int .i64 t.x) ∧ W'.cell? ⟨X, 3, none⟩ = some (.string ⟨t.s.toArray⟩) ∧ W'.cell? ⟨X, 4, none⟩ = some (.slice t.a t.l.length t.cap) ∧ Below w4.heap.size w4 W') (first | (refine ⟨⟨?_, ?_, ?_, ?_, ?_⟩, ?_⟩ <;> assumption) | (refine ⟨?_, ?_, ?_, ?_, ?_, ?_⟩ <;> assumption) | (refine ⟨?_, ?_, ?_, ?_, ?_, Below.drew ?_⟩ <;> assumption) | (refine keep6 (by assumption) ⟨?_, ?_, ?_, ?_, ?_, ?_⟩ <;> assumption)) (first | (go_at_call 60; go_split_ands; ((with_reducible refine (HCK.out _).mono ?_); rintro e w5 ⟨rfl, hb5⟩)) | (go_at_call 129; go_split_ands; ((with_reducible refine (HCV.out _).mono ?_); rintro e w6 ⟨rfl, hb6⟩)) | (go_at_call 61; go_split_ands; ((refine (HFI.out _).mono ?_); rintro e w7 ⟨rfl, hb7⟩)))
          rename_i hH
          have HBF := Lib.hid (HWR.out.trans ((HB4.out.trans (hH.2.2.2.2.2.mono HB4.out.size)).mono HWR.out.size))
          have HB6 := Lib.hid (HB4.out.trans (hH.2.2.2.2.2.mono HB4.out.size))
          obtain ⟨c0, c1, c2, c3, c4, -⟩ := hH
          clear me HFI HCV HCK HCO HB4
          cases B'
          · have HT2 : Hid (tot = false) := Lib.hid (by rw [← HT.out]; rfl)
            clear HT
            go_wp2
            go_ret
            exact ⟨by rw [HT2.out]; rfl, HBF.out⟩
          · have hT2 : okS S = tot := by rw [← HT.out, Bool.true_and]
            have HT2 := Lib.hid hT2
            have hwx := HW.out.blw HB6.out
            have HWX := Lib.hid hwx
            clear HT hT2 hwx
            go_wp2_with fail
            have HWN := Lib.hid (HWX.out.blw (vbox _ (.cells #[.int .i64 t.k, .int .i64 t.n, .int .i64 t.x, .string ⟨t.s.toArray⟩, .slice t.a t.l.length t.cap] 29)))
            refine (next_head (w := w) HWN.out hB (HBF.out.alloc HBF.out.size _) (by have := HL.out; simp only [lr] at this; omega)).mono ?_
            have hl6 := HWX.out.lt
            have hp6 := HWX.out.pB
            have hBR := HBF.out
            rintro e w8 (⟨S1', E', L', t2, tl', a1', c1', g1', cap1', hS, hE, hL, rfl, hw2, hg2, ho2, hb2⟩ | ⟨hS, rfl, ho, hb2⟩)
            · have hblk := ho2.block w7.heap.size (by simp) (by omega) (by omega)
              obtain ⟨d0, d1, d2, d3, d4, df⟩ := vold hblk
              simp only [World.size_alloc] at hg2
              have hXX : w7.heap.size ≠ P ∧ w7.heap.size ≠ g1' ∧ B ≤ w7.heap.size := ⟨by omega, by omega, by omega⟩
              have hwx := setW (o := 4) (u := .slice t2.a t2.l.length t2.cap) (setW (o := 3) (u := .string ⟨t2.s.toArray⟩) (setW (o := 2) (u := .int .i64 t2.x) (setW (o := 1) (u := .int .i64 t2.n) (setW (o := 0) (u := .int .i64 t2.k) hw2 hXX) hXX) hXX) hXX) hXX
              have hww : w.heap.size ≤ w7.heap.size := hBR.size
              have hbx := bset (bset (bset (bset (bset hb2 hww (o := 0) (u := .int .i64 t2.k)) hww (o := 1) (u := .int .i64 t2.n)) hww (o := 2) (u := .int .i64 t2.x)) hww (o := 3) (u := .string ⟨t2.s.toArray⟩)) hww (o := 4) (u := .slice t2.a t2.l.length t2.cap)
              have hgs := HGS.out
              have hok2 := HT2.out
              have hlr := HL.out
              have hms : M (.bool true) (((((w8.setCell ⟨w7.heap.size, 0, none⟩ (.int .i64 t2.k)).setCell ⟨w7.heap.size, 1, none⟩ (.int .i64 t2.n)).setCell ⟨w7.heap.size, 2, none⟩ (.int .i64 t2.x)).setCell ⟨w7.heap.size, 3, none⟩ (.string ⟨t2.s.toArray⟩)).setCell ⟨w7.heap.size, 4, none⟩ (.slice t2.a t2.l.length t2.cap)) < M (.bool true) wr := by
                rw [HM1.out _ _ _ _ _ _ _ hwx, HM1.out _ _ _ _ _ _ _ HW.out, hS, remN_step S1' E' L' t2 tl' a1' c1' hE hL]
                omega
              rw [hS] at hgs hok2
              have hhead : HeadV w (((((w8.setCell ⟨w7.heap.size, 0, none⟩ (.int .i64 t2.k)).setCell ⟨w7.heap.size, 1, none⟩ (.int .i64 t2.n)).setCell ⟨w7.heap.size, 2, none⟩ (.int .i64 t2.x)).setCell ⟨w7.heap.size, 3, none⟩ (.string ⟨t2.s.toArray⟩)).setCell ⟨w7.heap.size, 4, none⟩ (.slice t2.a t2.l.length t2.cap)) B P tot w7.heap.size := by
                refine ⟨g1', cap1', _, _, t2, hwx, ?_, hXX, ⟨hB, hbx⟩, ?_, (hgs.step a1' c1' hL).1, (hgs.step a1' c1' hL).2, ?_⟩
                · refine ⟨?_, ?_, ?_, ?_, ?_⟩ <;> simp [go_sem, d0, d1, d2, d3, d4]
                · rw [← okS_step S1' E' L' t2 tl' a1' c1' hE hL]; exact hok2
                · have := lr_step S1' E' L' t2 tl' a1' c1' hE hL
                  rw [← hS] at this
                  exact Nat.le_trans this hlr
              have HMS := Lib.hid hms
              have HHEAD2 := Lib.hid hhead
              clear hS hE hL hw2 hg2 ho2 hb2 hwx hms hhead hXX hblk hl6 hp6 hbx hgs hok2 hlr hBR
              go_wp2
              go_roundw
              case rel => exact ⟨true, rfl, .inl ⟨rfl, _, rfl, HHEAD2.out⟩⟩
              case measure => exact HMS.out
            · have hblk := ho.block w7.heap.size (by simp) (by omega) (by omega)
              obtain ⟨d0, d1, d2, d3, d4, df⟩ := vold hblk
              have hT : tot = true := by rw [← HT2.out]; exact okS_empty _ hS
              have HTT := Lib.hid hT
              have hww : w.heap.size ≤ w7.heap.size := hBR.size
              have HBX := Lib.hid (bset (bset (bset (bset (bset hb2 hww (o := 0) (u := .int .i64 0)) hww (o := 1) (u := .int .i64 0)) hww (o := 2) (u := .int .i64 0)) hww (o := 3) (u := .string ⟨#[]⟩)) hww (o := 4) (u := .slice none 0 0))
              have HMS : Hid (∀ w9 : World, M (.bool false) w9 < M (.bool true) wr) := Lib.hid (fun w9 => by rw [HM0.out, HM1.out _ _ _ _ _ _ _ HW.out]; omega)
              clear hS ho hb2 hblk hl6 hp6 hww hBR hT
              go_wp2
              go_roundw
              case rel => exact ⟨false, rfl, .inr ⟨rfl, HTT.out, HBX.out⟩⟩
              case measure => exact HMS.out _
        · have HCV := Lib.hid (fun w => cval_int w t.n t.x ⟨t.s.toArray⟩ t.a t.l.length t.cap)
          have me : ∀ W : World, (method 249 101 (.int .i64 t.n) "loop.example/g00502/impl.val").run Tryd.prog W = .ok (130, .int .i64 t.n) W := fun W => by kernel_rfl
          rw [hB] at HFI
          clear hB
          go_wp2_with fail
          refine (HCO.out _).mono ?_
          rintro e w4 ⟨rfl, hb4⟩
          have HB4 := Lib.hid hb4
          replace c0 := keep_below hb4 c0
          replace c1 := keep_below hb4 c1
          replace c2 := keep_below hb4 c2
          replace c3 := keep_below hb4 c3
          replace c4 := keep_below hb4 c4
          clear hb4
          have hb40 : Below w4.heap.size w4 w4 := Below.refl _ _
          go_wp2_with fail
          go_region_held3 (fun W' => W'.cell? ⟨X, 0, none⟩ = some (.int .i64 t.k) ∧ W'.cell? ⟨X, 1, none⟩ = some (.int .i64 t.n) ∧ W'.cell? ⟨X, 2, none⟩ = some (.int .i64 t.x) ∧ W'.cell? ⟨X, 3, none⟩ = some (.string ⟨t.s.toArray⟩) ∧ W'.cell? ⟨X, 4, none⟩ = some (.slice t.a t.l.length t.cap) ∧ Below w4.heap.size w4 W') (first | (refine ⟨⟨?_, ?_, ?_, ?_, ?_⟩, ?_⟩ <;> assumption) | (refine ⟨?_, ?_, ?_, ?_, ?_, ?_⟩ <;> assumption) | (refine ⟨?_, ?_, ?_, ?_, ?_, Below.drew ?_⟩ <;> assumption) | (refine keep6 (by assumption) ⟨?_, ?_, ?_, ?_, ?_, ?_⟩ <;> assumption)) (first | (go_at_call 60; go_split_ands; ((with_reducible refine (HCK.out _).mono ?_); rintro e w5 ⟨rfl, hb5⟩)) | (go_at_call 130; go_split_ands; ((with_reducible refine (HCV.out _).mono ?_); rintro e w6 ⟨rfl, hb6⟩)) | (go_at_call 61; go_split_ands; ((refine (HFI.out _).mono ?_); rintro e w7 ⟨rfl, hb7⟩)))
          rename_i hH
          have HBF := Lib.hid (HWR.out.trans ((HB4.out.trans (hH.2.2.2.2.2.mono HB4.out.size)).mono HWR.out.size))
          have HB6 := Lib.hid (HB4.out.trans (hH.2.2.2.2.2.mono HB4.out.size))
          obtain ⟨c0, c1, c2, c3, c4, -⟩ := hH
          clear me HFI HCV HCK HCO HB4
          cases B'
          · have HT2 : Hid (tot = false) := Lib.hid (by rw [← HT.out]; rfl)
            clear HT
            go_wp2
            go_ret
            exact ⟨by rw [HT2.out]; rfl, HBF.out⟩
          · have hT2 : okS S = tot := by rw [← HT.out, Bool.true_and]
            have HT2 := Lib.hid hT2
            have hwx := HW.out.blw HB6.out
            have HWX := Lib.hid hwx
            clear HT hT2 hwx
            go_wp2_with fail
            have HWN := Lib.hid (HWX.out.blw (vbox _ (.cells #[.int .i64 t.k, .int .i64 t.n, .int .i64 t.x, .string ⟨t.s.toArray⟩, .slice t.a t.l.length t.cap] 29)))
            refine (next_head (w := w) HWN.out hB (HBF.out.alloc HBF.out.size _) (by have := HL.out; simp only [lr] at this; omega)).mono ?_
            have hl6 := HWX.out.lt
            have hp6 := HWX.out.pB
            have hBR := HBF.out
            rintro e w8 (⟨S1', E', L', t2, tl', a1', c1', g1', cap1', hS, hE, hL, rfl, hw2, hg2, ho2, hb2⟩ | ⟨hS, rfl, ho, hb2⟩)
            · have hblk := ho2.block w7.heap.size (by simp) (by omega) (by omega)
              obtain ⟨d0, d1, d2, d3, d4, df⟩ := vold hblk
              simp only [World.size_alloc] at hg2
              have hXX : w7.heap.size ≠ P ∧ w7.heap.size ≠ g1' ∧ B ≤ w7.heap.size := ⟨by omega, by omega, by omega⟩
              have hwx := setW (o := 4) (u := .slice t2.a t2.l.length t2.cap) (setW (o := 3) (u := .string ⟨t2.s.toArray⟩) (setW (o := 2) (u := .int .i64 t2.x) (setW (o := 1) (u := .int .i64 t2.n) (setW (o := 0) (u := .int .i64 t2.k) hw2 hXX) hXX) hXX) hXX) hXX
              have hww : w.heap.size ≤ w7.heap.size := hBR.size
              have hbx := bset (bset (bset (bset (bset hb2 hww (o := 0) (u := .int .i64 t2.k)) hww (o := 1) (u := .int .i64 t2.n)) hww (o := 2) (u := .int .i64 t2.x)) hww (o := 3) (u := .string ⟨t2.s.toArray⟩)) hww (o := 4) (u := .slice t2.a t2.l.length t2.cap)
              have hgs := HGS.out
              have hok2 := HT2.out
              have hlr := HL.out
              have hms : M (.bool true) (((((w8.setCell ⟨w7.heap.size, 0, none⟩ (.int .i64 t2.k)).setCell ⟨w7.heap.size, 1, none⟩ (.int .i64 t2.n)).setCell ⟨w7.heap.size, 2, none⟩ (.int .i64 t2.x)).setCell ⟨w7.heap.size, 3, none⟩ (.string ⟨t2.s.toArray⟩)).setCell ⟨w7.heap.size, 4, none⟩ (.slice t2.a t2.l.length t2.cap)) < M (.bool true) wr := by
                rw [HM1.out _ _ _ _ _ _ _ hwx, HM1.out _ _ _ _ _ _ _ HW.out, hS, remN_step S1' E' L' t2 tl' a1' c1' hE hL]
                omega
              rw [hS] at hgs hok2
              have hhead : HeadV w (((((w8.setCell ⟨w7.heap.size, 0, none⟩ (.int .i64 t2.k)).setCell ⟨w7.heap.size, 1, none⟩ (.int .i64 t2.n)).setCell ⟨w7.heap.size, 2, none⟩ (.int .i64 t2.x)).setCell ⟨w7.heap.size, 3, none⟩ (.string ⟨t2.s.toArray⟩)).setCell ⟨w7.heap.size, 4, none⟩ (.slice t2.a t2.l.length t2.cap)) B P tot w7.heap.size := by
                refine ⟨g1', cap1', _, _, t2, hwx, ?_, hXX, ⟨hB, hbx⟩, ?_, (hgs.step a1' c1' hL).1, (hgs.step a1' c1' hL).2, ?_⟩
                · refine ⟨?_, ?_, ?_, ?_, ?_⟩ <;> simp [go_sem, d0, d1, d2, d3, d4]
                · rw [← okS_step S1' E' L' t2 tl' a1' c1' hE hL]; exact hok2
                · have := lr_step S1' E' L' t2 tl' a1' c1' hE hL
                  rw [← hS] at this
                  exact Nat.le_trans this hlr
              have HMS := Lib.hid hms
              have HHEAD2 := Lib.hid hhead
              clear hS hE hL hw2 hg2 ho2 hb2 hwx hms hhead hXX hblk hl6 hp6 hbx hgs hok2 hlr hBR
              go_wp2
              go_roundw
              case rel => exact ⟨true, rfl, .inl ⟨rfl, _, rfl, HHEAD2.out⟩⟩
              case measure => exact HMS.out
            · have hblk := ho.block w7.heap.size (by simp) (by omega) (by omega)
              obtain ⟨d0, d1, d2, d3, d4, df⟩ := vold hblk
              have hT : tot = true := by rw [← HT2.out]; exact okS_empty _ hS
              have HTT := Lib.hid hT
              have hww : w.heap.size ≤ w7.heap.size := hBR.size
              have HBX := Lib.hid (bset (bset (bset (bset (bset hb2 hww (o := 0) (u := .int .i64 0)) hww (o := 1) (u := .int .i64 0)) hww (o := 2) (u := .int .i64 0)) hww (o := 3) (u := .string ⟨#[]⟩)) hww (o := 4) (u := .slice none 0 0))
              have HMS : Hid (∀ w9 : World, M (.bool false) w9 < M (.bool true) wr) := Lib.hid (fun w9 => by rw [HM0.out, HM1.out _ _ _ _ _ _ _ HW.out]; omega)
              clear hS ho hb2 hblk hl6 hp6 hww hBR hT
              go_wp2
              go_roundw
              case rel => exact ⟨false, rfl, .inr ⟨rfl, HTT.out, HBX.out⟩⟩
              case measure => exact HMS.out _
        · have HCV := Lib.hid (fun w => cval_flt w t.n t.x ⟨t.s.toArray⟩ t.a t.l.length t.cap)
          have me : ∀ W : World, (method 249 102 (.agg #[.int .i64 t.n, .int .i64 t.x]) "loop.example/g00502/impl.val").run Tryd.prog W = .ok (131, .agg #[.int .i64 t.n, .int .i64 t.x]) W := fun W => by kernel_rfl
          rw [hB] at HFI
          clear hB
          go_wp2_with fail
          refine (HCO.out _).mono ?_
          rintro e w4 ⟨rfl, hb4⟩
          have HB4 := Lib.hid hb4
          replace c0 := keep_below hb4 c0
          replace c1 := keep_below hb4 c1
          replace c2 := keep_below hb4 c2
          replace c3 := keep_below hb4 c3
          replace c4 := keep_below hb4 c4
          clear hb4
          have hb40 : Below w4.heap.size w4 w4 := Below.refl _ _
          go_wp2_with fail
          go_region_held3 (fun W' => W'.cell? ⟨X, 0, none⟩ = some (.int .i64 t.k) ∧ W'.cell? ⟨X, 1, none⟩ = some (.int .i64 t.n) ∧ W'.cell? ⟨X, 2, none⟩ = some (.int .i64 t.x) ∧ W'.cell? ⟨X, 3, none⟩ = some (.string ⟨t.s.toArray⟩) ∧ W'.cell? ⟨X, 4, none⟩ = some (.slice t.a t.l.length t.cap) ∧ Below w4.heap.size w4 W') (first | (refine ⟨⟨?_, ?_, ?_, ?_, ?_⟩, ?_⟩ <;> assumption) | (refine ⟨?_, ?_, ?_, ?_, ?_, ?_⟩ <;> assumption) | (refine ⟨?_, ?_, ?_, ?_, ?_, Below.drew ?_⟩ <;> assumption) | (refine keep6 (by assumption) ⟨?_, ?_, ?_, ?_, ?_, ?_⟩ <;> assumption)) (first | (go_at_call 60; go_split_ands; ((with_reducible refine (HCK.out _).mono ?_); rintro e w5 ⟨rfl, hb5⟩)) | (go_at_call 131; go_split_ands; ((with_reducible refine (HCV.out _).mono ?_); rintro e w6 ⟨rfl, hb6⟩)) | (go_at_call 61; go_split_ands; ((refine (HFI.out _).mono ?_); rintro e w7 ⟨rfl, hb7⟩)))
          rename_i hH
          have HBF := Lib.hid (HWR.out.trans ((HB4.out.trans (hH.2.2.2.2.2.mono HB4.out.size)).mono HWR.out.size))
          have HB6 := Lib.hid (HB4.out.trans (hH.2.2.2.2.2.mono HB4.out.size))
          obtain ⟨c0, c1, c2, c3, c4, -⟩ := hH
          clear me HFI HCV HCK HCO HB4
          cases B'
          · have HT2 : Hid (tot = false) := Lib.hid (by rw [← HT.out]; rfl)
            clear HT
            go_wp2
            go_ret
            exact ⟨by rw [HT2.out]; rfl, HBF.out⟩
          · have hT2 : okS S = tot := by rw [← HT.out, Bool.true_and]
            have HT2 := Lib.hid hT2
            have hwx := HW.out.blw HB6.out
            have HWX := Lib.hid hwx
            clear HT hT2 hwx
            go_wp2_with fail
            have HWN := Lib.hid (HWX.out.blw (vbox _ (.cells #[.int .i64 t.k, .int .i64 t.n, .int .i64 t.x, .string ⟨t.s.toArray⟩, .slice t.a t.l.length t.cap] 29)))
            refine (next_head (w := w) HWN.out hB (HBF.out.alloc HBF.out.size _) (by have := HL.out; simp only [lr] at this; omega)).mono ?_
            have hl6 := HWX.out.lt
            have hp6 := HWX.out.pB
            have hBR := HBF.out
            rintro e w8 (⟨S1', E', L', t2, tl', a1', c1', g1', cap1', hS, hE, hL, rfl, hw2, hg2, ho2, hb2⟩ | ⟨hS, rfl, ho, hb2⟩)
            · have hblk := ho2.block w7.heap.size (by simp) (by omega) (by omega)
              obtain ⟨d0, d1, d2, d3, d4, df⟩ := vold hblk
              simp only [World.size_alloc] at hg2
              have hXX : w7.heap.size ≠ P ∧ w7.heap.size ≠ g1' ∧ B ≤ w7.heap.size := ⟨by omega, by omega, by omega⟩
              have hwx := setW (o := 4) (u := .slice t2.a t2.l.length t2.cap) (setW (o := 3) (u := .string ⟨t2.s.toArray⟩) (setW (o := 2) (u := .int .i64 t2.x) (setW (o := 1) (u := .int .i64 t2.n) (setW (o := 0) (u := .int .i64 t2.k) hw2 hXX) hXX) hXX) hXX) hXX
              have hww : w.heap.size ≤ w7.heap.size := hBR.size
              have hbx := bset (bset (bset (bset (bset hb2 hww (o := 0) (u := .int .i64 t2.k)) hww (o := 1) (u := .int .i64 t2.n)) hww (o := 2) (u := .int .i64 t2.x)) hww (o := 3) (u := .string ⟨t2.s.toArray⟩)) hww (o := 4) (u := .slice t2.a t2.l.length t2.cap)
              have hgs := HGS.out
              have hok2 := HT2.out
              have hlr := HL.out
              have hms : M (.bool true) (((((w8.setCell ⟨w7.heap.size, 0, none⟩ (.int .i64 t2.k)).setCell ⟨w7.heap.size, 1, none⟩ (.int .i64 t2.n)).setCell ⟨w7.heap.size, 2, none⟩ (.int .i64 t2.x)).setCell ⟨w7.heap.size, 3, none⟩ (.string ⟨t2.s.toArray⟩)).setCell ⟨w7.heap.size, 4, none⟩ (.slice t2.a t2.l.length t2.cap)) < M (.bool true) wr := by
                rw [HM1.out _ _ _ _ _ _ _ hwx, HM1.out _ _ _ _ _ _ _ HW.out, hS, remN_step S1' E' L' t2 tl' a1' c1' hE hL]
                omega
              rw [hS] at hgs hok2
              have hhead : HeadV w (((((w8.setCell ⟨w7.heap.size, 0, none⟩ (.int .i64 t2.k)).setCell ⟨w7.heap.size, 1, none⟩ (.int .i64 t2.n)).setCell ⟨w7.heap.size, 2, none⟩ (.int .i64 t2.x)).setCell ⟨w7.heap.size, 3, none⟩ (.string ⟨t2.s.toArray⟩)).setCell ⟨w7.heap.size, 4, none⟩ (.slice t2.a t2.l.length t2.cap)) B P tot w7.heap.size := by
                refine ⟨g1', cap1', _, _, t2, hwx, ?_, hXX, ⟨hB, hbx⟩, ?_, (hgs.step a1' c1' hL).1, (hgs.step a1' c1' hL).2, ?_⟩
                · refine ⟨?_, ?_, ?_, ?_, ?_⟩ <;> simp [go_sem, d0, d1, d2, d3, d4]
                · rw [← okS_step S1' E' L' t2 tl' a1' c1' hE hL]; exact hok2
                · have := lr_step S1' E' L' t2 tl' a1' c1' hE hL
                  rw [← hS] at this
                  exact Nat.le_trans this hlr
              have HMS := Lib.hid hms
              have HHEAD2 := Lib.hid hhead
              clear hS hE hL hw2 hg2 ho2 hb2 hwx hms hhead hXX hblk hl6 hp6 hbx hgs hok2 hlr hBR
              go_wp2
              go_roundw
              case rel => exact ⟨true, rfl, .inl ⟨rfl, _, rfl, HHEAD2.out⟩⟩
              case measure => exact HMS.out
            · have hblk := ho.block w7.heap.size (by simp) (by omega) (by omega)
              obtain ⟨d0, d1, d2, d3, d4, df⟩ := vold hblk
              have hT : tot = true := by rw [← HT2.out]; exact okS_empty _ hS
              have HTT := Lib.hid hT
              have hww : w.heap.size ≤ w7.heap.size := hBR.size
              have HBX := Lib.hid (bset (bset (bset (bset (bset hb2 hww (o := 0) (u := .int .i64 0)) hww (o := 1) (u := .int .i64 0)) hww (o := 2) (u := .int .i64 0)) hww (o := 3) (u := .string ⟨#[]⟩)) hww (o := 4) (u := .slice none 0 0))
              have HMS : Hid (∀ w9 : World, M (.bool false) w9 < M (.bool true) wr) := Lib.hid (fun w9 => by rw [HM0.out, HM1.out _ _ _ _ _ _ _ HW.out]; omega)
              clear hS ho hb2 hblk hl6 hp6 hww hBR hT
              go_wp2
              go_roundw
              case rel => exact ⟨false, rfl, .inr ⟨rfl, HTT.out, HBX.out⟩⟩
              case measure => exact HMS.out _
        · have HCV := Lib.hid (fun w => cval_odd w t.n t.x ⟨t.s.toArray⟩ t.a t.l.length t.cap)
          have me : ∀ W : World, (method 249 103 (.int .i64 t.n) "loop.example/g00502/impl.val").run Tryd.prog W = .ok (132, .int .i64 t.n) W := fun W => by kernel_rfl
          rw [hB] at HFI
          clear hB
          go_wp2_with fail
          refine (HCO.out _).mono ?_
          rintro e w4 ⟨rfl, hb4⟩
          have HB4 := Lib.hid hb4
          replace c0 := keep_below hb4 c0
          replace c1 := keep_below hb4 c1
          replace c2 := keep_below hb4 c2
          replace c3 := keep_below hb4 c3
          replace c4 := keep_below hb4 c4
          clear hb4
          have hb40 : Below w4.heap.size w4 w4 := Below.refl _ _
          go_wp2_with fail
          go_region_held3 (fun W' => W'.cell? ⟨X, 0, none⟩ = some (.int .i64 t.k) ∧ W'.cell? ⟨X, 1, none⟩ = some (.int .i64 t.n) ∧ W'.cell? ⟨X, 2, none⟩ = some (.int .i64 t.x) ∧ W'.cell? ⟨X, 3, none⟩ = some (.string ⟨t.s.toArray⟩) ∧ W'.cell? ⟨X, 4, none⟩ = some (.slice t.a t.l.length t.cap) ∧ Below w4.heap.size w4 W') (first | (refine ⟨⟨?_, ?_, ?_, ?_, ?_⟩, ?_⟩ <;> assumption) | (refine ⟨?_, ?_, ?_, ?_, ?_, ?_⟩ <;> assumption) | (refine ⟨?_, ?_, ?_, ?_, ?_, Below.drew ?_⟩ <;> assumption) | (refine keep6 (by assumption) ⟨?_, ?_, ?_, ?_, ?_, ?_⟩ <;> assumption)) (first | (go_at_call 60; go_split_ands; ((with_reducible refine (HCK.out _).mono ?_); rintro e w5 ⟨rfl, hb5⟩)) | (go_at_call 132; go_split_ands; ((with_reducible refine (HCV.out _).mono ?_); rintro e w6 ⟨rfl, hb6⟩)) | (go_at_call 61; go_split_ands; ((refine (HFI.out _).mono ?_); rintro e w7 ⟨rfl, hb7⟩)))
          rename_i hH
          have HBF := Lib.hid (HWR.out.trans ((HB4.out.trans (hH.2.2.2.2.2.mono HB4.out.size)).mono HWR.out.size))
          have HB6 := Lib.hid (HB4.out.trans (hH.2.2.2.2.2.mono HB4.out.size))
          obtain ⟨c0, c1, c2, c3, c4, -⟩ := hH
          clear me HFI HCV HCK HCO HB4
          cases B'
          · have HT2 : Hid (tot = false) := Lib.hid (by rw [← HT.out]; rfl)
            clear HT
            go_wp2
            go_ret
            exact ⟨by rw [HT2.out]; rfl, HBF.out⟩
          · have hT2 : okS S = tot := by rw [← HT.out, Bool.true_and]
            have HT2 := Lib.hid hT2
            have hwx := HW.out.blw HB6.out
            have HWX := Lib.hid hwx
            clear HT hT2 hwx
            go_wp2_with fail
            have HWN := Lib.hid (HWX.out.blw (vbox _ (.cells #[.int .i64 t.k, .int .i64 t.n, .int .i64 t.x, .string ⟨t.s.toArray⟩, .slice t.a t.l.length t.cap] 29)))
            refine (next_head (w := w) HWN.out hB (HBF.out.alloc HBF.out.size _) (by have := HL.out; simp only [lr] at this; omega)).mono ?_
            have hl6 := HWX.out.lt
            have hp6 := HWX.out.pB
            have hBR := HBF.out
            rintro e w8 (⟨S1', E', L', t2, tl', a1', c1', g1', cap1', hS, hE, hL, rfl, hw2, hg2, ho2, hb2⟩ | ⟨hS, rfl, ho, hb2⟩)
            · have hblk := ho2.block w7.heap.size (by simp) (by omega) (by omega)
              obtain ⟨d0, d1, d2, d3, d4, df⟩ := vold hblk
              simp only [World.size_alloc] at hg2
              have hXX : w7.heap.size ≠ P ∧ w7.heap.size ≠ g1' ∧ B ≤ w7.heap.size := ⟨by omega, by omega, by omega⟩
              have hwx := setW (o := 4) (u := .slice t2.a t2.l.length t2.cap) (setW (o := 3) (u := .string ⟨t2.s.toArray⟩) (setW (o := 2) (u := .int .i64 t2.x) (setW (o := 1) (u := .int .i64 t2.n) (setW (o := 0) (u := .int .i64 t2.k) hw2 hXX) hXX) hXX) hXX) hXX
              have hww : w.heap.size ≤ w7.heap.size := hBR.size
              have hbx := bset (bset (bset (bset (bset hb2 hww (o := 0) (u := .int .i64 t2.k)) hww (o := 1) (u := .int .i64 t2.n)) hww (o := 2) (u := .int .i64 t2.x)) hww (o := 3) (u := .string ⟨t2.s.toArray⟩)) hww (o := 4) (u := .slice t2.a t2.l.length t2.cap)
              have hgs := HGS.out
              have hok2 := HT2.out
              have hlr := HL.out
              have hms : M (.bool true) (((((w8.setCell ⟨w7.heap.size, 0, none⟩ (.int .i64 t2.k)).setCell ⟨w7.heap.size, 1, none⟩ (.int .i64 t2.n)).setCell ⟨w7.heap.size, 2, none⟩ (.int .i64 t2.x)).setCell ⟨w7.heap.size, 3, none⟩ (.string ⟨t2.s.toArray⟩)).setCell ⟨w7.heap.size, 4, none⟩ (.slice t2.a t2.l.length t2.cap)) < M (.bool true) wr := by
                rw [HM1.out _ _ _ _ _ _ _ hwx, HM1.out _ _ _ _ _ _ _ HW.out, hS, remN_step S1' E' L' t2 tl' a1' c1' hE hL]
                omega
              rw [hS] at hgs hok2
              have hhead : HeadV w (((((w8.setCell ⟨w7.heap.size, 0, none⟩ (.int .i64 t2.k)).setCell ⟨w7.heap.size, 1, none⟩ (.int .i64 t2.n)).setCell ⟨w7.heap.size, 2, none⟩ (.int .i64 t2.x)).setCell ⟨w7.heap.size, 3, none⟩ (.string ⟨t2.s.toArray⟩)).setCell ⟨w7.heap.size, 4, none⟩ (.slice t2.a t2.l.length t2.cap)) B P tot w7.heap.size := by
                refine ⟨g1', cap1', _, _, t2, hwx, ?_, hXX, ⟨hB, hbx⟩, ?_, (hgs.step a1' c1' hL).1, (hgs.step a1' c1' hL).2, ?_⟩
                · refine ⟨?_, ?_, ?_, ?_, ?_⟩ <;> simp [go_sem, d0, d1, d2, d3, d4]
                · rw [← okS_step S1' E' L' t2 tl' a1' c1' hE hL]; exact hok2
                · have := lr_step S1' E' L' t2 tl' a1' c1' hE hL
                  rw [← hS] at this
                  exact Nat.le_trans this hlr
              have HMS := Lib.hid hms
              have HHEAD2 := Lib.hid hhead
              clear hS hE hL hw2 hg2 ho2 hb2 hwx hms hhead hXX hblk hl6 hp6 hbx hgs hok2 hlr hBR
              go_wp2
              go_roundw
              case rel => exact ⟨true, rfl, .inl ⟨rfl, _, rfl, HHEAD2.out⟩⟩
              case measure => exact HMS.out
            · have hblk := ho.block w7.heap.size (by simp) (by omega) (by omega)
              obtain ⟨d0, d1, d2, d3, d4, df⟩ := vold hblk
              have hT : tot = true := by rw [← HT2.out]; exact okS_empty _ hS
              have HTT := Lib.hid hT
              have hww : w.heap.size ≤ w7.heap.size := hBR.size
              have HBX := Lib.hid (bset (bset (bset (bset (bset hb2 hww (o := 0) (u := .int .i64 0)) hww (o := 1) (u := .int .i64 0)) hww (o := 2) (u := .int .i64 0)) hww (o := 3) (u := .string ⟨#[]⟩)) hww (o := 4) (u := .slice none 0 0))
              have HMS : Hid (∀ w9 : World, M (.bool false) w9 < M (.bool true) wr) := Lib.hid (fun w9 => by rw [HM0.out, HM1.out _ _ _ _ _ _ _ HW.out]; omega)
              clear hS ho hb2 hblk hl6 hp6 hww hBR hT
              go_wp2
              go_roundw
              case rel => exact ⟨false, rfl, .inr ⟨rfl, HTT.out, HBX.out⟩⟩
              case measure => exact HMS.out _
        · have HCV := Lib.hid (fun w => cval_dec w t.n t.x ⟨t.s.toArray⟩ t.a t.l.length t.cap)
          have me : ∀ W : World, (method 249 104 (.agg #[.int .i64 t.n, .int .i64 t.x]) "loop.example/g00502/impl.val").run Tryd.prog W = .ok (133, .agg #[.int .i64 t.n, .int .i64 t.x]) W := fun W => by kernel_rfl
          rw [hB] at HFI
          clear hB
          go_wp2_with fail
          refine (HCO.out _).mono ?_
          rintro e w4 ⟨rfl, hb4⟩
          have HB4 := Lib.hid hb4
          replace c0 := keep_below hb4 c0
          replace c1 := keep_below hb4 c1
          replace c2 := keep_below hb4 c2
          replace c3 := keep_below hb4 c3
          replace c4 := keep_below hb4 c4
          clear hb4
          have hb40 : Below w4.heap.size w4 w4 := Below.refl _ _
          go_wp2_with fail
          go_region_held3 (fun W' => W'.cell? ⟨X, 0, none⟩ = some (.int .i64 t.k) ∧ W'.cell? ⟨X, 1, none⟩ = some (.int .i64 t.n) ∧ W'.cell? ⟨X, 2, none⟩ = some (.int .i64 t.x) ∧ W'.cell? ⟨X, 3, none⟩ = some (.string ⟨t.s.toArray⟩) ∧ W'.cell? ⟨X, 4, none⟩ = some (.slice t.a t.l.length t.cap) ∧ Below w4.heap.size w4 W') (first | (refine ⟨⟨?_, ?_, ?_, ?_, ?_⟩, ?_⟩ <;> assumption) | (refine ⟨?_, ?_, ?_, ?_, ?_, ?_⟩ <;> assumption) | (refine ⟨?_, ?_, ?_, ?_, ?_, Below.drew ?_⟩ <;> assumption) | (refine keep6 (by assumption) ⟨?_, ?_, ?_, ?_, ?_, ?_⟩ <;> assumption)) (first | (go_at_call 60; go_split_ands; ((with_reducible refine (HCK.out _).mono ?_); rintro e w5 ⟨rfl, hb5⟩)) | (go_at_call 133; go_split_ands; ((with_reducible refine (HCV.out _).mono ?_); rintro e w6 ⟨rfl, hb6⟩)) | (go_at_call 61; go_split_ands; ((refine (HFI.out _).mono ?_); rintro e w7 ⟨rfl, hb7⟩)))
          rename_i hH
          have HBF := Lib.hid (HWR.out.trans ((HB4.out.trans (hH.2.2.2.2.2.mono HB4.out.size)).mono HWR.out.size))
          have HB6 := Lib.hid (HB4.out.trans (hH.2.2.2.2.2.mono HB4.out.size))
          obtain ⟨c0, c1, c2, c3, c4, -⟩ := hH
          clear me HFI HCV HCK HCO HB4
          cases B'
          · have HT2 : Hid (tot = false) := Lib.hid (by rw [← HT.out]; rfl)
            clear HT
            go_wp2
            go_ret
            exact ⟨by rw [HT2.out]; rfl, HBF.out⟩
          · have hT2 : okS S = tot := by rw [← HT.out, Bool.true_and]
            have HT2 := Lib.hid hT2
            have hwx := HW.out.blw HB6.out
            have HWX := Lib.hid hwx
            clear HT hT2 hwx
            go_wp2_with fail
            have HWN := Lib.hid (HWX.out.blw (vbox _ (.cells #[.int .i64 t.k, .int .i64 t.n, .int .i64 t.x, .string ⟨t.s.toArray⟩, .slice t.a t.l.length t.cap] 29)))
            refine (next_head (w := w) HWN.out hB (HBF.out.alloc HBF.out.size _) (by have := HL.out; simp only [lr] at this; omega)).mono ?_
            have hl6 := HWX.out.lt
            have hp6 := HWX.out.pB
            have hBR := HBF.out
            rintro e w8 (⟨S1', E', L', t2, tl', a1', c1', g1', cap1', hS, hE, hL, rfl, hw2, hg2, ho2, hb2⟩ | ⟨hS, rfl, ho, hb2⟩)
            · have hblk := ho2.block w7.heap.size (by simp) (by omega) (by omega)
              obtain ⟨d0, d1, d2, d3, d4, df⟩ := vold hblk
              simp only [World.size_alloc] at hg2
              have hXX : w7.heap.size ≠ P ∧ w7.heap.size ≠ g1' ∧ B ≤ w7.heap.size := ⟨by omega, by omega, by omega⟩
              have hwx := setW (o := 4) (u := .slice t2.a t2.l.length t2.cap) (setW (o := 3) (u := .string ⟨t2.s.toArray⟩) (setW (o := 2) (u := .int .i64 t2.x) (setW (o := 1) (u := .int .i64 t2.n) (setW (o := 0) (u := .int .i64 t2.k) hw2 hXX) hXX) hXX) hXX) hXX
              have hww : w.heap.size ≤ w7.heap.size := hBR.size
              have hbx := bset (bset (bset (bset (bset hb2 hww (o := 0) (u := .int .i64 t2.k)) hww (o := 1) (u := .int .i64 t2.n)) hww (o := 2) (u := .int .i64 t2.x)) hww (o := 3) (u := .string ⟨t2.s.toArray⟩)) hww (o := 4) (u := .slice t2.a t2.l.length t2.cap)
              have hgs := HGS.out
              have hok2 := HT2.out
              have hlr := HL.out
              have hms : M (.bool true) (((((w8.setCell ⟨w7.heap.size, 0, none⟩ (.int .i64 t2.k)).setCell ⟨w7.heap.size, 1, none⟩ (.int .i64 t2.n)).setCell ⟨w7.heap.size, 2, none⟩ (.int .i64 t2.x)).setCell ⟨w7.heap.size, 3, none⟩ (.string ⟨t2.s.toArray⟩)).setCell ⟨w7.heap.size, 4, none⟩ (.slice t2.a t2.l.length t2.cap)) < M (.bool true) wr := by
                rw [HM1.out _ _ _ _ _ _ _ hwx, HM1.out _ _ _ _ _ _ _ HW.out, hS, remN_step S1' E' L' t2 tl' a1' c1' hE hL]
                omega
              rw [hS] at hgs hok2
              have hhead : HeadV w (((((w8.setCell ⟨w7.heap.size, 0, none⟩ (.int .i64 t2.k)).setCell ⟨w7.heap.size, 1, none⟩ (.int .i64 t2.n)).setCell ⟨w7.heap.size, 2, none⟩ (.int .i64 t2.x)).setCell ⟨w7.heap.size, 3, none⟩ (.string ⟨t2.s.toArray⟩)).setCell ⟨w7.heap.size, 4, none⟩ (.slice t2.a t2.l.length t2.cap)) B P tot w7.heap.size := by
                refine ⟨g1', cap1', _, _, t2, hwx, ?_, hXX, ⟨hB, hbx⟩, ?_, (hgs.step a1' c1' hL).1, (hgs.step a1' c1' hL).2, ?_⟩
                · refine ⟨?_, ?_, ?_, ?_, ?_⟩ <;> simp [go_sem, d0, d1, d2, d3, d4]
                · rw [← okS_step S1' E' L' t2 tl' a1' c1' hE hL]; exact hok2
                · have := lr_step S1' E' L' t2 tl' a1' c1' hE hL
                  rw [← hS] at this
                  exact Nat.le_trans this hlr
              have HMS := Lib.hid hms
              have HHEAD2 := Lib.hid hhead
              clear hS hE hL hw2 hg2 ho2 hb2 hwx hms hhead hXX hblk hl6 hp6 hbx hgs hok2 hlr hBR
              go_wp2
              go_roundw
              case rel => exact ⟨true, rfl, .inl ⟨rfl, _, rfl, HHEAD2.out⟩⟩
              case measure => exact HMS.out
            · have hblk := ho.block w7.heap.size (by simp) (by omega) (by omega)
              obtain ⟨d0, d1, d2, d3, d4, df⟩ := vold hblk
              have hT : tot = true := by rw [← HT2.out]; exact okS_empty _ hS
              have HTT := Lib.hid hT
              have hww : w.heap.size ≤ w7.heap.size := hBR.size
              have HBX := Lib.hid (bset (bset (bset (bset (bset hb2 hww (o := 0) (u := .int .i64 0)) hww (o := 1) (u := .int .i64 0)) hww (o := 2) (u := .int .i64 0)) hww (o := 3) (u := .string ⟨#[]⟩)) hww (o := 4) (u := .slice none 0 0))
              have HMS : Hid (∀ w9 : World, M (.bool false) w9 < M (.bool true) wr) := Lib.hid (fun w9 => by rw [HM0.out, HM1.out _ _ _ _ _ _ _ HW.out]; omega)
              clear hS ho hb2 hblk hl6 hp6 hww hBR hT
              go_wp2
              go_roundw
              case rel => exact ⟨false, rfl, .inr ⟨rfl, HTT.out, HBX.out⟩⟩
              case measure => exact HMS.out _
        · have HCV := Lib.hid (fun w => cval_text w t.n t.x ⟨t.s.toArray⟩ t.a t.l.length t.cap)
          have me : ∀ W : World, (method 249 105 (.string ⟨t.s.toArray⟩) "loop.example/g00502/impl.val").run Tryd.prog W = .ok (134, .string ⟨t.s.toArray⟩) W := fun W => by kernel_rfl
          rw [hB] at HFI
          clear hB
          go_wp2_with fail
          refine (HCO.out _).mono ?_
          rintro e w4 ⟨rfl, hb4⟩
          have HB4 := Lib.hid hb4
          replace c0 := keep_below hb4 c0
          replace c1 := keep_below hb4 c1
          replace c2 := keep_below hb4 c2
          replace c3 := keep_below hb4 c3
          replace c4 := keep_below hb4 c4
          clear hb4
          have hb40 : Below w4.heap.size w4 w4 := Below.refl _ _
          go_wp2_with fail
          go_region_held3 (fun W' => W'.cell? ⟨X, 0, none⟩ = some (.int .i64 t.k) ∧ W'.cell? ⟨X, 1, none⟩ = some (.int .i64 t.n) ∧ W'.cell? ⟨X, 2, none⟩ = some (.int .i64 t.x) ∧ W'.cell? ⟨X, 3, none⟩ = some (.string ⟨t.s.toArray⟩) ∧ W'.cell? ⟨X, 4, none⟩ = some (.slice t.a t.l.length t.cap) ∧ Below w4.heap.size w4 W') (first | (refine ⟨⟨?_, ?_, ?_, ?_, ?_⟩, ?_⟩ <;> assumption) | (refine ⟨?_, ?_, ?_, ?_, ?_, ?_⟩ <;> assumption) | (refine ⟨?_, ?_, ?_, ?_, ?_, Below.drew ?_⟩ <;> assumption) | (refine keep6 (by assumption) ⟨?_, ?_, ?_, ?_, ?_, ?_⟩ <;> assumption)) (first | (go_at_call 60; go_split_ands; ((with_reducible refine (HCK.out _).mono ?_); rintro e w5 ⟨rfl, hb5⟩)) | (go_at_call 134; go_split_ands; ((with_reducible refine (HCV.out _).mono ?_); rintro e w6 ⟨rfl, hb6⟩)) | (go_at_call 61; go_split_ands; ((refine (HFI.out _).mono ?_); rintro e w7 ⟨rfl, hb7⟩)))
          rename_i hH
          have HBF := Lib.hid (HWR.out.trans ((HB4.out.trans (hH.2.2.2.2.2.mono HB4.out.size)).mono HWR.out.size))
          have HB6 := Lib.hid (HB4.out.trans (hH.2.2.2.2.2.mono HB4.out.size))
          obtain ⟨c0, c1, c2, c3, c4, -⟩ := hH
          clear me HFI HCV HCK HCO HB4
          cases B'
          · have HT2 : Hid (tot = false) := Lib.hid (by rw [← HT.out]; rfl)
            clear HT
            go_wp2
            go_ret
            exact ⟨by rw [HT2.out]; rfl, HBF.out⟩
          · have hT2 : okS S = tot := by rw [← HT.out, Bool.true_and]
            have HT2 := Lib.hid hT2
            have hwx := HW.out.blw HB6.out
            have HWX := Lib.hid hwx
            clear HT hT2 hwx
            go_wp2_with fail
            have HWN := Lib.hid (HWX.out.blw (vbox _ (.cells #[.int .i64 t.k, .int .i64 t.n, .int .i64 t.x, .string ⟨t.s.toArray⟩, .slice t.a t.l.length t.cap] 29)))
            refine (next_head (w := w) HWN.out hB (HBF.out.alloc HBF.out.size _) (by have := HL.out; simp only [lr] at this; omega)).mono ?_
            have hl6 := HWX.out.lt
            have hp6 := HWX.out.pB
            have hBR := HBF.out
            rintro e w8 (⟨S1', E', L', t2, tl', a1', c1', g1', cap1', hS, hE, hL, rfl, hw2, hg2, ho2, hb2⟩ | ⟨hS, rfl, ho, hb2⟩)
            · have hblk := ho2.block w7.heap.size (by simp) (by omega) (by omega)
              obtain ⟨d0, d1, d2, d3, d4, df⟩ := vold hblk
              simp only [World.size_alloc] at hg2
              have hXX : w7.heap.size ≠ P ∧ w7.heap.size ≠ g1' ∧ B ≤ w7.heap.size := ⟨by omega, by omega, by omega⟩
              have hwx := setW (o := 4) (u := .slice t2.a t2.l.length t2.cap) (setW (o := 3) (u := .string ⟨t2.s.toArray⟩) (setW (o := 2) (u := .int .i64 t2.x) (setW (o := 1) (u := .int .i64 t2.n) (setW (o := 0) (u := .int .i64 t2.k) hw2 hXX) hXX) hXX) hXX) hXX
              have hww : w.heap.size ≤ w7.heap.size := hBR.size
              have hbx := bset (bset (bset (bset (bset hb2 hww (o := 0) (u := .int .i64 t2.k)) hww (o := 1) (u := .int .i64 t2.n)) hww (o := 2) (u := .int .i64 t2.x)) hww (o := 3) (u := .string ⟨t2.s.toArray⟩)) hww (o := 4) (u := .slice t2.a t2.l.length t2.cap)
              have hgs := HGS.out
              have hok2 := HT2.out
              have hlr := HL.out
              have hms : M (.bool true) (((((w8.setCell ⟨w7.heap.size, 0, none⟩ (.int .i64 t2.k)).setCell ⟨w7.heap.size, 1, none⟩ (.int .i64 t2.n)).setCell ⟨w7.heap.size, 2, none⟩ (.int .i64 t2.x)).setCell ⟨w7.heap.size, 3, none⟩ (.string ⟨t2.s.toArray⟩)).setCell ⟨w7.heap.size, 4, none⟩ (.slice t2.a t2.l.length t2.cap)) < M (.bool true) wr := by
                rw [HM1.out _ _ _ _ _ _ _ hwx, HM1.out _ _ _ _ _ _ _ HW.out, hS, remN_step S1' E' L' t2 tl' a1' c1' hE hL]
                omega
              rw [hS] at hgs hok2
              have hhead : HeadV w (((((w8.setCell ⟨w7.heap.size, 0, none⟩ (.int .i64 t2.k)).setCell ⟨w7.heap.size, 1, none⟩ (.int .i64 t2.n)).setCell ⟨w7.heap.size, 2, none⟩ (.int .i64 t2.x)).setCell ⟨w7.heap.size, 3, none⟩ (.string ⟨t2.s.toArray⟩)).setCell ⟨w7.heap.size, 4, none⟩ (.slice t2.a t2.l.length t2.cap)) B P tot w7.heap.size := by
                refine ⟨g1', cap1', _, _, t2, hwx, ?_, hXX, ⟨hB, hbx⟩, ?_, (hgs.step a1' c1' hL).1, (hgs.step a1' c1' hL).2, ?_⟩
                · refine ⟨?_, ?_, ?_, ?_, ?_⟩ <;> simp [go_sem, d0, d1, d2, d3, d4]
                · rw [← okS_step S1' E' L' t2 tl' a1' c1' hE hL]; exact hok2
                · have := lr_step S1' E' L' t2 tl' a1' c1' hE hL
                  rw [← hS] at this
                  exact Nat.le_trans this hlr
              have HMS := Lib.hid hms
              have HHEAD2 := Lib.hid hhead
              clear hS hE hL hw2 hg2 ho2 hb2 hwx hms hhead hXX hblk hl6 hp6 hbx hgs hok2 hlr hBR
              go_wp2
              go_roundw
              case rel => exact ⟨true, rfl, .inl ⟨rfl, _, rfl, HHEAD2.out⟩⟩
              case measure => exact HMS.out
            · have hblk := ho.block w7.heap.size (by simp) (by omega) (by omega)
              obtain ⟨d0, d1, d2, d3, d4, df⟩ := vold hblk
              have hT : tot = true := by rw [← HT2.out]; exact okS_empty _ hS
              have HTT := Lib.hid hT
              have hww : w.heap.size ≤ w7.heap.size := hBR.size
              have HBX := Lib.hid (bset (bset (bset (bset (bset hb2 hww (o := 0) (u := .int .i64 0)) hww (o := 1) (u := .int .i64 0)) hww (o := 2) (u := .int .i64 0)) hww (o := 3) (u := .string ⟨#[]⟩)) hww (o := 4) (u := .slice none 0 0))
              have HMS : Hid (∀ w9 : World, M (.bool false) w9 < M (.bool true) wr) := Lib.hid (fun w9 => by rw [HM0.out, HM1.out _ _ _ _ _ _ _ HW.out]; omega)
              clear hS ho hb2 hblk hl6 hp6 hww hBR hT
              go_wp2
              go_roundw
              case rel => exact ⟨false, rfl, .inr ⟨rfl, HTT.out, HBX.out⟩⟩
              case measure => exact HMS.out _
        · have HCV := Lib.hid (fun w => cval_bytes w t.n t.x ⟨t.s.toArray⟩ t.a t.l.length t.cap)
          have me : ∀ W : World, (method 249 106 (.string ⟨t.s.toArray⟩) "loop.example/g00502/impl.val").run Tryd.prog W = .ok (135, .string ⟨t.s.toArray⟩) W := fun W => by kernel_rfl
          rw [hB] at HFI
          clear hB
          go_wp2_with fail
          refine (HCO.out _).mono ?_
          rintro e w4 ⟨rfl, hb4⟩
          have HB4 := Lib.hid hb4
          replace c0 := keep_below hb4 c0
          replace c1 := keep_below hb4 c1
          replace c2 := keep_below hb4 c2
          replace c3 := keep_below hb4 c3
          replace c4 := keep_below hb4 c4
          clear hb4
          have hb40 : Below w4.heap.size w4 w4 := Below.refl _ _
          go_wp2_with fail
          go_region_held3 (fun W' => W'.cell? ⟨X, 0, none⟩ = some (.int .i64 t.k) ∧ W'.cell? ⟨X, 1, none⟩ = some (.int .i64 t.n) ∧ W'.cell? ⟨X, 2, none⟩ = some (.int .i64 t.x) ∧ W'.cell? ⟨X, 3, none⟩ = some (.string ⟨t.s.toArray⟩) ∧ W'.cell? ⟨X, 4, none⟩ = some (.slice t.a t.l.length t.cap) ∧ Below w4.heap.size w4 W') (first | (refine ⟨⟨?_, ?_, ?_, ?_, ?_⟩, ?_⟩ <;> assumption) | (refine ⟨?_, ?_, ?_, ?_, ?_, ?_⟩ <;> assumption) | (refine ⟨?_, ?_, ?_, ?_, ?_, Below.drew ?_⟩ <;> assumption) | (refine keep6 (by assumption) ⟨?_, ?_, ?_, ?_, ?_, ?_⟩ <;> assumption)) (first | (go_at_call 60; go_split_ands; ((with_reducible refine (HCK.out _).mono ?_); rintro e w5 ⟨rfl, hb5⟩)) | (go_at_call 135; go_split_ands; ((with_reducible refine (HCV.out _).mono ?_); rintro e w6 ⟨rfl, hb6⟩)) | (go_at_call 61; go_split_ands; ((refine (HFI.out _).mono ?_); rintro e w7 ⟨rfl, hb7⟩)))
          rename_i hH
          have HBF := Lib.hid (HWR.out.trans ((HB4.out.trans (hH.2.2.2.2.2.mono HB4.out.size)).mono HWR.out.size))
          have HB6 := Lib.hid (HB4.out.trans (hH.2.2.2.2.2.mono HB4.out.size))
          obtain ⟨c0, c1, c2, c3, c4, -⟩ := hH
          clear me HFI HCV HCK HCO HB4
          cases B'
          · have HT2 : Hid (tot = false) := Lib.hid (by rw [← HT.out]; rfl)
            clear HT
            go_wp2
            go_ret
            exact ⟨by rw [HT2.out]; rfl, HBF.out⟩
          · have hT2 : okS S = tot := by rw [← HT.out, Bool.true_and]
            have HT2 := Lib.hid hT2
            have hwx := HW.out.blw HB6.out
            have HWX := Lib.hid hwx
            clear HT hT2 hwx
            go_wp2_with fail
            have HWN := Lib.hid (HWX.out.blw (vbox _ (.cells #[.int .i64 t.k, .int .i64 t.n, .int .i64 t.x, .string ⟨t.s.toArray⟩, .slice t.a t.l.length t.cap] 29)))
            refine (next_head (w := w) HWN.out hB (HBF.out.alloc HBF.out.size _) (by have := HL.out; simp only [lr] at this; omega)).mono ?_
            have hl6 := HWX.out.lt
            have hp6 := HWX.out.pB
            have hBR := HBF.out
            rintro e w8 (⟨S1', E', L', t2, tl', a1', c1', g1', cap1', hS, hE, hL, rfl, hw2, hg2, ho2, hb2⟩ | ⟨hS, rfl, ho, hb2⟩)
            · have hblk := ho2.block w7.heap.size (by simp) (by omega) (by omega)
              obtain ⟨d0, d1, d2, d3, d4, df⟩ := vold hblk
              simp only [World.size_alloc] at hg2
              have hXX : w7.heap.size ≠ P ∧ w7.heap.size ≠ g1' ∧ B ≤ w7.heap.size := ⟨by omega, by omega, by omega⟩
              have hwx := setW (o := 4) (u := .slice t2.a t2.l.length t2.cap) (setW (o := 3) (u := .string ⟨t2.s.toArray⟩) (setW (o := 2) (u := .int .i64 t2.x) (setW (o := 1) (u := .int .i64 t2.n) (setW (o := 0) (u := .int .i64 t2.k) hw2 hXX) hXX) hXX) hXX) hXX
              have hww : w.heap.size ≤ w7.heap.size := hBR.size
              have hbx := bset (bset (bset (bset (bset hb2 hww (o := 0) (u := .int .i64 t2.k)) hww (o := 1) (u := .int .i64 t2.n)) hww (o := 2) (u := .int .i64 t2.x)) hww (o := 3) (u := .string ⟨t2.s.toArray⟩)) hww (o := 4) (u := .slice t2.a t2.l.length t2.cap)
              have hgs := HGS.out
              have hok2 := HT2.out
              have hlr := HL.out
              have hms : M (.bool true) (((((w8.setCell ⟨w7.heap.size, 0, none⟩ (.int .i64 t2.k)).setCell ⟨w7.heap.size, 1, none⟩ (.int .i64 t2.n)).setCell ⟨w7.heap.size, 2, none⟩ (.int .i64 t2.x)).setCell ⟨w7.heap.size, 3, none⟩ (.string ⟨t2.s.toArray⟩)).setCell ⟨w7.heap.size, 4, none⟩ (.slice t2.a t2.l.length t2.cap)) < M (.bool true) wr := by
                rw [HM1.out _ _ _ _ _ _ _ hwx, HM1.out _ _ _ _ _ _ _ HW.out, hS, remN_step S1' E' L' t2 tl' a1' c1' hE hL]
                omega
              rw [hS] at hgs hok2
              have hhead : HeadV w (((((w8.setCell ⟨w7.heap.size, 0, none⟩ (.int .i64 t2.k)).setCell ⟨w7.heap.size, 1, none⟩ (.int .i64 t2.n)).setCell ⟨w7.heap.size, 2, none⟩ (.int .i64 t2.x)).setCell ⟨w7.heap.size, 3, none⟩ (.string ⟨t2.s.toArray⟩)).setCell ⟨w7.heap.size, 4, none⟩ (.slice t2.a t2.l.length t2.cap)) B P tot w7.heap.size := by
                refine ⟨g1', cap1', _, _, t2, hwx, ?_, hXX, ⟨hB, hbx⟩, ?_, (hgs.step a1' c1' hL).1, (hgs.step a1' c1' hL).2, ?_⟩
                · refine ⟨?_, ?_, ?_, ?_, ?_⟩ <;> simp [go_sem, d0, d1, d2, d3, d4]
                · rw [← okS_step S1' E' L' t2 tl' a1' c1' hE hL]; exact hok2
                · have := lr_step S1' E' L' t2 tl' a1' c1' hE hL
                  rw [← hS] at this
                  exact Nat.le_trans this hlr
              have HMS := Lib.hid hms
              have HHEAD2 := Lib.hid hhead
              clear hS hE hL hw2 hg2 ho2 hb2 hwx hms hhead hXX hblk hl6 hp6 hbx hgs hok2 hlr hBR
              go_wp2
              go_roundw
              case rel => exact ⟨true, rfl, .inl ⟨rfl, _, rfl, HHEAD2.out⟩⟩
              case measure => exact HMS.out
            · have hblk := ho.block w7.heap.size (by simp) (by omega) (by omega)
              obtain ⟨d0, d1, d2, d3, d4, df⟩ := vold hblk
              have hT : tot = true := by rw [← HT2.out]; exact okS_empty _ hS
              have HTT := Lib.hid hT
              have hww : w.heap.size ≤ w7.heap.size := hBR.size
              have HBX := Lib.hid (bset (bset (bset (bset (bset hb2 hww (o := 0) (u := .int .i64 0)) hww (o := 1) (u := .int .i64 0)) hww (o := 2) (u := .int .i64 0)) hww (o := 3) (u := .string ⟨#[]⟩)) hww (o := 4) (u := .slice none 0 0))
              have HMS : Hid (∀ w9 : World, M (.bool false) w9 < M (.bool true) wr) := Lib.hid (fun w9 => by rw [HM0.out, HM1.out _ _ _ _ _ _ _ HW.out]; omega)
              clear hS ho hb2 hblk hl6 hp6 hww hBR hT
              go_wp2
              go_roundw
              case rel => exact ⟨false, rfl, .inr ⟨rfl, HTT.out, HBX.out⟩⟩
              case measure => exact HMS.out _
        · have HCV := Lib.hid (fun w => cval_list w t.n t.x ⟨t.s.toArray⟩ t.a t.l.length t.cap)
          have me : ∀ W : World, (method 249 107 (.slice t.a t.l.length t.cap) "loop.example/g00502/impl.val").run Tryd.prog W = .ok (136, .slice t.a t.l.length t.cap) W := fun W => by kernel_rfl
          rw [hB] at HFI
          clear hB
          go_wp2_with fail
          refine (HCO.out _).mono ?_
          rintro e w4 ⟨rfl, hb4⟩
          have HB4 := Lib.hid hb4
          replace c0 := keep_below hb4 c0
          replace c1 := keep_below hb4 c1
          replace c2 := keep_below hb4 c2
          replace c3 := keep_below hb4 c3
          replace c4 := keep_below hb4 c4
          clear hb4
          have hb40 : Below w4.heap.size w4 w4 := Below.refl _ _
          go_wp2_with fail
          go_region_held3 (fun W' => W'.cell? ⟨X, 0, none⟩ = some (.int .i64 t.k) ∧ W'.cell? ⟨X, 1, none⟩ = some (.int .i64 t.n) ∧ W'.cell? ⟨X, 2, none⟩ = some (.int .i64 t.x) ∧ W'.cell? ⟨X, 3, none⟩ = some (.string ⟨t.s.toArray⟩) ∧ W'.cell? ⟨X, 4, none⟩ = some (.slice t.a t.l.length t.cap) ∧ Below w4.heap.size w4 W') (first | (refine ⟨⟨?_, ?_, ?_, ?_, ?_⟩, ?_⟩ <;> assumption) | (refine ⟨?_, ?_, ?_, ?_, ?_, ?_⟩ <;> assumption) | (refine ⟨?_, ?_, ?_, ?_, ?_, Below.drew ?_⟩ <;> assumption) | (refine keep6 (by assumption) ⟨?_, ?_, ?_, ?_, ?_, ?_⟩ <;> assumption)) (first | (go_at_call 60; go_split_ands; ((with_reducible refine (HCK.out _).mono ?_); rintro e w5 ⟨rfl, hb5⟩)) | (go_at_call 136; go_split_ands; ((with_reducible refine (HCV.out _).mono ?_); rintro e w6 ⟨rfl, hb6⟩)) | (go_at_call 61; go_split_ands; ((refine (HFI.out _).mono ?_); rintro e w7 ⟨rfl, hb7⟩)))
          rename_i hH
          have HBF := Lib.hid (HWR.out.trans ((HB4.out.trans (hH.2.2.2.2.2.mono HB4.out.size)).mono HWR.out.size))
          have HB6 := Lib.hid (HB4.out.trans (hH.2.2.2.2.2.mono HB4.out.size))
          obtain ⟨c0, c1, c2, c3, c4, -⟩ := hH
          clear me HFI HCV HCK HCO HB4
          cases B'
          · have HT2 : Hid (tot = false) := Lib.hid (by rw [← HT.out]; rfl)
            clear HT
            go_wp2
            go_ret
            exact ⟨by rw [HT2.out]; rfl, HBF.out⟩
          · have hT2 : okS S = tot := by rw [← HT.out, Bool.true_and]
            have HT2 := Lib.hid hT2
            have hwx := HW.out.blw HB6.out
            have HWX := Lib.hid hwx
            clear HT hT2 hwx
            go_wp2_with fail
            have HWN := Lib.hid (HWX.out.blw (vbox _ (.cells #[.int .i64 t.k, .int .i64 t.n, .int .i64 t.x, .string ⟨t.s.toArray⟩, .slice t.a t.l.length t.cap] 29)))
            refine (next_head (w := w) HWN.out hB (HBF.out.alloc HBF.out.size _) (by have := HL.out; simp only [lr] at this; omega)).mono ?_
            have hl6 := HWX.out.lt
            have hp6 := HWX.out.pB
            have hBR := HBF.out
            rintro e w8 (⟨S1', E', L', t2, tl', a1', c1', g1', cap1', hS, hE, hL, rfl, hw2, hg2, ho2, hb2⟩ | ⟨hS, rfl, ho, hb2⟩)
            · have hblk := ho2.block w7.heap.size (by simp) (by omega) (by omega)
              obtain ⟨d0, d1, d2, d3, d4, df⟩ := vold hblk
              simp only [World.size_alloc] at hg2
              have hXX : w7.heap.size ≠ P ∧ w7.heap.size ≠ g1' ∧ B ≤ w7.heap.size := ⟨by omega, by omega, by omega⟩
              have hwx := setW (o := 4) (u := .slice t2.a t2.l.length t2.cap) (setW (o := 3) (u := .string ⟨t2.s.toArray⟩) (setW (o := 2) (u := .int .i64 t2.x) (setW (o := 1) (u := .int .i64 t2.n) (setW (o := 0) (u := .int .i64 t2.k) hw2 hXX) hXX) hXX) hXX) hXX
              have hww : w.heap.size ≤ w7.heap.size := hBR.size
              have hbx := bset (bset (bset (bset (bset hb2 hww (o := 0) (u := .int .i64 t2.k)) hww (o := 1) (u := .int .i64 t2.n)) hww (o := 2) (u := .int .i64 t2.x)) hww (o := 3) (u := .string ⟨t2.s.toArray⟩)) hww (o := 4) (u := .slice t2.a t2.l.length t2.cap)
              have hgs := HGS.out
              have hok2 := HT2.out
              have hlr := HL.out
              have hms : M (.bool true) (((((w8.setCell ⟨w7.heap.size, 0, none⟩ (.int .i64 t2.k)).setCell ⟨w7.heap.size, 1, none⟩ (.int .i64 t2.n)).setCell ⟨w7.heap.size, 2, none⟩ (.int .i64 t2.x)).setCell ⟨w7.heap.size, 3, none⟩ (.string ⟨t2.s.toArray⟩)).setCell ⟨w7.heap.size, 4, none⟩ (.slice t2.a t2.l.length t2.cap)) < M (.bool true) wr := by
                rw [HM1.out _ _ _ _ _ _ _ hwx, HM1.out _ _ _ _ _ _ _ HW.out, hS, remN_step S1' E' L' t2 tl' a1' c1' hE hL]
                omega
              rw [hS] at hgs hok2
              have hhead : HeadV w (((((w8.setCell ⟨w7.heap.size, 0, none⟩ (.int .i64 t2.k)).setCell ⟨w7.heap.size, 1, none⟩ (.int .i64 t2.n)).setCell ⟨w7.heap.size, 2, none⟩ (.int .i64 t2.x)).setCell ⟨w7.heap.size, 3, none⟩ (.string ⟨t2.s.toArray⟩)).setCell ⟨w7.heap.size, 4, none⟩ (.slice t2.a t2.l.length t2.cap)) B P tot w7.heap.size := by
                refine ⟨g1', cap1', _, _, t2, hwx, ?_, hXX, ⟨hB, hbx⟩, ?_, (hgs.step a1' c1' hL).1, (hgs.step a1' c1' hL).2, ?_⟩
                · refine ⟨?_, ?_, ?_, ?_, ?_⟩ <;> simp [go_sem, d0, d1, d2, d3, d4]
                · rw [← okS_step S1' E' L' t2 tl' a1' c1' hE hL]; exact hok2
                · have := lr_step S1' E' L' t2 tl' a1' c1' hE hL
                  rw [← hS] at this
                  exact Nat.le_trans this hlr
              have HMS := Lib.hid hms
              have HHEAD2 := Lib.hid hhead
              clear hS hE hL hw2 hg2 ho2 hb2 hwx hms hhead hXX hblk hl6 hp6 hbx hgs hok2 hlr hBR
              go_wp2
              go_roundw
              case rel => exact ⟨true, rfl, .inl ⟨rfl, _, rfl, HHEAD2.out⟩⟩
              case measure => exact HMS.out
            · have hblk := ho.block w7.heap.size (by simp) (by omega) (by omega)
              obtain ⟨d0, d1, d2, d3, d4, df⟩ := vold hblk
              have hT : tot = true := by rw [← HT2.out]; exact okS_empty _ hS
              have HTT := Lib.hid hT
              have hww : w.heap.size ≤ w7.heap.size := hBR.size
              have HBX := Lib.hid (bset (bset (bset (bset (bset hb2 hww (o := 0) (u := .int .i64 0)) hww (o := 1) (u := .int .i64 0)) hww (o := 2) (u := .int .i64 0)) hww (o := 3) (u := .string ⟨#[]⟩)) hww (o := 4) (u := .slice none 0 0))
              have HMS : Hid (∀ w9 : World, M (.bool false) w9 < M (.bool true) wr) := Lib.hid (fun w9 => by rw [HM0.out, HM1.out _ _ _ _ _ _ _ HW.out]; omega)
              clear hS ho hb2 hblk hl6 hp6 hww hBR hT
              go_wp2
              go_roundw
              case rel => exact ⟨false, rfl, .inr ⟨rfl, HTT.out, HBX.out⟩⟩
              case measure => exact HMS.out _
        · have HCV := Lib.hid (fun w => cval_map w t.n t.x ⟨t.s.toArray⟩ t.a t.l.length t.cap)
          have me : ∀ W : World, (method 249 108 (.slice t.a t.l.length t.cap) "loop.example/g00502/impl.val").run Tryd.prog W = .ok (137, .slice t.a t.l.length t.cap) W := fun W => by kernel_rfl
          rw [hB] at HFI
          clear hB
          go_wp2_with fail
          refine (HCO.out _).mono ?_
          rintro e w4 ⟨rfl, hb4⟩
          have HB4 := Lib.hid hb4
          replace c0 := keep_below hb4 c0
          replace c1 := keep_below hb4 c1
          replace c2 := keep_below hb4 c2
          replace c3 := keep_below hb4 c3
          replace c4 := keep_below hb4 c4
          clear hb4
          have hb40 : Below w4.heap.size w4 w4 := Below.refl _ _
          go_wp2_with fail
          go_region_held3 (fun W' => W'.cell? ⟨X, 0, none⟩ = some (.int .i64 t.k) ∧ W'.cell? ⟨X, 1, none⟩ = some (.int .i64 t.n) ∧ W'.cell? ⟨X, 2, none⟩ = some (.int .i64 t.x) ∧ W'.cell? ⟨X, 3, none⟩ = some (.string ⟨t.s.toArray⟩) ∧ W'.cell? ⟨X, 4, none⟩ = some (.slice t.a t.l.length t.cap) ∧ Below w4.heap.size w4 W') (first | (refine ⟨⟨?_, ?_, ?_, ?_, ?_⟩, ?_⟩ <;> assumption) | (refine ⟨?_, ?_, ?_, ?_, ?_, ?_⟩ <;> assumption) | (refine ⟨?_, ?_, ?_, ?_, ?_, Below.drew ?_⟩ <;> assumption) | (refine keep6 (by assumption) ⟨?_, ?_, ?_, ?_, ?_, ?_⟩ <;> assumption)) (first | (go_at_call 60; go_split_ands; ((with_reducible refine (HCK.out _).mono ?_); rintro e w5 ⟨rfl, hb5⟩)) | (go_at_call 137; go_split_ands; ((with_reducible refine (HCV.out _).mono ?_); rintro e w6 ⟨rfl, hb6⟩)) | (go_at_call 61; go_split_ands; ((refine (HFI.out _).mono ?_); rintro e w7 ⟨rfl, hb7⟩)))
          rename_i hH
          have HBF := Lib.hid (HWR.out.trans ((HB4.out.trans (hH.2.2.2.2.2.mono HB4.out.size)).mono HWR.out.size))
          have HB6 := Lib.hid (HB4.out.trans (hH.2.2.2.2.2.mono HB4.out.size))
          obtain ⟨c0, c1, c2, c3, c4, -⟩ := hH
          clear me HFI HCV HCK HCO HB4
          cases B'
          · have HT2 : Hid (tot = false) := Lib.hid (by rw [← HT.out]; rfl)
            clear HT
            go_wp2
            go_ret
            exact ⟨by rw [HT2.out]; rfl, HBF.out⟩
          · have hT2 : okS S = tot := by rw [← HT.out, Bool.true_and]
            have HT2 := Lib.hid hT2
            have hwx := HW.out.blw HB6.out
            have HWX := Lib.hid hwx
            clear HT hT2 hwx
            go_wp2_with fail
            have HWN := Lib.hid (HWX.out.blw (vbox _ (.cells #[.int .i64 t.k, .int .i64 t.n, .int .i64 t.x, .string ⟨t.s.toArray⟩, .slice t.a t.l.length t.cap] 29)))
            refine (next_head (w := w) HWN.out hB (HBF.out.alloc HBF.out.size _) (by have := HL.out; simp only [lr] at this; omega)).mono ?_
            have hl6 := HWX.out.lt
            have hp6 := HWX.out.pB
            have hBR := HBF.out
            rintro e w8 (⟨S1', E', L', t2, tl', a1', c1', g1', cap1', hS, hE, hL, rfl, hw2, hg2, ho2, hb2⟩ | ⟨hS, rfl, ho, hb2⟩)
            · have hblk := ho2.block w7.heap.size (by simp) (by omega) (by omega)
              obtain ⟨d0, d1, d2, d3, d4, df⟩ := vold hblk
              simp only [World.size_alloc] at hg2
              have hXX : w7.heap.size ≠ P ∧ w7.heap.size ≠ g1' ∧ B ≤ w7.heap.size := ⟨by omega, by omega, by omega⟩
              have hwx := setW (o := 4) (u := .slice t2.a t2.l.length t2.cap) (setW (o := 3) (u := .string ⟨t2.s.toArray⟩) (setW (o := 2) (u := .int .i64 t2.x) (setW (o := 1) (u := .int .i64 t2.n) (setW (o := 0) (u := .int .i64 t2.k) hw2 hXX) hXX) hXX) hXX) hXX
              have hww : w.heap.size ≤ w7.heap.size := hBR.size
              have hbx := bset (bset (bset (bset (bset hb2 hww (o := 0) (u := .int .i64 t2.k)) hww (o := 1) (u := .int .i64 t2.n)) hww (o := 2) (u := .int .i64 t2.x)) hww (o := 3) (u := .string ⟨t2.s.toArray⟩)) hww (o := 4) (u := .slice t2.a t2.l.length t2.cap)
              have hgs := HGS.out
              have hok2 := HT2.out
              have hlr := HL.out
              have hms : M (.bool true) (((((w8.setCell ⟨w7.heap.size, 0, none⟩ (.int .i64 t2.k)).setCell ⟨w7.heap.size, 1, none⟩ (.int .i64 t2.n)).setCell ⟨w7.heap.size, 2, none⟩ (.int .i64 t2.x)).setCell ⟨w7.heap.size, 3, none⟩ (.string ⟨t2.s.toArray⟩)).setCell ⟨w7.heap.size, 4, none⟩ (.slice t2.a t2.l.length t2.cap)) < M (.bool true) wr := by
                rw [HM1.out _ _ _ _ _ _ _ hwx, HM1.out _ _ _ _ _ _ _ HW.out, hS, remN_step S1' E' L' t2 tl' a1' c1' hE hL]
                omega
              rw [hS] at hgs hok2
              have hhead : HeadV w (((((w8.setCell ⟨w7.heap.size, 0, none⟩ (.int .i64 t2.k)).setCell ⟨w7.heap.size, 1, none⟩ (.int .i64 t2.n)).setCell ⟨w7.heap.size, 2, none⟩ (.int .i64 t2.x)).setCell ⟨w7.heap.size, 3, none⟩ (.string ⟨t2.s.toArray⟩)).setCell ⟨w7.heap.size, 4, none⟩ (.slice t2.a t2.l.length t2.cap)) B P tot w7.heap.size := by
                refine ⟨g1', cap1', _, _, t2, hwx, ?_, hXX, ⟨hB, hbx⟩, ?_, (hgs.step a1' c1' hL).1, (hgs.step a1' c1' hL).2, ?_⟩
                · refine ⟨?_, ?_, ?_, ?_, ?_⟩ <;> simp [go_sem, d0, d1, d2, d3, d4]
                · rw [← okS_step S1' E' L' t2 tl' a1' c1' hE hL]; exact hok2
                · have := lr_step S1' E' L' t2 tl' a1' c1' hE hL
                  rw [← hS] at this
                  exact Nat.le_trans this hlr
              have HMS := Lib.hid hms
              have HHEAD2 := Lib.hid hhead
              clear hS hE hL hw2 hg2 ho2 hb2 hwx hms hhead hXX hblk hl6 hp6 hbx hgs hok2 hlr hBR
              go_wp2
              go_roundw
              case rel => exact ⟨true, rfl, .inl ⟨rfl, _, rfl, HHEAD2.out⟩⟩
              case measure => exact HMS.out
            · have hblk := ho.block w7.heap.size (by simp) (by omega) (by omega)
              obtain ⟨d0, d1, d2, d3, d4, df⟩ := vold hblk
              have hT : tot = true := by rw [← HT2.out]; exact okS_empty _ hS
              have HTT := Lib.hid hT
              have hww : w.heap.size ≤ w7.heap.size := hBR.size
              have HBX := Lib.hid (bset (bset (bset (bset (bset hb2 hww (o := 0) (u := .int .i64 0)) hww (o := 1) (u := .int .i64 0)) hww (o := 2) (u := .int .i64 0)) hww (o := 3) (u := .string ⟨#[]⟩)) hww (o := 4) (u := .slice none 0 0))
              have HMS : Hid (∀ w9 : World, M (.bool false) w9 < M (.bool true) wr) := Lib.hid (fun w9 => by rw [HM0.out, HM1.out _ _ _ _ _ _ _ HW.out]; omega)
              clear hS ho hb2 hblk hl6 hp6 hww hBR hT
              go_wp2
              go_roundw
              case rel => exact ⟨false, rfl, .inr ⟨rfl, HTT.out, HBX.out⟩⟩
              case measure => exact HMS.out _
        · have HCV := Lib.hid (fun w => cval_tag w t.n t.x ⟨t.s.toArray⟩ t.a t.l.length t.cap)
          have me : ∀ W : World, (method 249 110 (.agg #[.int .i64 t.n, .slice t.a t.l.length t.cap]) "loop.example/g00502/impl.val").run Tryd.prog W = .ok (138, .agg #[.int .i64 t.n, .slice t.a t.l.length t.cap]) W := fun W => by kernel_rfl
          rw [hB] at HFI
          clear hB
          go_wp2_with fail
          refine (HCO.out _).mono ?_
          rintro e w4 ⟨rfl, hb4⟩
          have HB4 := Lib.hid hb4
          replace c0 := keep_below hb4 c0
          replace c1 := keep_below hb4 c1
          replace c2 := keep_below hb4 c2
          replace c3 := keep_below hb4 c3
          replace c4 := keep_below hb4 c4
          clear hb4
          have hb40 : Below w4.heap.size w4 w4 := Below.refl _ _
          go_wp2_with fail
          go_region_held3 (fun W' => W'.cell? ⟨X, 0, none⟩ = some (.int .i64 t.k) ∧ W'.cell? ⟨X, 1, none⟩ = some (.int .i64 t.n) ∧ W'.cell? ⟨X, 2, none⟩ = some (.int .i64 t.x) ∧ W'.cell? ⟨X, 3, none⟩ = some (.string ⟨t.s.toArray⟩) ∧ W'.cell? ⟨X, 4, none⟩ = some (.slice t.a t.l.length t.cap) ∧ Below w4.heap.size w4 W') (first | (refine ⟨⟨?_, ?_, ?_, ?_, ?_⟩, ?_⟩ <;> assumption) | (refine ⟨?_, ?_, ?_, ?_, ?_, ?_⟩ <;> assumption) | (refine ⟨?_, ?_, ?_, ?_, ?_, Below.drew ?_⟩ <;> assumption) | (refine keep6 (by assumption) ⟨?_, ?_, ?_, ?_, ?_, ?_⟩ <;> assumption)) (first | (go_at_call 60; go_split_ands; ((with_reducible refine (HCK.out _).mono ?_); rintro e w5 ⟨rfl, hb5⟩)) | (go_at_call 138; go_split_ands; ((with_reducible refine (HCV.out _).mono ?_); rintro e w6 ⟨rfl, hb6⟩)) | (go_at_call 61; go_split_ands; ((refine (HFI.out _).mono ?_); rintro e w7 ⟨rfl, hb7⟩)))
          rename_i hH
          have HBF := Lib.hid (HWR.out.trans ((HB4.out.trans (hH.2.2.2.2.2.mono HB4.out.size)).mono HWR.out.size))
          have HB6 := Lib.hid (HB4.out.trans (hH.2.2.2.2.2.mono HB4.out.size))
          obtain ⟨c0, c1, c2, c3, c4, -⟩ := hH
          clear me HFI HCV HCK HCO HB4
          cases B'
          · have HT2 : Hid (tot = false) := Lib.hid (by rw [← HT.out]; rfl)
            clear HT
            go_wp2
            go_ret
            exact ⟨by rw [HT2.out]; rfl, HBF.out⟩
          · have hT2 : okS S = tot := by rw [← HT.out, Bool.true_and]
            have HT2 := Lib.hid hT2
            have hwx := HW.out.blw HB6.out
            have HWX := Lib.hid hwx
            clear HT hT2 hwx
            go_wp2_with fail
            have HWN := Lib.hid (HWX.out.blw (vbox _ (.cells #[.int .i64 t.k, .int .i64 t.n, .int .i64 t.x, .string ⟨t.s.toArray⟩, .slice t.a t.l.length t.cap] 29)))
            refine (next_head (w := w) HWN.out hB (HBF.out.alloc HBF.out.size _) (by have := HL.out; simp only [lr] at this; omega)).mono ?_
            have hl6 := HWX.out.lt
            have hp6 := HWX.out.pB
            have hBR := HBF.out
            rintro e w8 (⟨S1', E', L', t2, tl', a1', c1', g1', cap1', hS, hE, hL, rfl, hw2, hg2, ho2, hb2⟩ | ⟨hS, rfl, ho, hb2⟩)
            · have hblk := ho2.block w7.heap.size (by simp) (by omega) (by omega)
              obtain ⟨d0, d1, d2, d3, d4, df⟩ := vold hblk
              simp only [World.size_alloc] at hg2
              have hXX : w7.heap.size ≠ P ∧ w7.heap.size ≠ g1' ∧ B ≤ w7.heap.size := ⟨by omega, by omega, by omega⟩
              have hwx := setW (o := 4) (u := .slice t2.a t2.l.length t2.cap) (setW (o := 3) (u := .string ⟨t2.s.toArray⟩) (setW (o := 2) (u := .int .i64 t2.x) (setW (o := 1) (u := .int .i64 t2.n) (setW (o := 0) (u := .int .i64 t2.k) hw2 hXX) hXX) hXX) hXX) hXX
              have hww : w.heap.size ≤ w7.heap.size := hBR.size
              have hbx := bset (bset (bset (bset (bset hb2 hww (o := 0) (u := .int .i64 t2.k)) hww (o := 1) (u := .int .i64 t2.n)) hww (o := 2) (u := .int .i64 t2.x)) hww (o := 3) (u := .string ⟨t2.s.toArray⟩)) hww (o := 4) (u := .slice t2.a t2.l.length t2.cap)
              have hgs := HGS.out
              have hok2 := HT2.out
              have hlr := HL.out
              have hms : M (.bool true) (((((w8.setCell ⟨w7.heap.size, 0, none⟩ (.int .i64 t2.k)).setCell ⟨w7.heap.size, 1, none⟩ (.int .i64 t2.n)).setCell ⟨w7.heap.size, 2, none⟩ (.int .i64 t2.x)).setCell ⟨w7.heap.size, 3, none⟩ (.string ⟨t2.s.toArray⟩)).setCell ⟨w7.heap.size, 4, none⟩ (.slice t2.a t2.l.length t2.cap)) < M (.bool true) wr := by
                rw [HM1.out _ _ _ _ _ _ _ hwx, HM1.out _ _ _ _ _ _ _ HW.out, hS, remN_step S1' E' L' t2 tl' a1' c1' hE hL]
                omega
              rw [hS] at hgs hok2
              have hhead : HeadV w (((((w8.setCell ⟨w7.heap.size, 0, none⟩ (.int .i64 t2.k)).setCell ⟨w7.heap.size, 1, none⟩ (.int .i64 t2.n)).setCell ⟨w7.heap.size, 2, none⟩ (.int .i64 t2.x)).setCell ⟨w7.heap.size, 3, none⟩ (.string ⟨t2.s.toArray⟩)).setCell ⟨w7.heap.size, 4, none⟩ (.slice t2.a t2.l.length t2.cap)) B P tot w7.heap.size := by
                refine ⟨g1', cap1', _, _, t2, hwx, ?_, hXX, ⟨hB, hbx⟩, ?_, (hgs.step a1' c1' hL).1, (hgs.step a1' c1' hL).2, ?_⟩
                · refine ⟨?_, ?_, ?_, ?_, ?_⟩ <;> simp [go_sem, d0, d1, d2, d3, d4]
                · rw [← okS_step S1' E' L' t2 tl' a1' c1' hE hL]; exact hok2
                · have := lr_step S1' E' L' t2 tl' a1' c1' hE hL
                  rw [← hS] at this
                  exact Nat.le_trans this hlr
              have HMS := Lib.hid hms
              have HHEAD2 := Lib.hid hhead
              clear hS hE hL hw2 hg2 ho2 hb2 hwx hms hhead hXX hblk hl6 hp6 hbx hgs hok2 hlr hBR
              go_wp2
              go_roundw
              case rel => exact ⟨true, rfl, .inl ⟨rfl, _, rfl, HHEAD2.out⟩⟩
              case measure => exact HMS.out
            · have hblk := ho.block w7.heap.size (by simp) (by omega) (by omega)
              obtain ⟨d0, d1, d2, d3, d4, df⟩ := vold hblk
              have hT : tot = true := by rw [← HT2.out]; exact okS_empty _ hS
              have HTT := Lib.hid hT
              have hww : w.heap.size ≤ w7.heap.size := hBR.size
              have HBX := Lib.hid (bset (bset (bset (bset (bset hb2 hww (o := 0) (u := .int .i64 0)) hww (o := 1) (u := .int .i64 0)) hww (o := 2) (u := .int .i64 0)) hww (o := 3) (u := .string ⟨#[]⟩)) hww (o := 4) (u := .slice none 0 0))
              have HMS : Hid (∀ w9 : World, M (.bool false) w9 < M (.bool true) wr) := Lib.hid (fun w9 => by rw [HM0.out, HM1.out _ _ _ _ _ _ _ HW.out]; omega)
              clear hS ho hb2 hblk hl6 hp6 hww hBR hT
              go_wp2
              go_roundw
              case rel => exact ⟨false, rfl, .inr ⟨rfl, HTT.out, HBX.out⟩⟩
              case measure => exact HMS.out _
    · have HBF := Lib.hid hbf
      have HCC := Lib.hid hcC
      clear hbf hcC
      go_wp2
      go_ret
      exact ⟨by rw [HCC.out]; rfl, HBF.out⟩
end Go.Proofs.YtilgncebhgplaaaDoor
