/- The text of a step: the program. -/
import Derived.Test.YtgfebmnlcihpnaaDoorPathText
namespace Go.Proofs.YtgfebmnlcihpnaaDoor
open Go.RowKit
set_option maxRecDepth 100000
theorem tab_below {w w' : World} (hb : Below w.heap.size w w') (h : Lib.TabIs Tryd.prog w "internal/strconv.uint64pow10" .u64 Lib.pow10Tab) : Lib.TabIs Tryd.prog w' "internal/strconv.uint64pow10" .u64 Lib.pow10Tab := by
  unfold Lib.TabIs at h ⊢
  exact var_below hb h
set_option maxHeartbeats 4000000 in
theorem pairtext_impl (T : AT) (q : Nat) (w : World) (N : Nat) (hin : T.In w N) (hN : N ≤ w.heap.size) (h1 : 2 * q < T.l.length) (hsz : T.pt.sz ≤ 1048576) (htab : Lib.TabIs Tryd.prog w "internal/strconv.uint64pow10" .u64 Lib.pow10Tab) :
    Calls Tryd.prog 65 #[T.val, .int .i64 q] w fun e w' => e = .returned (.string ⟨(pairTx T.pt q).toArray⟩) ∧ Below w.heap.size w w' := by
  have hll : T.l.length ≤ 1048576 := by have := len_le_sz T; omega
  have HNT := Lib.hid (fun W (hb : Below w.heap.size w W) => numtext_impl (q : Int) W (by omega) (by omega) (tab_below hb htab))
  have hD := itoa_len (q : Int) (by omega)
  have H := Lib.hid hin.lv'
  have hpn := pair_name (T := T) (i := (q : Int)) (by simpa using h1)
  rw [hpn]
  clear hpn hin htab
  simp only [Int.toNat_natCast]
  obtain ⟨bb, oo, ha, hbN, hC⟩ := H.out.cell (2 * q) h1
  have hus : (T.l[2 * q]).s.length ≤ 1048576 := len_text _ (Nat.le_trans (sz_sub (by rw [ptl]; exact List.mem_map_of_mem (List.getElem_mem h1))) hsz)
  obtain ⟨f0, f1, f2, f3, f4⟩ := hC
  obtain ⟨U, hU⟩ : ∃ U, U = T.l[2 * q] := ⟨_, rfl⟩
  rw [← hU] at f0 f1 f2 f3 f4 hus
  simp only [← hU]
  have hbb : bb < w.heap.size := by omega
  have k0 := fun o => keep_below (vbox w o) f0
  have k1 := fun o => keep_below (vbox w o) f1
  have k2 := fun o => keep_below (vbox w o) f2
  have k3 := fun o => keep_below (vbox w o) f3
  have k4 := fun o => keep_below (vbox w o) f4
  have hw2 : IntKind.i64.wrap (2 * (q : Int)) = 2 * (q : Int) := IntWalk.i64_in _ (by omega)
  have hq1 : 2 * (q : Int) < T.l.length := by omega
  have hq0 : 0 ≤ 2 * (q : Int) := by omega
  obtain ⟨Ta, hTa⟩ : ∃ Ta, Ta = T.a := ⟨_, rfl⟩
  show Calls Tryd.prog 65 #[.agg #[.int .i64 T.k, .int .i64 T.n, .int .i64 T.x, .string ⟨T.s.toArray⟩, .slice T.a T.l.length T.cap], .int .i64 q] w _
  rw [ha]
  generalize Lib.itoa (q : Int) = D at *
  clear hU ha hTa
  by_cases hu : U.k = 7
  · rw [if_pos hu]
    have hub : (U.k == 7) = true := by simpa using hu
    go_enter Tryd.func65, Tryd.ntmps65
    go_wp2
    go_ret
    exact ⟨rfl, boxes2 _ _ _⟩
  · rw [if_neg hu]
    have hub : (U.k == 7) = false := by simpa using hu
    have hb2 : Below w.heap.size w ((w.alloc (.cells #[.int .i64 T.k, .int .i64 T.n, .int .i64 T.x, .string ⟨T.s.toArray⟩, .slice (some ⟨bb, oo, none⟩) T.l.length T.cap] 26)).alloc (.cells #[.int .i64 U.k, .int .i64 U.n, .int .i64 U.x, .string ⟨U.s.toArray⟩, .slice U.a U.l.length U.cap] 26)) := boxes2 _ _ _
    have HB2 := Lib.hid hb2
    go_enter Tryd.func65, Tryd.ntmps65
    go_wp2_with fail
    refine (HNT.out _ HB2.out).mono ?_
    rintro e w2 ⟨rfl, hb3⟩
    have HB3 := Lib.hid (HB2.out.trans (hb3.mono HB2.out.size))
    clear hb3 hb2 k0 k1 k2 k3 k4 f0 f1 f2 f3 f4
    go_wp2
    go_ret
    refine ⟨str_ret ?_, HB3.out⟩
    simp only [lit1, lit2, cat_eq]
    try simp
set_option maxHeartbeats 4000000 in
theorem steptext_impl (T : AT) (s : St) (j : Nat) (w : World) (N : Nat) (hin : T.In w N) (hN : N ≤ w.heap.size) (hp : plc T.k T.l.length s = some j) (hsz : T.pt.sz ≤ 1048576) (hi : -9223372036854775808 ≤ s.1 ∧ s.1 ≤ 9223372036854775807) (htab : Lib.TabIs Tryd.prog w "internal/strconv.uint64pow10" .u64 Lib.pow10Tab) :
    Calls Tryd.prog 44 #[T.val, s.val] w fun e w' => e = .returned (.string ⟨(stepTx T.pt s).toArray⟩) ∧ Below w.heap.size w w' := by
  have hll : T.l.length ≤ 1048576 := by have := len_le_sz T; omega
  obtain ⟨i, b⟩ := s
  have hD := itoa_len i hi
  have HNT := Lib.hid (fun W (hb : Below w.heap.size w W) => numtext_impl i W hi.1 hi.2 (tab_below hb htab))
  have hP := pair_bound T i hsz hi
  obtain ⟨W0, hW0⟩ : ∃ W0, W0 = (w.alloc (.cells #[.int .i64 T.k, .int .i64 T.n, .int .i64 T.x, .string ⟨T.s.toArray⟩, .slice T.a T.l.length T.cap] 26)).alloc (.cells #[.int .i64 i, .bool b] 34) := ⟨_, rfl⟩
  have hbx : Below w.heap.size w W0 := by rw [hW0]; exact boxes2 _ _ _
  have hvc : VC W0 w.heap.size T.k T.n T.x ⟨T.s.toArray⟩ T.a T.l.length T.cap := by rw [hW0]; refine ⟨?_, ?_, ?_, ?_, ?_⟩ <;> simp [go_sem]
  have hsb : W0.cell? ⟨w.heap.size + 1, 0, none⟩ = some (.int .i64 i) ∧ W0.cell? ⟨w.heap.size + 1, 1, none⟩ = some (.bool b) := by rw [hW0]; constructor <;> simp [go_sem]
  have HBX := Lib.hid hbx
  have HVC := Lib.hid hvc
  have HSBX := Lib.hid hsb
  have HW0 := Lib.hid hW0.symm
  clear hbx hvc hsb hW0
  show Calls Tryd.prog 44 #[.agg #[.int .i64 T.k, .int .i64 T.n, .int .i64 T.x, .string ⟨T.s.toArray⟩, .slice T.a T.l.length T.cap], .agg #[.int .i64 i, .bool b]] w _
  by_cases hk : T.k = 10
  · have hkb : (T.k == 10) = true := by simpa using hk
    have hst : stepTx T.pt (i, b) = 46 :: (pairTx T.pt i ++ (if b = true then [126] else [])) := by unfold stepTx; rw [ptk, if_pos hk]
    obtain ⟨h0, h1, h2⟩ := plc_name (by rw [hk] at hp; exact hp)
    simp only at h0 h1 h2
    obtain ⟨q, hq⟩ : ∃ q : Nat, q = i.toNat := ⟨_, rfl⟩
    obtain rfl : i = (q : Int) := by omega
    rw [hst]
    have HPT0 := Lib.hid (fun W (hb : Below w.heap.size w W) => pairtext_impl T q W N (hin.blw hb hN) (Nat.le_trans hN hb.size) (by simpa using h1) hsz (tab_below hb htab))
    have HPT : Hid (∀ (W : World), Below w.heap.size w W → Calls Tryd.prog 65 #[.agg #[.int .i64 T.k, .int .i64 T.n, .int .i64 T.x, .string ⟨T.s.toArray⟩, .slice T.a T.l.length T.cap], .int .i64 q] W fun e w' => e = .returned (.string ⟨(pairTx T.pt q).toArray⟩) ∧ Below W.heap.size W w') := Lib.hid HPT0.out
    generalize pairTx T.pt (q : Int) = D2 at *
    clear hst hk hp hq h0 h1 h2 HPT0 HNT hin htab
    cases b
    · go_enter Tryd.func44, Tryd.ntmps44
      go_wp2_with fail
      rw [HW0.out]
      refine (HPT.out _ HBX.out).mono ?_
      rintro e w1 ⟨rfl, hb1⟩
      have HB1 := Lib.hid (HBX.out.trans (hb1.mono HBX.out.size))
      obtain ⟨c0, c1, c2, c3, c4⟩ := HVC.out.blw hb1
      have s0 := keep_below hb1 HSBX.out.1
      have s1 := keep_below hb1 HSBX.out.2
      clear hb1
      go_wp2
      go_ret
      refine ⟨str_ret ?_, HB1.out⟩
      simp only [lit1, lit2, cat_eq]
      try simp
    · go_enter Tryd.func44, Tryd.ntmps44
      go_wp2_with fail
      rw [HW0.out]
      refine (HPT.out _ HBX.out).mono ?_
      rintro e w1 ⟨rfl, hb1⟩
      have HB1 := Lib.hid (HBX.out.trans (hb1.mono HBX.out.size))
      obtain ⟨c0, c1, c2, c3, c4⟩ := HVC.out.blw hb1
      have s0 := keep_below hb1 HSBX.out.1
      have s1 := keep_below hb1 HSBX.out.2
      clear hb1
      go_wp2
      go_ret
      refine ⟨str_ret ?_, HB1.out⟩
      simp only [lit1, lit2, cat_eq]
      try simp
  · have hkb : (T.k == 10) = false := by simpa using hk
    by_cases hk2 : T.k = 11
    · have hkb2 : (T.k == 11) = true := by simpa using hk2
      have hst : stepTx T.pt (i, b) = [33] := by unfold stepTx; rw [ptk, if_neg hk, if_pos hk2]
      rw [hst]
      clear hst hk hk2 hp hin htab
      go_enter Tryd.func44, Tryd.ntmps44
      go_wp2
      go_ret
      exact ⟨rfl, boxes2 _ _ _⟩
    · have hkb2 : (T.k == 11) = false := by simpa using hk2
      have hst : stepTx T.pt (i, b) = 91 :: (Lib.itoa i ++ [93]) := by unfold stepTx; rw [ptk, if_neg hk, if_neg hk2]
      rw [hst]
      clear hst hk hk2 hp hin htab
      generalize Lib.itoa i = D at *
      go_enter Tryd.func44, Tryd.ntmps44
      go_wp2_with fail
      rw [HW0.out]
      refine (HNT.out _ HBX.out).mono ?_
      rintro e w1 ⟨rfl, hb1⟩
      have HB1 := Lib.hid (HBX.out.trans (hb1.mono HBX.out.size))
      clear hb1
      go_wp2
      go_ret
      refine ⟨str_ret ?_, HB1.out⟩
      simp only [lit1, lit2, cat_eq]
      try simp
end Go.Proofs.YtgfebmnlcihpnaaDoor
