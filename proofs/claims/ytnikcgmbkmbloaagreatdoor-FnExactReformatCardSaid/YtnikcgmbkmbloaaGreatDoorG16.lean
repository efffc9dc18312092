import Derived.Test.YtnikcgmbkmbloaaGreatDoorG15
import Derived.Test.YtnikcgmbkmbloaaGreatDoorG6
import Derived.StillTailTactics
import Derived.Deep.Cut
import Derived.Deep.DeepCutAuto
import Derived.Test.YtnikcgmbkmbloaaGreatDoorG10
import Derived.Test.YtnikcgmbkmbloaaGreatDoorG12
import Derived.Deep.RegionHeld3
/- ReadToken of the model. -/
namespace Go.Proofs.YtnikcgmbkmbloaaGreatDoor
open Go.RowKit
set_option maxRecDepth 100000
theorem byte_n {c d : UInt8} {n : Int} (hd : (d.toNat : Int) = n) : (((c.toNat : Nat) : Int) == n) = decide (c = d) := by
  rw [Bool.eq_iff_iff, beq_iff_eq, decide_eq_true_eq]
  constructor
  · intro h; exact UInt8.toNat_inj.1 (by omega)
  · rintro rfl; exact hd
theorem isD_int (c : UInt8) : decide ((48 : Int) ≤ (c.toNat : Nat) ∧ ((c.toNat : Nat) : Int) ≤ 57) = isD c := by
  unfold isD
  rw [decide_eq_decide]; omega
theorem numR_cases (l : List UInt8) (j : Nat) : (∃ n x next, numT (readN l j) = .tuple #[.int .i64 n, .int .i64 x, .int .i64 (next : Nat), .int .i64 0] ∧ numR l j = ⟨⟨3, [], n, x⟩, next, 0⟩) ∨ (∃ n x next, numT (readN l j) = .tuple #[.int .i64 n, .int .i64 x, .int .i64 (next : Nat), .int .i64 1] ∧ numR l j = badR 1) ∨ (∃ n x next, numT (readN l j) = .tuple #[.int .i64 n, .int .i64 x, .int .i64 (next : Nat), .int .i64 2] ∧ numR l j = badR 2) := by
  have hcode : (readN l j).code = 0 ∨ (readN l j).code = 1 ∨ (readN l j).code = 2 := by
    unfold readN numOf; split
    · split <;> simp
    · simp
  unfold numR numT
  rcases hcode with h | h | h
  · left; exact ⟨_, _, _, by rw [h]; rfl, by rw [if_pos h]⟩
  · right; left; exact ⟨_, _, _, by rw [h]; rfl, by rw [if_neg (by omega), h]⟩
  · right; right; exact ⟨_, _, _, by rw [h]; rfl, by rw [if_neg (by omega), h]⟩
theorem textR_cases (l : List UInt8) (j : Nat) : (∃ (s : List UInt8) (e : Nat), readV l j = .tuple #[.string ⟨s.toArray⟩, .int .i64 e, .int .i64 0] ∧ textR l j = ⟨⟨2, s, 0, 0⟩, e, 0⟩) ∨ (readV l j = .tuple #[.string ⟨#[]⟩, .int .i64 0, .int .i64 1] ∧ textR l j = badR 1) := by
  cases hq : readQ l j with
  | none => right; exact ⟨by unfold readV; rw [hq], by unfold textR; rw [hq]⟩
  | some q => obtain ⟨rs, e⟩ := q; left; exact ⟨_, _, by unfold readV; rw [hq], by unfold textR; rw [hq]⟩
set_option maxHeartbeats 4000000 in
theorem readtok_spec (l : List UInt8) (a : Int) (w : World) (hl : l.length ≤ 1048576) (h1 : a ≤ 9223372036854775807) :
    Calls Tryz.prog 103 #[.string ⟨l.toArray⟩, .int .i64 a] w fun e w' => e = .returned (readTokV l a) ∧ Below w.heap.size w w' := by
  have hsz := size_l l
  have HBX := Lib.hid ((vbox w (.cells #[.int .i64 0, .string ⟨#[]⟩, .int .i64 0, .int .i64 0] 76)).trans ((vbox (w.alloc (.cells #[.int .i64 0, .string ⟨#[]⟩, .int .i64 0, .int .i64 0] 76)) (.cells #[.int .i64 0, .string ⟨#[]⟩, .int .i64 0, .int .i64 0] 76)).mono (by simp)))
  obtain ⟨z0, z1, z2, z3, zf⟩ := (zt_new w 76).blw (vbox (w.alloc (.cells #[.int .i64 0, .string ⟨#[]⟩, .int .i64 0, .int .i64 0] 76)) (.cells #[.int .i64 0, .string ⟨#[]⟩, .int .i64 0, .int .i64 0] 76))
  obtain ⟨n0, n1, n2, n3, -⟩ := zt_new (w.alloc (.cells #[.int .i64 0, .string ⟨#[]⟩, .int .i64 0, .int .i64 0] 76)) 76
  rw [show (w.alloc (.cells #[.int .i64 0, .string ⟨#[]⟩, .int .i64 0, .int .i64 0] 76)).heap.size = w.heap.size + 1 by simp] at n0 n1 n2 n3
  by_cases hout : a < 0 ∨ (l.length : Int) < a
  · rw [readTokV_out hout]
    generalize (ByteArray.mk l.toArray) = s at *
    rcases hout with hout | hout
    · skip
      go_enter Tryz.func103, Tryz.ntmps103
      (go_upto_region 2 with fail)
      generalize ((w.alloc (.cells #[.int .i64 0, .string ⟨#[]⟩, .int .i64 0, .int .i64 0] 76)).alloc (.cells #[.int .i64 0, .string ⟨#[]⟩, .int .i64 0, .int .i64 0] 76)) = w1 at *
      go_wp2
      exact bodyPost_ret (v := (badR 1).val) (by simp [results, Tryz.results103, go_sem, z0, z1, z2, z3, n0, n1, n2, n3, badR, tok0]) rfl ⟨rfl, tk_below HBX.out (Nat.le_refl _) _ _ _ _⟩
    · have h0 : ¬ a < 0 := by omega
      go_enter Tryz.func103, Tryz.ntmps103
      (go_upto_region 2 with fail)
      generalize ((w.alloc (.cells #[.int .i64 0, .string ⟨#[]⟩, .int .i64 0, .int .i64 0] 76)).alloc (.cells #[.int .i64 0, .string ⟨#[]⟩, .int .i64 0, .int .i64 0] 76)) = w1 at *
      go_wp2
      exact bodyPost_ret (v := (badR 1).val) (by simp [results, Tryz.results103, go_sem, z0, z1, z2, z3, n0, n1, n2, n3, badR, tok0]) rfl ⟨rfl, tk_below HBX.out (Nat.le_refl _) _ _ _ _⟩
  obtain ⟨i, rfl⟩ : ∃ i : Nat, a = i := ⟨a.toNat, by omega⟩
  have hi : i ≤ l.length := by omega
  have hi' : ¬ ((i : Int) < 0) := by omega
  have hi2 : (i : Int) ≤ l.length := by omega
  rw [readTokV_in hi]
  have CS := Lib.hid (fun w => skip_spec l i w (by omega) h1)
  have CS' := CS.out
  rw [skT_nat] at CS'
  have cs := CS' ((w.alloc (.cells #[.int .i64 0, .string ⟨#[]⟩, .int .i64 0, .int .i64 0] 76)).alloc (.cells #[.int .i64 0, .string ⟨#[]⟩, .int .i64 0, .int .i64 0] 76))
  unfold readTok
  have hj := skE_le hi
  generalize skE l i = j at *
  clear CS CS' hout h1
  have hj2 : (j : Int) ≤ 1048576 := by omega
  have CT := Lib.hid (fun w => readquoted_spec l j w (by omega) (by omega) (by omega))
  have CN := Lib.hid (fun w => readnum_spec l j w hl)
  have CW := Lib.hid (fun w => word_spec l j w hl hj)
  by_cases hend : j = l.length
  · rw [tokAt_none (List.getElem?_eq_none (by omega))]
    have hjl : ((j : Int) == l.length) = true := by simp [hend]
    generalize (ByteArray.mk l.toArray) = s at *
    clear hend hj hi hl
    go_enter Tryz.func103, Tryz.ntmps103
    (go_upto_region 2 with fail)
    generalize ((w.alloc (.cells #[.int .i64 0, .string ⟨#[]⟩, .int .i64 0, .int .i64 0] 76)).alloc (.cells #[.int .i64 0, .string ⟨#[]⟩, .int .i64 0, .int .i64 0] 76)) = w1 at *
    go_wp2_with fail
    refine cs.mono ?_
    rintro e w' ⟨rfl, rfl⟩
    go_wp2
    exact bodyPost_ret (v := (TokR.mk tok0 j 0).val) (by simp [results, Tryz.results103, go_sem, z0, z1, z2, z3, n0, n1, n2, n3, tok0]) rfl ⟨rfl, tk_below HBX.out (Nat.le_refl _) _ _ _ _⟩
  have hjlt : j < l.length := by omega
  obtain ⟨c, hc⟩ : ∃ c, l[j]? = some c := ⟨_, List.getElem?_eq_getElem hjlt⟩
  rw [tokAt_some hc]
  have hjl : ((j : Int) == l.length) = false := by simp; omega
  have CG := Lib.hid (fun w => signok_spec [c] w)
  have CG' := CG.out
  rw [sgB_one] at CG'
  have ix := str_at l j c _ hc rfl
  have cu := str_cutO l j (j + 1) j ((j : Int) + 1) rfl (by omega) (by omega) (by omega)
  rw [cut_one hc] at cu
  unfold charR
  have hj1 : (j : Int) + 1 ≤ l.length := by omega
  have h34 := byte_n (c := c) (d := 34) (n := 34) rfl
  have h45 := byte_n (c := c) (d := 45) (n := 45) rfl
  have hD := Lib.hid (isD_int c)
  have hcb : c.toNat < 256 := UInt8.toNat_lt _
  have CI := Lib.hid (fun w => in_any (c.toNat : Nat) 48 57 w)
  have CI' := CI.out
  rw [hD.out] at CI'
  have CG := Lib.hid CG'
  have CI := Lib.hid CI'
  have CN' := CN.out
  rw [readT_in hj] at CN'
  have CN := Lib.hid CN'
  clear CG' CI' CN'
  generalize (ByteArray.mk l.toArray) = s at *
  clear hc hj hi hl hend hjlt
  by_cases hsg : isSg c = true
  · rw [if_pos hsg]
    have CG' := CG.out
    rw [hsg] at CG'
    clear h34 h45 hsg
    go_enter Tryz.func103, Tryz.ntmps103
    (go_upto_region 2 with fail)
    generalize ((w.alloc (.cells #[.int .i64 0, .string ⟨#[]⟩, .int .i64 0, .int .i64 0] 76)).alloc (.cells #[.int .i64 0, .string ⟨#[]⟩, .int .i64 0, .int .i64 0] 76)) = w1 at *
    go_wp2_with fail
    refine cs.mono ?_
    rintro e w' ⟨rfl, rfl⟩
    go_wp2_with fail
    refine (CG' _).mono ?_
    rintro e w' ⟨rfl, rfl⟩
    go_wp2
    exact bodyPost_ret (v := (TokR.mk ⟨1, [c], 0, 0⟩ (j + 1) 0).val) (by simp [results, Tryz.results103, go_sem, z0, z1, z2, z3, n0, n1, n2, n3]) rfl ⟨rfl, tk_below HBX.out (Nat.le_refl _) _ _ _ _⟩
  rw [if_neg hsg]
  have CG' := CG.out
  rw [show isSg c = false by simpa using hsg] at CG'
  clear hsg CG
  by_cases hq : c = 34
  · rw [if_pos hq]
    rw [decide_eq_true hq] at h34
    clear hq h45 CI CN CW
    have CT' := CT.out
    rcases textR_cases l j with ⟨st, e, hv, hr⟩ | ⟨hv, hr⟩
    · rw [hv] at CT'
      rw [hr]
      clear hv hr CT
      go_enter Tryz.func103, Tryz.ntmps103
      (go_upto_region 2 with fail)
      generalize ((w.alloc (.cells #[.int .i64 0, .string ⟨#[]⟩, .int .i64 0, .int .i64 0] 76)).alloc (.cells #[.int .i64 0, .string ⟨#[]⟩, .int .i64 0, .int .i64 0] 76)) = w1 at *
      go_wp2_with fail
      refine cs.mono ?_
      rintro e w' ⟨rfl, rfl⟩
      go_wp2_with fail
      refine (CG' _).mono ?_
      rintro e w' ⟨rfl, rfl⟩
      go_wp2_with fail
      refine (CT' _).mono ?_
      rintro e w2 ⟨rfl, hb⟩
      obtain ⟨y0, y1, y2, y3, yf⟩ := ZT.blw ⟨z0, z1, z2, z3, zf⟩ hb
      replace n0 := keep_below hb n0
      replace n1 := keep_below hb n1
      replace n2 := keep_below hb n2
      replace n3 := keep_below hb n3
      have HB := Lib.hid (HBX.out.trans (hb.mono HBX.out.size))
      clear hb z0 z1 z2 z3 zf
      go_wp2
      exact bodyPost_ret (v := (TokR.mk ⟨2, st, 0, 0⟩ e 0).val) (by simp [results, Tryz.results103, go_sem, y0, y1, y2, y3, n0, n1, n2, n3]) rfl ⟨rfl, tk_below HB.out (Nat.le_refl _) _ _ _ _⟩
    · rw [hv] at CT'
      rw [hr]
      clear hv hr CT
      go_enter Tryz.func103, Tryz.ntmps103
      (go_upto_region 2 with fail)
      generalize ((w.alloc (.cells #[.int .i64 0, .string ⟨#[]⟩, .int .i64 0, .int .i64 0] 76)).alloc (.cells #[.int .i64 0, .string ⟨#[]⟩, .int .i64 0, .int .i64 0] 76)) = w1 at *
      go_wp2_with fail
      refine cs.mono ?_
      rintro e w' ⟨rfl, rfl⟩
      go_wp2_with fail
      refine (CG' _).mono ?_
      rintro e w' ⟨rfl, rfl⟩
      go_wp2_with fail
      refine (CT' _).mono ?_
      rintro e w2 ⟨rfl, hb⟩
      obtain ⟨y0, y1, y2, y3, yf⟩ := ZT.blw ⟨z0, z1, z2, z3, zf⟩ hb
      replace n0 := keep_below hb n0
      replace n1 := keep_below hb n1
      replace n2 := keep_below hb n2
      replace n3 := keep_below hb n3
      have HB := Lib.hid (HBX.out.trans (hb.mono HBX.out.size))
      clear hb z0 z1 z2 z3 zf
      go_wp2
      exact bodyPost_ret (v := (badR 1).val) (by simp [results, Tryz.results103, go_sem, y0, y1, y2, y3, n0, n1, n2, n3, badR, tok0]) rfl ⟨rfl, tk_below HB.out (Nat.le_refl _) _ _ _ _⟩
  rw [if_neg hq]
  rw [decide_eq_false hq] at h34
  clear hq CT
  have CI' := CI.out
  have CN' := CN.out
  by_cases hm : c = 45
  · rw [decide_eq_true hm] at h45
    have hn : (c == 45 || isD c) = true := by rw [hm]; rfl
    rw [if_pos hn]
    clear hn hm CW CI CI' hD
    rcases numR_cases l j with ⟨n, x, nx, hv, hr⟩ | ⟨n, x, nx, hv, hr⟩ | ⟨n, x, nx, hv, hr⟩
    · rw [hv] at CN'
      rw [hr]
      clear hv hr CN
      go_enter Tryz.func103, Tryz.ntmps103
      (go_upto_region 2 with fail)
      generalize ((w.alloc (.cells #[.int .i64 0, .string ⟨#[]⟩, .int .i64 0, .int .i64 0] 76)).alloc (.cells #[.int .i64 0, .string ⟨#[]⟩, .int .i64 0, .int .i64 0] 76)) = w1 at *
      go_wp2_with fail
      refine cs.mono ?_
      rintro e w' ⟨rfl, rfl⟩
      go_wp2_with fail
      refine (CG' _).mono ?_
      rintro e w' ⟨rfl, rfl⟩
      go_wp2_with fail
      refine (CN' _).mono ?_
      rintro e w' ⟨rfl, rfl⟩
      go_wp2
      exact bodyPost_ret (v := (TokR.mk ⟨3, [], n, x⟩ nx 0).val) (by simp [results, Tryz.results103, go_sem, z0, z1, z2, z3, n0, n1, n2, n3]) rfl ⟨rfl, tk_below HBX.out (Nat.le_refl _) _ _ _ _⟩
    · rw [hv] at CN'
      rw [hr]
      clear hv hr CN
      go_enter Tryz.func103, Tryz.ntmps103
      (go_upto_region 2 with fail)
      generalize ((w.alloc (.cells #[.int .i64 0, .string ⟨#[]⟩, .int .i64 0, .int .i64 0] 76)).alloc (.cells #[.int .i64 0, .string ⟨#[]⟩, .int .i64 0, .int .i64 0] 76)) = w1 at *
      go_wp2_with fail
      refine cs.mono ?_
      rintro e w' ⟨rfl, rfl⟩
      go_wp2_with fail
      refine (CG' _).mono ?_
      rintro e w' ⟨rfl, rfl⟩
      go_wp2_with fail
      refine (CN' _).mono ?_
      rintro e w' ⟨rfl, rfl⟩
      go_wp2
      exact bodyPost_ret (v := (badR 1).val) (by simp [results, Tryz.results103, go_sem, z0, z1, z2, z3, n0, n1, n2, n3, badR, tok0]) rfl ⟨rfl, tk_below HBX.out (Nat.le_refl _) _ _ _ _⟩
    · rw [hv] at CN'
      rw [hr]
      clear hv hr CN
      go_enter Tryz.func103, Tryz.ntmps103
      (go_upto_region 2 with fail)
      generalize ((w.alloc (.cells #[.int .i64 0, .string ⟨#[]⟩, .int .i64 0, .int .i64 0] 76)).alloc (.cells #[.int .i64 0, .string ⟨#[]⟩, .int .i64 0, .int .i64 0] 76)) = w1 at *
      go_wp2_with fail
      refine cs.mono ?_
      rintro e w' ⟨rfl, rfl⟩
      go_wp2_with fail
      refine (CG' _).mono ?_
      rintro e w' ⟨rfl, rfl⟩
      go_wp2_with fail
      refine (CN' _).mono ?_
      rintro e w' ⟨rfl, rfl⟩
      go_wp2
      exact bodyPost_ret (v := (badR 2).val) (by simp [results, Tryz.results103, go_sem, z0, z1, z2, z3, n0, n1, n2, n3, badR, tok0]) rfl ⟨rfl, tk_below HBX.out (Nat.le_refl _) _ _ _ _⟩
  rw [decide_eq_false hm] at h45
  have hcd : (c == 45 || isD c) = isD c := by
    have : (c == 45) = false := by simpa using hm
    rw [this, Bool.false_or]
  rw [hcd]
  clear hcd hm
  by_cases hd : isD c = true
  · rw [if_pos hd]
    rw [hd] at CI'
    clear CW hd hD
    rcases numR_cases l j with ⟨n, x, nx, hv, hr⟩ | ⟨n, x, nx, hv, hr⟩ | ⟨n, x, nx, hv, hr⟩
    · rw [hv] at CN'
      rw [hr]
      clear hv hr CN
      go_enter Tryz.func103, Tryz.ntmps103
      (go_upto_region 2 with fail)
      generalize ((w.alloc (.cells #[.int .i64 0, .string ⟨#[]⟩, .int .i64 0, .int .i64 0] 76)).alloc (.cells #[.int .i64 0, .string ⟨#[]⟩, .int .i64 0, .int .i64 0] 76)) = w1 at *
      go_wp2_with fail
      refine cs.mono ?_
      rintro e w' ⟨rfl, rfl⟩
      go_wp2_with fail
      refine (CG' _).mono ?_
      rintro e w' ⟨rfl, rfl⟩
      go_wp2_with fail
      refine (CI' _).mono ?_
      rintro e w' ⟨rfl, rfl⟩
      go_wp2_with fail
      refine (CN' _).mono ?_
      rintro e w' ⟨rfl, rfl⟩
      go_wp2
      exact bodyPost_ret (v := (TokR.mk ⟨3, [], n, x⟩ nx 0).val) (by simp [results, Tryz.results103, go_sem, z0, z1, z2, z3, n0, n1, n2, n3]) rfl ⟨rfl, tk_below HBX.out (Nat.le_refl _) _ _ _ _⟩
    · rw [hv] at CN'
      rw [hr]
      clear hv hr CN
      go_enter Tryz.func103, Tryz.ntmps103
      (go_upto_region 2 with fail)
      generalize ((w.alloc (.cells #[.int .i64 0, .string ⟨#[]⟩, .int .i64 0, .int .i64 0] 76)).alloc (.cells #[.int .i64 0, .string ⟨#[]⟩, .int .i64 0, .int .i64 0] 76)) = w1 at *
      go_wp2_with fail
      refine cs.mono ?_
      rintro e w' ⟨rfl, rfl⟩
      go_wp2_with fail
      refine (CG' _).mono ?_
      rintro e w' ⟨rfl, rfl⟩
      go_wp2_with fail
      refine (CI' _).mono ?_
      rintro e w' ⟨rfl, rfl⟩
      go_wp2_with fail
      refine (CN' _).mono ?_
      rintro e w' ⟨rfl, rfl⟩
      go_wp2
      exact bodyPost_ret (v := (badR 1).val) (by simp [results, Tryz.results103, go_sem, z0, z1, z2, z3, n0, n1, n2, n3, badR, tok0]) rfl ⟨rfl, tk_below HBX.out (Nat.le_refl _) _ _ _ _⟩
    · rw [hv] at CN'
      rw [hr]
      clear hv hr CN
      go_enter Tryz.func103, Tryz.ntmps103
      (go_upto_region 2 with fail)
      generalize ((w.alloc (.cells #[.int .i64 0, .string ⟨#[]⟩, .int .i64 0, .int .i64 0] 76)).alloc (.cells #[.int .i64 0, .string ⟨#[]⟩, .int .i64 0, .int .i64 0] 76)) = w1 at *
      go_wp2_with fail
      refine cs.mono ?_
      rintro e w' ⟨rfl, rfl⟩
      go_wp2_with fail
      refine (CG' _).mono ?_
      rintro e w' ⟨rfl, rfl⟩
      go_wp2_with fail
      refine (CI' _).mono ?_
      rintro e w' ⟨rfl, rfl⟩
      go_wp2_with fail
      refine (CN' _).mono ?_
      rintro e w' ⟨rfl, rfl⟩
      go_wp2
      exact bodyPost_ret (v := (badR 2).val) (by simp [results, Tryz.results103, go_sem, z0, z1, z2, z3, n0, n1, n2, n3, badR, tok0]) rfl ⟨rfl, tk_below HBX.out (Nat.le_refl _) _ _ _ _⟩
  rw [if_neg hd]
  rw [show isD c = false by simpa using hd] at CI'
  have CW' := CW.out
  obtain ⟨k, n, x, st, nx, cd, hr⟩ := tokR_eta (wordR l j)
  rw [hr] at CW' ⊢
  clear hr CW hd CN CN' hD
  go_enter Tryz.func103, Tryz.ntmps103
  (go_upto_region 2 with fail)
  generalize ((w.alloc (.cells #[.int .i64 0, .string ⟨#[]⟩, .int .i64 0, .int .i64 0] 76)).alloc (.cells #[.int .i64 0, .string ⟨#[]⟩, .int .i64 0, .int .i64 0] 76)) = w1 at *
  go_wp2_with fail
  refine cs.mono ?_
  rintro e w' ⟨rfl, rfl⟩
  go_wp2_with fail
  refine (CG' _).mono ?_
  rintro e w' ⟨rfl, rfl⟩
  go_wp2_with fail
  refine (CI' _).mono ?_
  rintro e w' ⟨rfl, rfl⟩
  go_wp2_with fail
  refine (CW' _).mono ?_
  rintro e w2 ⟨rfl, hb⟩
  obtain ⟨y0, y1, y2, y3, yf⟩ := ZT.blw ⟨z0, z1, z2, z3, zf⟩ hb
  replace n0 := keep_below hb n0
  replace n1 := keep_below hb n1
  replace n2 := keep_below hb n2
  replace n3 := keep_below hb n3
  have HB := Lib.hid (HBX.out.trans (hb.mono HBX.out.size))
  clear hb z0 z1 z2 z3 zf
  go_wp2
  exact bodyPost_ret (v := (TokR.mk ⟨k, st, n, x⟩ nx cd).val) (by simp [results, Tryz.results103, go_sem, y0, y1, y2, y3, n0, n1, n2, n3]) rfl ⟨rfl, tk_below HB.out (Nat.le_refl _) _ _ _ _⟩
end Go.Proofs.YtnikcgmbkmbloaaGreatDoor
/- What the laws' test of equality on tokens returns. -/
namespace Go.Proofs.YtnikcgmbkmbloaaGreatDoor
open Go.RowKit
set_option maxRecDepth 100000
theorem below2 (w : World) (a b : Obj) : Below w.heap.size w ((w.alloc a).alloc b) := ((Below.refl w.heap.size w).alloc (Nat.le_refl _) a).alloc (by simp) b
/-- a box of a token -/
structure TC (w : World) (b : Nat) (t : Tok) : Prop where
  c0 : w.cell? ⟨b, 0, none⟩ = some (.int .i64 t.k)
  c1 : w.cell? ⟨b, 1, none⟩ = some (.string ⟨t.s.toArray⟩)
  c2 : w.cell? ⟨b, 2, none⟩ = some (.int .i64 t.n)
  c3 : w.cell? ⟨b, 3, none⟩ = some (.int .i64 t.x)
theorem TC.blw {w w' : World} {b : Nat} {t : Tok} (h : TC w b t) (hb : Below w.heap.size w w') : TC w' b t := ⟨keep_below hb h.c0, keep_below hb h.c1, keep_below hb h.c2, keep_below hb h.c3⟩
theorem tc_new (w : World) (t : Tok) (ty : TypeId) : TC (w.alloc (.cells #[.int .i64 t.k, .string ⟨t.s.toArray⟩, .int .i64 t.n, .int .i64 t.x] ty)) w.heap.size t := by
  refine ⟨?_, ?_, ?_, ?_⟩ <;> simp [go_sem]
theorem eqtok_yes (t : Tok) (w : World) : Calls Tryz.prog 75 #[t.val, t.val] w fun e w' => e = .returned (.bool true) ∧ Below w.heap.size w w' := by
  obtain ⟨k, s, n, x⟩ := t
  have h1 : ((k : Int) != k) = false := by simp
  have h2 : ((n : Int) != n) = false := by simp
  have h3 : ((x : Int) != x) = false := by simp
  have h4 : ((s : List UInt8) != s) = false := by simp
  show Calls Tryz.prog 75 #[.agg #[.int .i64 k, .string ⟨s.toArray⟩, .int .i64 n, .int .i64 x], .agg #[.int .i64 k, .string ⟨s.toArray⟩, .int .i64 n, .int .i64 x]] w _
  go_enter Tryz.func75, Tryz.ntmps75
  go_wp2
  go_ret
  exact ⟨rfl, below2 _ _ _⟩
end Go.Proofs.YtnikcgmbkmbloaaGreatDoor
/- Tokens: the program's and the model's answers. -/
namespace Go.Proofs.YtnikcgmbkmbloaaGreatDoor
open Go.RowKit
set_option maxRecDepth 100000
def TokensPost (l : List UInt8) (w : World) (e : Ending) (w' : World) : Prop := ∃ a cap, e = .returned (.tuple #[.slice a (toks l 0).1.length cap, .int .i64 (toks l 0).2]) ∧ OwnT w' w.heap.size a cap (toks l 0).1 ∧ Below w.heap.size w w'
theorem ownT_made (w : World) : OwnT (w.alloc (.cells #[] 76)) w.heap.size (some ⟨w.heap.size, 0, none⟩) 0 [] := World.ownsRow_made (e := 76) (size := 4) w #[] 0 (Nat.le_refl _) (by decide) rfl
theorem own_shp {w : World} {B E c n : Nat} {v : Value} {xs : List Value} (h : w.ownsRow B E c v n xs) : ∃ a cap, v = .slice a n cap := by
  rcases h.2 with ⟨hv, h0⟩ | ⟨g, cap, cur, hv, _⟩
  · exact ⟨none, 0, by rw [hv, h0]⟩
  · exact ⟨_, cap, hv⟩
theorem ownT_made2 (w : World) (o : Obj) : OwnT ((w.alloc o).alloc (.cells #[] 76)) (w.heap.size + 1) (some ⟨w.heap.size + 1, 0, none⟩) 0 [] := by
  have := ownT_made (w.alloc o)
  rw [show (w.alloc o).heap.size = w.heap.size + 1 by simp] at this
  exact this
set_option maxHeartbeats 4000000 in
theorem tokens_spec (l : List UInt8) (w : World) (hl : l.length ≤ 1048576) : Calls Tryz.prog 58 #[.string ⟨l.toArray⟩] w (TokensPost l w) := by
  obtain ⟨i0, hi, hz0, hz1, hz2⟩ := info_parts tokenInfo
  have CR := Lib.hid (fun (i : Nat) (W : World) (_ : Below w.heap.size w W) (hi : i ≤ l.length) => readtok_spec l i W hl (by omega))
  have CR' := Lib.hid (fun (i : Nat) (W : World) (hb : Below w.heap.size w W) (hi : i ≤ l.length) => (readTokV_in hi) ▸ CR.out i W hb hi)
  have HL := Lib.hid hl
  have HF0 := Lib.hid (farT_start l)
  have HW0 := Lib.hid (ownT_made w)
  have HB0 := Lib.hid (vbox w (.cells #[] 76))
  clear CR hl
  generalize (ByteArray.mk l.toArray) = s at *
  go_enter Tryz.func58, Tryz.ntmps58
  go_wp2
  generalize w.alloc (.cells #[] 76) = w1 at *
  go_loopw [4, 5] (fun va vb wr => ∃ (i : Nat) (ts : List Tok) (a : Option Addr) (cap : Nat), vb = .int .i64 i ∧ va = .slice a ts.length cap ∧ Hid (OwnT wr w.heap.size a cap ts) ∧ Hid (Below w.heap.size w wr) ∧ Hid (FarT l i ts)) (fun _ vb _ => l.length - (intOf vb).toNat)
  case atStart => exact ⟨0, [], _, _, rfl, rfl, HW0, HB0, HF0⟩
  case round =>
    obtain ⟨i, ts, a, cap, rfl, rfl, HO, HB, HF⟩ := hrel
    have hil := HF.out.1
    have cr := CR'.out i wr HB.out hil
    have HI := Lib.hid hil
    obtain ⟨k, n, x, st, nx, cd, hr⟩ := tokR_eta (readTok l i)
    have HR := Lib.hid hr
    rw [hr] at cr
    simp only [TokR.val, Tok.val] at cr
    clear hr hil
    go_wp2_with fail
    refine cr.mono ?_
    rintro e w2 ⟨rfl, hb2⟩
    have HO2 := Lib.hid ((HO.out.blw hb2).blw (vbox w2 (.cells #[.int .i64 k, .string ⟨st.toArray⟩, .int .i64 n, .int .i64 x] 76)))
    have HB2 := Lib.hid ((HB.out.trans (hb2.mono HB.out.size)).trans ((vbox w2 (.cells #[.int .i64 k, .string ⟨st.toArray⟩, .int .i64 n, .int .i64 x] 76)).mono (HB.out.trans (hb2.mono HB.out.size)).size))
    obtain ⟨d0, d1, d2, d3⟩ := tc_new w2 ⟨k, st, n, x⟩ 76
    simp only at d0 d1 d2 d3
    clear cr hb2 HO HB
    by_cases hcd : cd = 0
    · subst hcd
      by_cases hk : k = 0
      · subst hk
        have HT := Lib.hid (farT_end HF.out (by rw [HR.out]) (by rw [HR.out]))
        go_wp2
        go_ret2
        exact ⟨a, cap, by rw [HT.out]; rfl, by rw [HT.out]; exact HO2.out, HB2.out⟩
      · have hk' : ((k : Int) == 0) = false := by simpa using hk
        have HT := Lib.hid (farT_step HF.out (by rw [HR.out]) (by rw [HR.out]; exact hk))
        have HN := Lib.hid (show FarT l nx (ts ++ [⟨k, st, n, x⟩]) ∧ i < nx by have := HT.out; rw [HR.out] at this; exact this)
        clear hk HT
        (go_upto_region 4 with fail)
        generalize w2.alloc (.cells #[.int .i64 k, .string ⟨st.toArray⟩, .int .i64 n, .int .i64 x] 76) = w3 at *
        go_wp2_with (at_builtin; refine wpList_append_own _ rfl _ _ 36 rfl w.heap.size 76 i0 _ 4 40 Tryz.underlying36 hi hz0 hz1 hz2 rfl (by decide) _ _ _ rfl (HO2.out.blw (vbox w3 (.cells #[.int .i64 k, .string ⟨st.toArray⟩, .int .i64 n, .int .i64 x] 76))) ⟨w3.heap.size, 0, none⟩ 1 1 (tkv [⟨k, st, n, x⟩]) rfl rfl ?c1 (tkv_one' _) ?c3 ?c4 ?c5 ?_)
        case c1 =>
          intro j u hj
          match j, hj with
          | 0, hj => simp [tkv] at hj; subst hj; simp [Addr.add, go_sem]
          | 1, hj => simp [tkv] at hj; subst hj; simp [Addr.add, go_sem]
          | 2, hj => simp [tkv] at hj; subst hj; simp [Addr.add, go_sem]
          | 3, hj => simp [tkv] at hj; subst hj; simp [Addr.add, go_sem]
          | (j + 4), hj => simp [tkv] at hj
        case c3 => have := HF.out.2.1; have := HI.out; have := HL.out; unfold maxLen; omega
        case c4 => have := HF.out.2.1; have := HI.out; have := HL.out; omega
        case c5 => have := HB2.out.size; simp; omega
        intro v' w4 hown4 hgrow _
        have HB3 := Lib.hid (HB2.out.trans ((vbox w3 (.cells #[.int .i64 k, .string ⟨st.toArray⟩, .int .i64 n, .int .i64 x] 76)).mono HB2.out.size))
        have HB4 := Lib.hid (HB3.out.trans (grown_belowN hgrow HB3.out.size (fun q hq => (World.ownsRow.lt (HO2.out.blw (vbox w3 (.cells #[.int .i64 k, .string ⟨st.toArray⟩, .int .i64 n, .int .i64 x] 76))) q hq).1)))
        obtain ⟨a4, cap4, rfl⟩ := own_shp hown4
        have HO4 := Lib.hid (show OwnT w4 w.heap.size a4 cap4 (ts ++ [⟨k, st, n, x⟩]) by unfold OwnT; rw [List.length_append, tkv_append]; exact hown4)
        clear hown4 hgrow HO2 d0 d1 d2 d3
        go_wp2
        go_roundw
        case rel => exact ⟨nx, ts ++ [⟨k, st, n, x⟩], a4, cap4, rfl, by simp, HO4, HB4, Lib.hid HN.out.1⟩
        case measure => have h1 := HN.out.2; have h2 := HN.out.1.1; simp [intOf]; omega
    · have hcd' : ((cd : Int) != 0) = true := by simp; omega
      have HT := Lib.hid (farT_bad HF.out (by rw [HR.out]; exact hcd))
      have HM := Lib.hid (ownT_made2 w2 (.cells #[.int .i64 k, .string ⟨st.toArray⟩, .int .i64 n, .int .i64 x] 76))
      have HS := Lib.hid (show w.heap.size ≤ w2.heap.size + 1 by have := HB2.out.size; simpa using this)
      clear hcd HO2
      go_wp2
      go_ret2
      exact ⟨_, 0, by rw [HT.out, HR.out]; rfl, by rw [HT.out]; exact OwnT.base HM.out HS.out, HB2.out.trans ((vbox _ _).mono HB2.out.size)⟩
set_option maxHeartbeats 4000000 in
theorem tokens_impl (l : List UInt8) (w : World) (hl : l.length ≤ 1048576) (hE : Env w) : Calls Tryz.prog 48 #[.string ⟨l.toArray⟩] w (TokensPost l w) := by
  obtain ⟨i0, hi, hz0, hz1, hz2⟩ := info_parts tokenInfo
  have CR := Lib.hid (fun (i : Nat) (W : World) (hb : Below w.heap.size w W) (hi : i ≤ l.length) => readtok_impl l i W hl (by omega) (hE.below hb))
  clear hE
  have CR' := Lib.hid (fun (i : Nat) (W : World) (hb : Below w.heap.size w W) (hi : i ≤ l.length) => (readTokV_in hi) ▸ CR.out i W hb hi)
  have HL := Lib.hid hl
  have HF0 := Lib.hid (farT_start l)
  have HW0 := Lib.hid (ownT_made w)
  have HB0 := Lib.hid (vbox w (.cells #[] 76))
  clear CR hl
  generalize (ByteArray.mk l.toArray) = s at *
  go_enter Tryz.func48, Tryz.ntmps48
  go_wp2
  generalize w.alloc (.cells #[] 76) = w1 at *
  go_loopw [4, 5] (fun va vb wr => ∃ (i : Nat) (ts : List Tok) (a : Option Addr) (cap : Nat), vb = .int .i64 i ∧ va = .slice a ts.length cap ∧ Hid (OwnT wr w.heap.size a cap ts) ∧ Hid (Below w.heap.size w wr) ∧ Hid (FarT l i ts)) (fun _ vb _ => l.length - (intOf vb).toNat)
  case atStart => exact ⟨0, [], _, _, rfl, rfl, HW0, HB0, HF0⟩
  case round =>
    obtain ⟨i, ts, a, cap, rfl, rfl, HO, HB, HF⟩ := hrel
    have hil := HF.out.1
    have cr := CR'.out i wr HB.out hil
    have HI := Lib.hid hil
    obtain ⟨k, n, x, st, nx, cd, hr⟩ := tokR_eta (readTok l i)
    have HR := Lib.hid hr
    rw [hr] at cr
    simp only [TokR.val, Tok.val] at cr
    clear hr hil
    go_wp2_with fail
    refine cr.mono ?_
    rintro e w2 ⟨rfl, hb2⟩
    have HO2 := Lib.hid ((HO.out.blw hb2).blw (vbox w2 (.cells #[.int .i64 k, .string ⟨st.toArray⟩, .int .i64 n, .int .i64 x] 76)))
    have HB2 := Lib.hid ((HB.out.trans (hb2.mono HB.out.size)).trans ((vbox w2 (.cells #[.int .i64 k, .string ⟨st.toArray⟩, .int .i64 n, .int .i64 x] 76)).mono (HB.out.trans (hb2.mono HB.out.size)).size))
    obtain ⟨d0, d1, d2, d3⟩ := tc_new w2 ⟨k, st, n, x⟩ 76
    simp only at d0 d1 d2 d3
    clear cr hb2 HO HB
    by_cases hcd : cd = 0
    · subst hcd
      by_cases hk : k = 0
      · subst hk
        have HT := Lib.hid (farT_end HF.out (by rw [HR.out]) (by rw [HR.out]))
        go_wp2
        go_ret2
        exact ⟨a, cap, by rw [HT.out]; rfl, by rw [HT.out]; exact HO2.out, HB2.out⟩
      · have hk' : ((k : Int) == 0) = false := by simpa using hk
        have HT := Lib.hid (farT_step HF.out (by rw [HR.out]) (by rw [HR.out]; exact hk))
        have HN := Lib.hid (show FarT l nx (ts ++ [⟨k, st, n, x⟩]) ∧ i < nx by have := HT.out; rw [HR.out] at this; exact this)
        clear hk HT
        (go_upto_region 4 with fail)
        generalize w2.alloc (.cells #[.int .i64 k, .string ⟨st.toArray⟩, .int .i64 n, .int .i64 x] 76) = w3 at *
        go_wp2_with (at_builtin; refine wpList_append_own _ rfl _ _ 36 rfl w.heap.size 76 i0 _ 4 40 Tryz.underlying36 hi hz0 hz1 hz2 rfl (by decide) _ _ _ rfl (HO2.out.blw (vbox w3 (.cells #[.int .i64 k, .string ⟨st.toArray⟩, .int .i64 n, .int .i64 x] 76))) ⟨w3.heap.size, 0, none⟩ 1 1 (tkv [⟨k, st, n, x⟩]) rfl rfl ?c1 (tkv_one' _) ?c3 ?c4 ?c5 ?_)
        case c1 =>
          intro j u hj
          match j, hj with
          | 0, hj => simp [tkv] at hj; subst hj; simp [Addr.add, go_sem]
          | 1, hj => simp [tkv] at hj; subst hj; simp [Addr.add, go_sem]
          | 2, hj => simp [tkv] at hj; subst hj; simp [Addr.add, go_sem]
          | 3, hj => simp [tkv] at hj; subst hj; simp [Addr.add, go_sem]
          | (j + 4), hj => simp [tkv] at hj
        case c3 => have := HF.out.2.1; have := HI.out; have := HL.out; unfold maxLen; omega
        case c4 => have := HF.out.2.1; have := HI.out; have := HL.out; omega
        case c5 => have := HB2.out.size; simp; omega
        intro v' w4 hown4 hgrow _
        have HB3 := Lib.hid (HB2.out.trans ((vbox w3 (.cells #[.int .i64 k, .string ⟨st.toArray⟩, .int .i64 n, .int .i64 x] 76)).mono HB2.out.size))
        have HB4 := Lib.hid (HB3.out.trans (grown_belowN hgrow HB3.out.size (fun q hq => (World.ownsRow.lt (HO2.out.blw (vbox w3 (.cells #[.int .i64 k, .string ⟨st.toArray⟩, .int .i64 n, .int .i64 x] 76))) q hq).1)))
        obtain ⟨a4, cap4, rfl⟩ := own_shp hown4
        have HO4 := Lib.hid (show OwnT w4 w.heap.size a4 cap4 (ts ++ [⟨k, st, n, x⟩]) by unfold OwnT; rw [List.length_append, tkv_append]; exact hown4)
        clear hown4 hgrow HO2 d0 d1 d2 d3
        go_wp2
        go_roundw
        case rel => exact ⟨nx, ts ++ [⟨k, st, n, x⟩], a4, cap4, rfl, by simp, HO4, HB4, Lib.hid HN.out.1⟩
        case measure => have h1 := HN.out.2; have h2 := HN.out.1.1; simp [intOf]; omega
    · have hcd' : ((cd : Int) != 0) = true := by simp; omega
      have HT := Lib.hid (farT_bad HF.out (by rw [HR.out]; exact hcd))
      have HM := Lib.hid (ownT_made2 w2 (.cells #[.int .i64 k, .string ⟨st.toArray⟩, .int .i64 n, .int .i64 x] 76))
      have HS := Lib.hid (show w.heap.size ≤ w2.heap.size + 1 by have := HB2.out.size; simpa using this)
      clear hcd HO2
      go_wp2
      go_ret2
      exact ⟨_, 0, by rw [HT.out, HR.out]; rfl, by rw [HT.out]; exact OwnT.base HM.out HS.out, HB2.out.trans ((vbox _ _).mono HB2.out.size)⟩
end Go.Proofs.YtnikcgmbkmbloaaGreatDoor
/- TokenText: the program's and the model's answers. -/
namespace Go.Proofs.YtnikcgmbkmbloaaGreatDoor
open Go.RowKit
set_option maxRecDepth 100000
theorem tt_s {t : Tok} (h : t.k = 1 ∨ t.k = 4) : tokText t = t.s := by unfold tokText; rw [if_pos h]
theorem tt_q {t : Tok} (h : t.k = 2) : tokText t = quoteL t.s := by unfold tokText; rw [if_neg (by omega), if_pos h]
theorem tt_n {t : Tok} (h : t.k = 3) : tokText t = if t.x = 0 then Lib.itoa t.n else Lib.itoa t.n ++ 101 :: Lib.itoa t.x := by unfold tokText; rw [if_neg (by omega), if_neg (by omega), if_pos h]
theorem tt_o {t : Tok} (h1 : t.k ≠ 1) (h2 : t.k ≠ 2) (h3 : t.k ≠ 3) (h4 : t.k ≠ 4) : tokText t = [] := by unfold tokText; rw [if_neg (by omega), if_neg h2, if_neg h3]
theorem tab_blw {w w' : World} (hb : Below w.heap.size w w') (h : Lib.TabIs Tryz.prog w "internal/strconv.uint64pow10" .u64 Lib.pow10Tab) : Lib.TabIs Tryz.prog w' "internal/strconv.uint64pow10" .u64 Lib.pow10Tab := by
  unfold Lib.TabIs at h ⊢
  exact var_below hb h
theorem itoa_1e6 (n : Int) (h0 : -9223372036854775808 ≤ n) (h1 : n ≤ 9223372036854775807) : (Lib.itoa n).length ≤ 1000000 := by
  have h := dec_len 19 n.natAbs (by omega)
  by_cases hn : n < 0
  · rw [itoa_lt hn, List.length_cons]; omega
  · rw [itoa_ge hn]; omega
theorem ba_e (a b : List UInt8) : (ByteArray.mk a.toArray) ++ (ByteArray.mk #[101]) ++ (ByteArray.mk b.toArray) = ByteArray.mk (a ++ 101 :: b).toArray := by
  apply ByteArray.ext; simp
theorem ba_e2 (a b : List UInt8) : (ByteArray.mk a.toArray) ++ ((ByteArray.mk #[101]) ++ (ByteArray.mk b.toArray)) = ByteArray.mk (a ++ 101 :: b).toArray := by
  apply ByteArray.ext; simp
set_option maxHeartbeats 2000000 in
theorem numtoken_impl (s : List UInt8) (n x : Int) (w : World) (hn0 : -9223372036854775808 ≤ n) (hn1 : n ≤ 9223372036854775807) (hx0 : -9223372036854775808 ≤ x) (hx1 : x ≤ 9223372036854775807) (htab : Lib.TabIs Tryz.prog w "internal/strconv.uint64pow10" .u64 Lib.pow10Tab) :
    Calls Tryz.prog 164 #[.agg #[.int .i64 3, .string ⟨s.toArray⟩, .int .i64 n, .int .i64 x]] w fun e w' => e = .returned (.string ⟨(tokText ⟨3, s, n, x⟩).toArray⟩) ∧ Below w.heap.size w w' := by
  have HB0 := Lib.hid (vbox w (.cells #[.int .i64 3, .string ⟨s.toArray⟩, .int .i64 n, .int .i64 x] 76))
  have CN := Lib.hid (fun (W : World) (hb : Below w.heap.size w W) => numtext_impl n W hn0 hn1 (tab_blw hb htab))
  have CX := Lib.hid (fun (W : World) (hb : Below w.heap.size w W) => numtext_impl x W hx0 hx1 (tab_blw hb htab))
  have LN := Lib.hid (itoa_1e6 n hn0 hn1)
  have LX := Lib.hid (itoa_1e6 x hx0 hx1)
  clear hn0 hn1 hx0 hx1 htab
  obtain ⟨c0, c1, c2, c3⟩ := tc_new w ⟨3, s, n, x⟩ 76
  simp only at c0 c1 c2 c3
  rw [tt_n rfl]
  simp only
  obtain ⟨w1, hw1⟩ : ∃ w1, w1 = w.alloc (.cells #[.int .i64 3, .string ⟨s.toArray⟩, .int .i64 n, .int .i64 x] 76) := ⟨_, rfl⟩
  rw [← hw1] at c0 c1 c2 c3 HB0
  have HW := Lib.hid hw1
  clear hw1
  by_cases h0 : x = 0
  · subst h0
    rw [if_pos rfl]
    go_enter Tryz.func164, Tryz.ntmps164
    (go_upto_region 1 with fail)
    rw [← HW.out]
    clear HW
    go_wp2_with fail
    refine (CN.out _ HB0.out).mono ?_
    rintro e w2 ⟨rfl, hb⟩
    replace c3 := keep_below hb c3
    go_wp2
    go_ret
    exact ⟨rfl, HB0.out.trans (hb.mono HB0.out.size)⟩
  rw [if_neg h0]
  have hx : ((x : Int) != 0) = true := by simpa using h0
  have CN' := CN.out
  have CX' := CX.out
  have LN' := LN.out
  have LX' := LX.out
  clear CN CX LN LX
  rw [← ba_e2]
  generalize Lib.itoa n = a at *
  generalize Lib.itoa x = b at *
  have CN := Lib.hid CN'
  have CX := Lib.hid CX'
  have hs1 : ¬ (9223372036854775807 < 1 + b.length) := by omega
  have hs2 : ¬ (9223372036854775807 < a.length + (1 + b.length)) := by omega
  clear CN' CX' LN' LX' h0
  go_enter Tryz.func164, Tryz.ntmps164
  (go_upto_region 1 with fail)
  rw [← HW.out]
  clear HW
  go_wp2_with fail
  refine (CN.out _ HB0.out).mono ?_
  rintro e w2 ⟨rfl, hb⟩
  replace c3 := keep_below hb c3
  have HB2 := Lib.hid (HB0.out.trans (hb.mono HB0.out.size))
  clear hb
  go_wp2_with fail
  refine (CX.out _ HB2.out).mono ?_
  rintro e w3 ⟨rfl, hb⟩
  have HB3 := Lib.hid (HB2.out.trans (hb.mono HB2.out.size))
  clear hb
  go_wp2
  go_ret
  exact ⟨rfl, HB3.out⟩
set_option maxHeartbeats 2000000 in
theorem toktext_impl (t : Tok) (w : World) (hs : t.s.length ≤ 1073741824) (hn0 : -9223372036854775808 ≤ t.n) (hn1 : t.n ≤ 9223372036854775807) (hx0 : -9223372036854775808 ≤ t.x) (hx1 : t.x ≤ 9223372036854775807) (htab : Lib.TabIs Tryz.prog w "internal/strconv.uint64pow10" .u64 Lib.pow10Tab) :
    Calls Tryz.prog 113 #[t.val] w fun e w' => e = .returned (.string ⟨(tokText t).toArray⟩) ∧ Below w.heap.size w w' := by
  obtain ⟨k, s, n, x⟩ := t
  simp only at hs hn0 hn1 hx0 hx1
  have HB0 := Lib.hid (vbox w (.cells #[.int .i64 k, .string ⟨s.toArray⟩, .int .i64 n, .int .i64 x] 76))
  have cq := quote_impl s (w.alloc (.cells #[.int .i64 k, .string ⟨s.toArray⟩, .int .i64 n, .int .i64 x] 76)) hs
  have CN := Lib.hid (fun (W : World) (hb : Below w.heap.size w W) => numtext_impl n W hn0 hn1 (tab_blw hb htab))
  have CX := Lib.hid (fun (W : World) (hb : Below w.heap.size w W) => numtext_impl x W hx0 hx1 (tab_blw hb htab))
  have CF := Lib.hid (fun (W : World) (hb : Below w.heap.size w W) => numtoken_impl s n x W hn0 hn1 hx0 hx1 (tab_blw hb htab))
  have LN := Lib.hid (itoa_1e6 n hn0 hn1)
  have LX := Lib.hid (itoa_1e6 x hx0 hx1)
  clear hn0 hn1 hx0 hx1 hs htab
  show Calls Tryz.prog 113 #[.agg #[.int .i64 k, .string ⟨s.toArray⟩, .int .i64 n, .int .i64 x]] w _
  obtain ⟨c0, c1, c2, c3⟩ := tc_new w ⟨k, s, n, x⟩ 76
  simp only at c0 c1 c2 c3
  obtain ⟨w1, hw1⟩ : ∃ w1, w1 = w.alloc (.cells #[.int .i64 k, .string ⟨s.toArray⟩, .int .i64 n, .int .i64 x] 76) := ⟨_, rfl⟩
  rw [← hw1] at c0 c1 c2 c3 cq HB0
  have HW := Lib.hid hw1
  clear hw1
  by_cases h1 : k = 1
  · subst h1
    rw [tt_s (.inl rfl)]
    go_enter Tryz.func113, Tryz.ntmps113
    (go_upto_region 1 with fail)
    rw [← HW.out]
    clear HW
    go_wp2
    go_ret
    exact ⟨rfl, HB0.out⟩
  by_cases h4 : k = 4
  · subst h4
    rw [tt_s (.inr rfl)]
    go_enter Tryz.func113, Tryz.ntmps113
    (go_upto_region 1 with fail)
    rw [← HW.out]
    clear HW
    go_wp2
    go_ret
    exact ⟨rfl, HB0.out⟩
  by_cases h2 : k = 2
  · subst h2
    rw [tt_q rfl]
    go_enter Tryz.func113, Tryz.ntmps113
    (go_upto_region 1 with fail)
    rw [← HW.out]
    clear HW
    go_wp2_with fail
    refine cq.mono ?_
    rintro e w2 ⟨rfl, hb⟩
    go_wp2
    go_ret
    exact ⟨rfl, HB0.out.trans (hb.mono HB0.out.size)⟩
  by_cases h3 : k = 3
  · subst h3
    clear cq
    go_enter Tryz.func113, Tryz.ntmps113
    (go_upto_region 1 with fail)
    rw [← HW.out]
    clear HW
    go_wp2_with fail
    refine (CF.out _ HB0.out).mono ?_
    rintro e w2 ⟨rfl, hb⟩
    go_wp2
    go_ret
    exact ⟨rfl, HB0.out.trans (hb.mono HB0.out.size)⟩
  have k1 : ((k : Int) == 1) = false := by simpa using h1
  have k2 : ((k : Int) == 2) = false := by simpa using h2
  have k3 : ((k : Int) == 3) = false := by simpa using h3
  have k4 : ((k : Int) == 4) = false := by simpa using h4
  rw [tt_o h1 h2 h3 h4]
  clear cq h1 h2 h3 h4
  go_enter Tryz.func113, Tryz.ntmps113
  (go_upto_region 1 with fail)
  rw [← HW.out]
  clear HW
  go_wp2
  go_ret
  exact ⟨rfl, HB0.out⟩
set_option maxHeartbeats 2000000 in
theorem toktext_spec (t : Tok) (w : World) (hs : t.s.length ≤ 1073741824) (hn0 : -9223372036854775808 ≤ t.n) (hn1 : t.n ≤ 9223372036854775807) (hx0 : -9223372036854775808 ≤ t.x) (hx1 : t.x ≤ 9223372036854775807) :
    Calls Tryz.prog 115 #[t.val] w fun e w' => e = .returned (.string ⟨(tokText t).toArray⟩) ∧ Below w.heap.size w w' := by
  obtain ⟨k, s, n, x⟩ := t
  simp only at hs hn0 hn1 hx0 hx1
  have HB0 := Lib.hid (vbox w (.cells #[.int .i64 k, .string ⟨s.toArray⟩, .int .i64 n, .int .i64 x] 76))
  have cq := quote_spec s (w.alloc (.cells #[.int .i64 k, .string ⟨s.toArray⟩, .int .i64 n, .int .i64 x] 76)) hs
  have CN := Lib.hid (fun (W : World) => numtext_spec n W hn0 hn1)
  have CX := Lib.hid (fun (W : World) => numtext_spec x W hx0 hx1)
  have LN := Lib.hid (itoa_1e6 n hn0 hn1)
  have LX := Lib.hid (itoa_1e6 x hx0 hx1)
  clear hn0 hn1 hx0 hx1 hs
  show Calls Tryz.prog 115 #[.agg #[.int .i64 k, .string ⟨s.toArray⟩, .int .i64 n, .int .i64 x]] w _
  obtain ⟨c0, c1, c2, c3⟩ := tc_new w ⟨k, s, n, x⟩ 76
  simp only at c0 c1 c2 c3
  obtain ⟨w1, hw1⟩ : ∃ w1, w1 = w.alloc (.cells #[.int .i64 k, .string ⟨s.toArray⟩, .int .i64 n, .int .i64 x] 76) := ⟨_, rfl⟩
  rw [← hw1] at c0 c1 c2 c3 cq HB0
  have HW := Lib.hid hw1
  clear hw1
  by_cases h1 : k = 1
  · subst h1
    rw [tt_s (.inl rfl)]
    go_enter Tryz.func115, Tryz.ntmps115
    (go_upto_region 1 with fail)
    rw [← HW.out]
    clear HW
    go_wp2
    go_ret
    exact ⟨rfl, HB0.out⟩
  by_cases h4 : k = 4
  · subst h4
    rw [tt_s (.inr rfl)]
    go_enter Tryz.func115, Tryz.ntmps115
    (go_upto_region 1 with fail)
    rw [← HW.out]
    clear HW
    go_wp2
    go_ret
    exact ⟨rfl, HB0.out⟩
  by_cases h2 : k = 2
  · subst h2
    rw [tt_q rfl]
    go_enter Tryz.func115, Tryz.ntmps115
    (go_upto_region 1 with fail)
    rw [← HW.out]
    clear HW
    go_wp2_with fail
    refine cq.mono ?_
    rintro e w2 ⟨rfl, hb⟩
    go_wp2
    go_ret
    exact ⟨rfl, HB0.out.trans (hb.mono HB0.out.size)⟩
  by_cases h3 : k = 3
  · subst h3
    clear cq
    rw [tt_n rfl]
    simp only
    by_cases h0 : x = 0
    · subst h0
      rw [if_pos rfl]
      go_enter Tryz.func115, Tryz.ntmps115
      (go_upto_region 1 with fail)
      rw [← HW.out]
      clear HW
      go_wp2_with fail
      refine (CN.out _).mono ?_
      rintro e w2 ⟨rfl, hb⟩
      go_wp2
      go_ret
      exact ⟨rfl, HB0.out.trans (hb.mono HB0.out.size)⟩
    · rw [if_neg h0]
      have hx : ((x : Int) != 0) = true := by simpa using h0
      have CN' := CN.out
      have CX' := CX.out
      have LN' := LN.out
      have LX' := LX.out
      clear CN CX LN LX
      generalize Lib.itoa n = a at *
      generalize Lib.itoa x = b at *
      have CN := Lib.hid CN'
      have CX := Lib.hid CX'
      have hs1 : ¬ (9223372036854775807 < a.length + 1) := by omega
      have hs2 : ¬ (9223372036854775807 < a.length + 1 + b.length) := by omega
      clear CN' CX' LN' LX' h0
      go_enter Tryz.func115, Tryz.ntmps115
      (go_upto_region 1 with fail)
      rw [← HW.out]
      clear HW
      (go_upto_region 9 with fail)
      have hB := HB0.out
      clear HB0
      go_region_held3 (fun W' => W'.cell? ⟨w.heap.size, 2, none⟩ = some (.int .i64 n) ∧ W'.cell? ⟨w.heap.size, 3, none⟩ = some (.int .i64 x) ∧ Below w.heap.size w W') ((refine ⟨?_, ?_, ?_⟩ <;> first | with_reducible assumption | (with_reducible refine Below.drew ?_; with_reducible assumption) | with_reducible exact keep_below (by with_reducible assumption) (by with_reducible assumption) | with_reducible exact below_tr (by with_reducible assumption) (by with_reducible assumption) | assumption)) ((first | (go_at_call 81; go_split_ands; with_reducible refine (CN.out _).mono ?_; rintro e u1 ⟨rfl, hb1⟩) | (go_at_call 81; go_split_ands; with_reducible refine (CX.out _).mono ?_; rintro e u2 ⟨rfl, hb2⟩)))
      all_goals go_split_ands
      all_goals go_wp2
      all_goals go_ret
      all_goals exact ⟨by rw [← ba_e]; rfl, by with_reducible assumption⟩
  have k1 : ((k : Int) == 1) = false := by simpa using h1
  have k2 : ((k : Int) == 2) = false := by simpa using h2
  have k3 : ((k : Int) == 3) = false := by simpa using h3
  have k4 : ((k : Int) == 4) = false := by simpa using h4
  rw [tt_o h1 h2 h3 h4]
  clear cq h1 h2 h3 h4
  go_enter Tryz.func115, Tryz.ntmps115
  (go_upto_region 1 with fail)
  rw [← HW.out]
  clear HW
  go_wp2
  go_ret
  exact ⟨rfl, HB0.out⟩
end Go.Proofs.YtnikcgmbkmbloaaGreatDoor
