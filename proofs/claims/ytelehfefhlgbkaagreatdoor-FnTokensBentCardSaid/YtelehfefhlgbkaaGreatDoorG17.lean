import Derived.Test.YtelehfefhlgbkaaGreatDoorG16
import Derived.Test.YtelehfefhlgbkaaGreatDoorG8
import Derived.Deep.Cut
import Derived.Deep.DeepCutAuto
import Derived.Test.YtelehfefhlgbkaaGreatDoorG10
/- ReadToken of the model. -/
namespace Go.Proofs.YtelehfefhlgbkaaGreatDoor
open Go.RowKit
set_option maxRecDepth 100000
theorem byte_n {c d : UInt8} {n : Int} (hd : (d.toNat : Int) = n) : (((c.toNat : Nat) : Int) == n) = decide (c = d) := by
  rw [Bool.eq_iff_iff, beq_iff_eq, decide_eq_true_eq]
  constructor
  · intro h; exact UInt8.toNat_inj.1 (by omega)
  · rintro rfl; exact hd
theorem isD_int (c : UInt8) : decide ((48 : Int) ≤ (c.toNat : Nat) ∧ ((c.toNat : Nat) : Int) ≤ 57) = isD c := by
  unfold isD
  rw [decide_eq_decide]; omega
theorem numR_cases (l : List UInt8) (j : Nat) : (∃ n x next, numT (readN l j) = .tuple #[.int .i64 n, .int .i64 x, .int .i64 (next : Nat), .int .i64 0] ∧ numR l j = ⟨⟨3, [], n, x⟩, next, 0⟩) ∨ (∃ n x next, numT (readN l j) = .tuple #[.int .i64 n, .int .i64 x, .int .i64 (next : Nat), .int .i64 1] ∧ numR l j = badR 1) ∨ (∃ n x next, numT (readN l j) = .tuple #[.int .i64 n, .int .i64 x, .int .i64 (next : Nat), .int .i64 2] ∧ numR l j = badR 2) := by
  have hcode : (readN l j).code = 0 ∨ (readN l j).code = 1 ∨ (readN l j).code = 2 := by
    unfold readN numOf; split
    · split <;> simp
    · simp
  unfold numR numT
  rcases hcode with h | h | h
  · left; exact ⟨_, _, _, by rw [h]; rfl, by rw [if_pos h]⟩
  · right; left; exact ⟨_, _, _, by rw [h]; rfl, by rw [if_neg (by omega), h]⟩
  · right; right; exact ⟨_, _, _, by rw [h]; rfl, by rw [if_neg (by omega), h]⟩
theorem textR_cases (l : List UInt8) (j : Nat) : (∃ (s : List UInt8) (e : Nat), readV l j = .tuple #[.string ⟨s.toArray⟩, .int .i64 e, .int .i64 0] ∧ textR l j = ⟨⟨2, s, 0, 0⟩, e, 0⟩) ∨ (readV l j = .tuple #[.string ⟨#[]⟩, .int .i64 0, .int .i64 1] ∧ textR l j = badR 1) := by
  cases hq : readQ l j with
  | none => right; exact ⟨by unfold readV; rw [hq], by unfold textR; rw [hq]⟩
  | some q => obtain ⟨rs, e⟩ := q; left; exact ⟨_, _, by unfold readV; rw [hq], by unfold textR; rw [hq]⟩
set_option maxHeartbeats 4000000 in
theorem readtok_spec (l : List UInt8) (a : Int) (w : World) (hl : l.length ≤ 1048576) (h1 : a ≤ 9223372036854775807) :
    Calls Tryz.prog 18 #[.string ⟨l.toArray⟩, .int .i64 a] w fun e w' => e = .returned (readTokV l a) ∧ Below w.heap.size w w' := by
  have hsz := size_l l
  have HBX := Lib.hid ((vbox w (.cells #[.int .i64 0, .string ⟨#[]⟩, .int .i64 0, .int .i64 0] 30)).trans ((vbox (w.alloc (.cells #[.int .i64 0, .string ⟨#[]⟩, .int .i64 0, .int .i64 0] 30)) (.cells #[.int .i64 0, .string ⟨#[]⟩, .int .i64 0, .int .i64 0] 30)).mono (by simp)))
  obtain ⟨z0, z1, z2, z3, zf⟩ := (zt_new w 30).blw (vbox (w.alloc (.cells #[.int .i64 0, .string ⟨#[]⟩, .int .i64 0, .int .i64 0] 30)) (.cells #[.int .i64 0, .string ⟨#[]⟩, .int .i64 0, .int .i64 0] 30))
  obtain ⟨n0, n1, n2, n3, -⟩ := zt_new (w.alloc (.cells #[.int .i64 0, .string ⟨#[]⟩, .int .i64 0, .int .i64 0] 30)) 30
  rw [show (w.alloc (.cells #[.int .i64 0, .string ⟨#[]⟩, .int .i64 0, .int .i64 0] 30)).heap.size = w.heap.size + 1 by simp] at n0 n1 n2 n3
  by_cases hout : a < 0 ∨ (l.length : Int) < a
  · rw [readTokV_out hout]
    generalize (ByteArray.mk l.toArray) = s at *
    rcases hout with hout | hout
    · skip
      go_enter Tryz.func18, Tryz.ntmps18
      (go_upto_region 2 with fail)
      generalize ((w.alloc (.cells #[.int .i64 0, .string ⟨#[]⟩, .int .i64 0, .int .i64 0] 30)).alloc (.cells #[.int .i64 0, .string ⟨#[]⟩, .int .i64 0, .int .i64 0] 30)) = w1 at *
      go_wp2
      exact bodyPost_ret (v := (badR 1).val) (by simp [results, Tryz.results18, go_sem, z0, z1, z2, z3, n0, n1, n2, n3, badR, tok0]) rfl ⟨rfl, tk_below HBX.out (Nat.le_refl _) _ _ _ _⟩
    · have h0 : ¬ a < 0 := by omega
      go_enter Tryz.func18, Tryz.ntmps18
      (go_upto_region 2 with fail)
      generalize ((w.alloc (.cells #[.int .i64 0, .string ⟨#[]⟩, .int .i64 0, .int .i64 0] 30)).alloc (.cells #[.int .i64 0, .string ⟨#[]⟩, .int .i64 0, .int .i64 0] 30)) = w1 at *
      go_wp2
      exact bodyPost_ret (v := (badR 1).val) (by simp [results, Tryz.results18, go_sem, z0, z1, z2, z3, n0, n1, n2, n3, badR, tok0]) rfl ⟨rfl, tk_below HBX.out (Nat.le_refl _) _ _ _ _⟩
  obtain ⟨i, rfl⟩ : ∃ i : Nat, a = i := ⟨a.toNat, by omega⟩
  have hi : i ≤ l.length := by omega
  have hi' : ¬ ((i : Int) < 0) := by omega
  have hi2 : (i : Int) ≤ l.length := by omega
  rw [readTokV_in hi]
  have CS := Lib.hid (fun w => skip_spec l i w (by omega) h1)
  have CS' := CS.out
  rw [skT_nat] at CS'
  have cs := CS' ((w.alloc (.cells #[.int .i64 0, .string ⟨#[]⟩, .int .i64 0, .int .i64 0] 30)).alloc (.cells #[.int .i64 0, .string ⟨#[]⟩, .int .i64 0, .int .i64 0] 30))
  unfold readTok
  have hj := skE_le hi
  generalize skE l i = j at *
  clear CS CS' hout h1
  have hj2 : (j : Int) ≤ 1048576 := by omega
  have CT := Lib.hid (fun w => readquoted_spec l j w (by omega) (by omega) (by omega))
  have CN := Lib.hid (fun w => readnum_spec l j w hl)
  have CW := Lib.hid (fun w => word_spec l j w hl hj)
  by_cases hend : j = l.length
  · rw [tokAt_none (List.getElem?_eq_none (by omega))]
    have hjl : ((j : Int) == l.length) = true := by simp [hend]
    generalize (ByteArray.mk l.toArray) = s at *
    clear hend hj hi hl
    go_enter Tryz.func18, Tryz.ntmps18
    (go_upto_region 2 with fail)
    generalize ((w.alloc (.cells #[.int .i64 0, .string ⟨#[]⟩, .int .i64 0, .int .i64 0] 30)).alloc (.cells #[.int .i64 0, .string ⟨#[]⟩, .int .i64 0, .int .i64 0] 30)) = w1 at *
    go_wp2_with fail
    refine cs.mono ?_
    rintro e w' ⟨rfl, rfl⟩
    go_wp2
    exact bodyPost_ret (v := (TokR.mk tok0 j 0).val) (by simp [results, Tryz.results18, go_sem, z0, z1, z2, z3, n0, n1, n2, n3, tok0]) rfl ⟨rfl, tk_below HBX.out (Nat.le_refl _) _ _ _ _⟩
  have hjlt : j < l.length := by omega
  obtain ⟨c, hc⟩ : ∃ c, l[j]? = some c := ⟨_, List.getElem?_eq_getElem hjlt⟩
  rw [tokAt_some hc]
  have hjl : ((j : Int) == l.length) = false := by simp; omega
  have CG := Lib.hid (fun w => signok_spec [c] w)
  have CG' := CG.out
  rw [sgB_one] at CG'
  have ix := str_at l j c _ hc rfl
  have cu := str_cutO l j (j + 1) j ((j : Int) + 1) rfl (by omega) (by omega) (by omega)
  rw [cut_one hc] at cu
  unfold charR
  have hj1 : (j : Int) + 1 ≤ l.length := by omega
  have h34 := byte_n (c := c) (d := 34) (n := 34) rfl
  have h45 := byte_n (c := c) (d := 45) (n := 45) rfl
  have hD := Lib.hid (isD_int c)
  have hcb : c.toNat < 256 := UInt8.toNat_lt _
  have CI := Lib.hid (fun w => in_any (c.toNat : Nat) 48 57 w)
  have CI' := CI.out
  rw [hD.out] at CI'
  have CG := Lib.hid CG'
  have CI := Lib.hid CI'
  have CN' := CN.out
  rw [readT_in hj] at CN'
  have CN := Lib.hid CN'
  clear CG' CI' CN'
  generalize (ByteArray.mk l.toArray) = s at *
  clear hc hj hi hl hend hjlt
  by_cases hsg : isSg c = true
  · rw [if_pos hsg]
    have CG' := CG.out
    rw [hsg] at CG'
    clear h34 h45 hsg
    go_enter Tryz.func18, Tryz.ntmps18
    (go_upto_region 2 with fail)
    generalize ((w.alloc (.cells #[.int .i64 0, .string ⟨#[]⟩, .int .i64 0, .int .i64 0] 30)).alloc (.cells #[.int .i64 0, .string ⟨#[]⟩, .int .i64 0, .int .i64 0] 30)) = w1 at *
    go_wp2_with fail
    refine cs.mono ?_
    rintro e w' ⟨rfl, rfl⟩
    go_wp2_with fail
    refine (CG' _).mono ?_
    rintro e w' ⟨rfl, rfl⟩
    go_wp2
    exact bodyPost_ret (v := (TokR.mk ⟨1, [c], 0, 0⟩ (j + 1) 0).val) (by simp [results, Tryz.results18, go_sem, z0, z1, z2, z3, n0, n1, n2, n3]) rfl ⟨rfl, tk_below HBX.out (Nat.le_refl _) _ _ _ _⟩
  rw [if_neg hsg]
  have CG' := CG.out
  rw [show isSg c = false by simpa using hsg] at CG'
  clear hsg CG
  by_cases hq : c = 34
  · rw [if_pos hq]
    rw [decide_eq_true hq] at h34
    clear hq h45 CI CN CW
    have CT' := CT.out
    rcases textR_cases l j with ⟨st, e, hv, hr⟩ | ⟨hv, hr⟩
    · rw [hv] at CT'
      rw [hr]
      clear hv hr CT
      go_enter Tryz.func18, Tryz.ntmps18
      (go_upto_region 2 with fail)
      generalize ((w.alloc (.cells #[.int .i64 0, .string ⟨#[]⟩, .int .i64 0, .int .i64 0] 30)).alloc (.cells #[.int .i64 0, .string ⟨#[]⟩, .int .i64 0, .int .i64 0] 30)) = w1 at *
      go_wp2_with fail
      refine cs.mono ?_
      rintro e w' ⟨rfl, rfl⟩
      go_wp2_with fail
      refine (CG' _).mono ?_
      rintro e w' ⟨rfl, rfl⟩
      go_wp2_with fail
      refine (CT' _).mono ?_
      rintro e w2 ⟨rfl, hb⟩
      obtain ⟨y0, y1, y2, y3, yf⟩ := ZT.blw ⟨z0, z1, z2, z3, zf⟩ hb
      replace n0 := keep_below hb n0
      replace n1 := keep_below hb n1
      replace n2 := keep_below hb n2
      replace n3 := keep_below hb n3
      have HB := Lib.hid (HBX.out.trans (hb.mono HBX.out.size))
      clear hb z0 z1 z2 z3 zf
      go_wp2
      exact bodyPost_ret (v := (TokR.mk ⟨2, st, 0, 0⟩ e 0).val) (by simp [results, Tryz.results18, go_sem, y0, y1, y2, y3, n0, n1, n2, n3]) rfl ⟨rfl, tk_below HB.out (Nat.le_refl _) _ _ _ _⟩
    · rw [hv] at CT'
      rw [hr]
      clear hv hr CT
      go_enter Tryz.func18, Tryz.ntmps18
      (go_upto_region 2 with fail)
      generalize ((w.alloc (.cells #[.int .i64 0, .string ⟨#[]⟩, .int .i64 0, .int .i64 0] 30)).alloc (.cells #[.int .i64 0, .string ⟨#[]⟩, .int .i64 0, .int .i64 0] 30)) = w1 at *
      go_wp2_with fail
      refine cs.mono ?_
      rintro e w' ⟨rfl, rfl⟩
      go_wp2_with fail
      refine (CG' _).mono ?_
      rintro e w' ⟨rfl, rfl⟩
      go_wp2_with fail
      refine (CT' _).mono ?_
      rintro e w2 ⟨rfl, hb⟩
      obtain ⟨y0, y1, y2, y3, yf⟩ := ZT.blw ⟨z0, z1, z2, z3, zf⟩ hb
      replace n0 := keep_below hb n0
      replace n1 := keep_below hb n1
      replace n2 := keep_below hb n2
      replace n3 := keep_below hb n3
      have HB := Lib.hid (HBX.out.trans (hb.mono HBX.out.size))
      clear hb z0 z1 z2 z3 zf
      go_wp2
      exact bodyPost_ret (v := (badR 1).val) (by simp [results, Tryz.results18, go_sem, y0, y1, y2, y3, n0, n1, n2, n3, badR, tok0]) rfl ⟨rfl, tk_below HB.out (Nat.le_refl _) _ _ _ _⟩
  rw [if_neg hq]
  rw [decide_eq_false hq] at h34
  clear hq CT
  have CI' := CI.out
  have CN' := CN.out
  by_cases hm : c = 45
  · rw [decide_eq_true hm] at h45
    have hn : (c == 45 || isD c) = true := by rw [hm]; rfl
    rw [if_pos hn]
    clear hn hm CW CI CI' hD
    rcases numR_cases l j with ⟨n, x, nx, hv, hr⟩ | ⟨n, x, nx, hv, hr⟩ | ⟨n, x, nx, hv, hr⟩
    · rw [hv] at CN'
      rw [hr]
      clear hv hr CN
      go_enter Tryz.func18, Tryz.ntmps18
      (go_upto_region 2 with fail)
      generalize ((w.alloc (.cells #[.int .i64 0, .string ⟨#[]⟩, .int .i64 0, .int .i64 0] 30)).alloc (.cells #[.int .i64 0, .string ⟨#[]⟩, .int .i64 0, .int .i64 0] 30)) = w1 at *
      go_wp2_with fail
      refine cs.mono ?_
      rintro e w' ⟨rfl, rfl⟩
      go_wp2_with fail
      refine (CG' _).mono ?_
      rintro e w' ⟨rfl, rfl⟩
      go_wp2_with fail
      refine (CN' _).mono ?_
      rintro e w' ⟨rfl, rfl⟩
      go_wp2
      exact bodyPost_ret (v := (TokR.mk ⟨3, [], n, x⟩ nx 0).val) (by simp [results, Tryz.results18, go_sem, z0, z1, z2, z3, n0, n1, n2, n3]) rfl ⟨rfl, tk_below HBX.out (Nat.le_refl _) _ _ _ _⟩
    · rw [hv] at CN'
      rw [hr]
      clear hv hr CN
      go_enter Tryz.func18, Tryz.ntmps18
      (go_upto_region 2 with fail)
      generalize ((w.alloc (.cells #[.int .i64 0, .string ⟨#[]⟩, .int .i64 0, .int .i64 0] 30)).alloc (.cells #[.int .i64 0, .string ⟨#[]⟩, .int .i64 0, .int .i64 0] 30)) = w1 at *
      go_wp2_with fail
      refine cs.mono ?_
      rintro e w' ⟨rfl, rfl⟩
      go_wp2_with fail
      refine (CG' _).mono ?_
      rintro e w' ⟨rfl, rfl⟩
      go_wp2_with fail
      refine (CN' _).mono ?_
      rintro e w' ⟨rfl, rfl⟩
      go_wp2
      exact bodyPost_ret (v := (badR 1).val) (by simp [results, Tryz.results18, go_sem, z0, z1, z2, z3, n0, n1, n2, n3, badR, tok0]) rfl ⟨rfl, tk_below HBX.out (Nat.le_refl _) _ _ _ _⟩
    · rw [hv] at CN'
      rw [hr]
      clear hv hr CN
      go_enter Tryz.func18, Tryz.ntmps18
      (go_upto_region 2 with fail)
      generalize ((w.alloc (.cells #[.int .i64 0, .string ⟨#[]⟩, .int .i64 0, .int .i64 0] 30)).alloc (.cells #[.int .i64 0, .string ⟨#[]⟩, .int .i64 0, .int .i64 0] 30)) = w1 at *
      go_wp2_with fail
      refine cs.mono ?_
      rintro e w' ⟨rfl, rfl⟩
      go_wp2_with fail
      refine (CG' _).mono ?_
      rintro e w' ⟨rfl, rfl⟩
      go_wp2_with fail
      refine (CN' _).mono ?_
      rintro e w' ⟨rfl, rfl⟩
      go_wp2
      exact bodyPost_ret (v := (badR 2).val) (by simp [results, Tryz.results18, go_sem, z0, z1, z2, z3, n0, n1, n2, n3, badR, tok0]) rfl ⟨rfl, tk_below HBX.out (Nat.le_refl _) _ _ _ _⟩
  rw [decide_eq_false hm] at h45
  have hcd : (c == 45 || isD c) = isD c := by
    have : (c == 45) = false := by simpa using hm
    rw [this, Bool.false_or]
  rw [hcd]
  clear hcd hm
  by_cases hd : isD c = true
  · rw [if_pos hd]
    rw [hd] at CI'
    clear CW hd hD
    rcases numR_cases l j with ⟨n, x, nx, hv, hr⟩ | ⟨n, x, nx, hv, hr⟩ | ⟨n, x, nx, hv, hr⟩
    · rw [hv] at CN'
      rw [hr]
      clear hv hr CN
      go_enter Tryz.func18, Tryz.ntmps18
      (go_upto_region 2 with fail)
      generalize ((w.alloc (.cells #[.int .i64 0, .string ⟨#[]⟩, .int .i64 0, .int .i64 0] 30)).alloc (.cells #[.int .i64 0, .string ⟨#[]⟩, .int .i64 0, .int .i64 0] 30)) = w1 at *
      go_wp2_with fail
      refine cs.mono ?_
      rintro e w' ⟨rfl, rfl⟩
      go_wp2_with fail
      refine (CG' _).mono ?_
      rintro e w' ⟨rfl, rfl⟩
      go_wp2_with fail
      refine (CI' _).mono ?_
      rintro e w' ⟨rfl, rfl⟩
      go_wp2_with fail
      refine (CN' _).mono ?_
      rintro e w' ⟨rfl, rfl⟩
      go_wp2
      exact bodyPost_ret (v := (TokR.mk ⟨3, [], n, x⟩ nx 0).val) (by simp [results, Tryz.results18, go_sem, z0, z1, z2, z3, n0, n1, n2, n3]) rfl ⟨rfl, tk_below HBX.out (Nat.le_refl _) _ _ _ _⟩
    · rw [hv] at CN'
      rw [hr]
      clear hv hr CN
      go_enter Tryz.func18, Tryz.ntmps18
      (go_upto_region 2 with fail)
      generalize ((w.alloc (.cells #[.int .i64 0, .string ⟨#[]⟩, .int .i64 0, .int .i64 0] 30)).alloc (.cells #[.int .i64 0, .string ⟨#[]⟩, .int .i64 0, .int .i64 0] 30)) = w1 at *
      go_wp2_with fail
      refine cs.mono ?_
      rintro e w' ⟨rfl, rfl⟩
      go_wp2_with fail
      refine (CG' _).mono ?_
      rintro e w' ⟨rfl, rfl⟩
      go_wp2_with fail
      refine (CI' _).mono ?_
      rintro e w' ⟨rfl, rfl⟩
      go_wp2_with fail
      refine (CN' _).mono ?_
      rintro e w' ⟨rfl, rfl⟩
      go_wp2
      exact bodyPost_ret (v := (badR 1).val) (by simp [results, Tryz.results18, go_sem, z0, z1, z2, z3, n0, n1, n2, n3, badR, tok0]) rfl ⟨rfl, tk_below HBX.out (Nat.le_refl _) _ _ _ _⟩
    · rw [hv] at CN'
      rw [hr]
      clear hv hr CN
      go_enter Tryz.func18, Tryz.ntmps18
      (go_upto_region 2 with fail)
      generalize ((w.alloc (.cells #[.int .i64 0, .string ⟨#[]⟩, .int .i64 0, .int .i64 0] 30)).alloc (.cells #[.int .i64 0, .string ⟨#[]⟩, .int .i64 0, .int .i64 0] 30)) = w1 at *
      go_wp2_with fail
      refine cs.mono ?_
      rintro e w' ⟨rfl, rfl⟩
      go_wp2_with fail
      refine (CG' _).mono ?_
      rintro e w' ⟨rfl, rfl⟩
      go_wp2_with fail
      refine (CI' _).mono ?_
      rintro e w' ⟨rfl, rfl⟩
      go_wp2_with fail
      refine (CN' _).mono ?_
      rintro e w' ⟨rfl, rfl⟩
      go_wp2
      exact bodyPost_ret (v := (badR 2).val) (by simp [results, Tryz.results18, go_sem, z0, z1, z2, z3, n0, n1, n2, n3, badR, tok0]) rfl ⟨rfl, tk_below HBX.out (Nat.le_refl _) _ _ _ _⟩
  rw [if_neg hd]
  rw [show isD c = false by simpa using hd] at CI'
  have CW' := CW.out
  obtain ⟨k, n, x, st, nx, cd, hr⟩ := tokR_eta (wordR l j)
  rw [hr] at CW' ⊢
  clear hr CW hd CN CN' hD
  go_enter Tryz.func18, Tryz.ntmps18
  (go_upto_region 2 with fail)
  generalize ((w.alloc (.cells #[.int .i64 0, .string ⟨#[]⟩, .int .i64 0, .int .i64 0] 30)).alloc (.cells #[.int .i64 0, .string ⟨#[]⟩, .int .i64 0, .int .i64 0] 30)) = w1 at *
  go_wp2_with fail
  refine cs.mono ?_
  rintro e w' ⟨rfl, rfl⟩
  go_wp2_with fail
  refine (CG' _).mono ?_
  rintro e w' ⟨rfl, rfl⟩
  go_wp2_with fail
  refine (CI' _).mono ?_
  rintro e w' ⟨rfl, rfl⟩
  go_wp2_with fail
  refine (CW' _).mono ?_
  rintro e w2 ⟨rfl, hb⟩
  obtain ⟨y0, y1, y2, y3, yf⟩ := ZT.blw ⟨z0, z1, z2, z3, zf⟩ hb
  replace n0 := keep_below hb n0
  replace n1 := keep_below hb n1
  replace n2 := keep_below hb n2
  replace n3 := keep_below hb n3
  have HB := Lib.hid (HBX.out.trans (hb.mono HBX.out.size))
  clear hb z0 z1 z2 z3 zf
  go_wp2
  exact bodyPost_ret (v := (TokR.mk ⟨k, st, n, x⟩ nx cd).val) (by simp [results, Tryz.results18, go_sem, y0, y1, y2, y3, n0, n1, n2, n3]) rfl ⟨rfl, tk_below HB.out (Nat.le_refl _) _ _ _ _⟩
end Go.Proofs.YtelehfefhlgbkaaGreatDoor
/- Tokens: the program's and the model's answers. -/
namespace Go.Proofs.YtelehfefhlgbkaaGreatDoor
open Go.RowKit
set_option maxRecDepth 100000
def TokensPost (l : List UInt8) (w : World) (e : Ending) (w' : World) : Prop := ∃ a cap, e = .returned (.tuple #[.slice a (toks l 0).1.length cap, .int .i64 (toks l 0).2]) ∧ OwnT w' w.heap.size a cap (toks l 0).1 ∧ Below w.heap.size w w'
theorem ownT_made (w : World) : OwnT (w.alloc (.cells #[] 30)) w.heap.size (some ⟨w.heap.size, 0, none⟩) 0 [] := World.ownsRow_made (e := 30) (size := 4) w #[] 0 (Nat.le_refl _) (by decide) rfl
theorem own_shp {w : World} {B E c n : Nat} {v : Value} {xs : List Value} (h : w.ownsRow B E c v n xs) : ∃ a cap, v = .slice a n cap := by
  rcases h.2 with ⟨hv, h0⟩ | ⟨g, cap, cur, hv, _⟩
  · exact ⟨none, 0, by rw [hv, h0]⟩
  · exact ⟨_, cap, hv⟩
theorem ownT_made2 (w : World) (o : Obj) : OwnT ((w.alloc o).alloc (.cells #[] 30)) (w.heap.size + 1) (some ⟨w.heap.size + 1, 0, none⟩) 0 [] := by
  have := ownT_made (w.alloc o)
  rw [show (w.alloc o).heap.size = w.heap.size + 1 by simp] at this
  exact this
set_option maxHeartbeats 4000000 in
theorem tokens_spec (l : List UInt8) (w : World) (hl : l.length ≤ 1048576) : Calls Tryz.prog 15 #[.string ⟨l.toArray⟩] w (TokensPost l w) := by
  obtain ⟨i0, hi, hz0, hz1, hz2⟩ := info_parts tokenInfo
  have CR := Lib.hid (fun (i : Nat) (W : World) (_ : Below w.heap.size w W) (hi : i ≤ l.length) => readtok_spec l i W hl (by omega))
  have CR' := Lib.hid (fun (i : Nat) (W : World) (hb : Below w.heap.size w W) (hi : i ≤ l.length) => (readTokV_in hi) ▸ CR.out i W hb hi)
  have HL := Lib.hid hl
  have HF0 := Lib.hid (farT_start l)
  have HW0 := Lib.hid (ownT_made w)
  have HB0 := Lib.hid (vbox w (.cells #[] 30))
  clear CR hl
  generalize (ByteArray.mk l.toArray) = s at *
  go_enter Tryz.func15, Tryz.ntmps15
  go_wp2
  generalize w.alloc (.cells #[] 30) = w1 at *
  go_loopw [4, 5] (fun va vb wr => ∃ (i : Nat) (ts : List Tok) (a : Option Addr) (cap : Nat), vb = .int .i64 i ∧ va = .slice a ts.length cap ∧ Hid (OwnT wr w.heap.size a cap ts) ∧ Hid (Below w.heap.size w wr) ∧ Hid (FarT l i ts)) (fun _ vb _ => l.length - (intOf vb).toNat)
  case atStart => exact ⟨0, [], _, _, rfl, rfl, HW0, HB0, HF0⟩
  case round =>
    obtain ⟨i, ts, a, cap, rfl, rfl, HO, HB, HF⟩ := hrel
    have hil := HF.out.1
    have cr := CR'.out i wr HB.out hil
    have HI := Lib.hid hil
    obtain ⟨k, n, x, st, nx, cd, hr⟩ := tokR_eta (readTok l i)
    have HR := Lib.hid hr
    rw [hr] at cr
    simp only [TokR.val, Tok.val] at cr
    clear hr hil
    go_wp2_with fail
    refine cr.mono ?_
    rintro e w2 ⟨rfl, hb2⟩
    have HO2 := Lib.hid ((HO.out.blw hb2).blw (vbox w2 (.cells #[.int .i64 k, .string ⟨st.toArray⟩, .int .i64 n, .int .i64 x] 30)))
    have HB2 := Lib.hid ((HB.out.trans (hb2.mono HB.out.size)).trans ((vbox w2 (.cells #[.int .i64 k, .string ⟨st.toArray⟩, .int .i64 n, .int .i64 x] 30)).mono (HB.out.trans (hb2.mono HB.out.size)).size))
    obtain ⟨d0, d1, d2, d3⟩ := tc_new w2 ⟨k, st, n, x⟩ 30
    simp only at d0 d1 d2 d3
    clear cr hb2 HO HB
    by_cases hcd : cd = 0
    · subst hcd
      by_cases hk : k = 0
      · subst hk
        have HT := Lib.hid (farT_end HF.out (by rw [HR.out]) (by rw [HR.out]))
        go_wp2
        go_ret2
        exact ⟨a, cap, by rw [HT.out]; rfl, by rw [HT.out]; exact HO2.out, HB2.out⟩
      · have hk' : ((k : Int) == 0) = false := by simpa using hk
        have HT := Lib.hid (farT_step HF.out (by rw [HR.out]) (by rw [HR.out]; exact hk))
        have HN := Lib.hid (show FarT l nx (ts ++ [⟨k, st, n, x⟩]) ∧ i < nx by have := HT.out; rw [HR.out] at this; exact this)
        clear hk HT
        (go_upto_region 4 with fail)
        generalize w2.alloc (.cells #[.int .i64 k, .string ⟨st.toArray⟩, .int .i64 n, .int .i64 x] 30) = w3 at *
        go_wp2_with (at_builtin; refine wpList_append_own _ rfl _ _ 24 rfl w.heap.size 30 i0 _ 4 40 Tryz.underlying24 hi hz0 hz1 hz2 rfl (by decide) _ _ _ rfl (HO2.out.blw (vbox w3 (.cells #[.int .i64 k, .string ⟨st.toArray⟩, .int .i64 n, .int .i64 x] 30))) ⟨w3.heap.size, 0, none⟩ 1 1 (tkv [⟨k, st, n, x⟩]) rfl rfl ?c1 (tkv_one' _) ?c3 ?c4 ?c5 ?_)
        case c1 =>
          intro j u hj
          match j, hj with
          | 0, hj => simp [tkv] at hj; subst hj; simp [Addr.add, go_sem]
          | 1, hj => simp [tkv] at hj; subst hj; simp [Addr.add, go_sem]
          | 2, hj => simp [tkv] at hj; subst hj; simp [Addr.add, go_sem]
          | 3, hj => simp [tkv] at hj; subst hj; simp [Addr.add, go_sem]
          | (j + 4), hj => simp [tkv] at hj
        case c3 => have := HF.out.2.1; have := HI.out; have := HL.out; unfold maxLen; omega
        case c4 => have := HF.out.2.1; have := HI.out; have := HL.out; omega
        case c5 => have := HB2.out.size; simp; omega
        intro v' w4 hown4 hgrow _
        have HB3 := Lib.hid (HB2.out.trans ((vbox w3 (.cells #[.int .i64 k, .string ⟨st.toArray⟩, .int .i64 n, .int .i64 x] 30)).mono HB2.out.size))
        have HB4 := Lib.hid (HB3.out.trans (grown_belowN hgrow HB3.out.size (fun q hq => (World.ownsRow.lt (HO2.out.blw (vbox w3 (.cells #[.int .i64 k, .string ⟨st.toArray⟩, .int .i64 n, .int .i64 x] 30))) q hq).1)))
        obtain ⟨a4, cap4, rfl⟩ := own_shp hown4
        have HO4 := Lib.hid (show OwnT w4 w.heap.size a4 cap4 (ts ++ [⟨k, st, n, x⟩]) by unfold OwnT; rw [List.length_append, tkv_append]; exact hown4)
        clear hown4 hgrow HO2 d0 d1 d2 d3
        go_wp2
        go_roundw
        case rel => exact ⟨nx, ts ++ [⟨k, st, n, x⟩], a4, cap4, rfl, by simp, HO4, HB4, Lib.hid HN.out.1⟩
        case measure => have h1 := HN.out.2; have h2 := HN.out.1.1; simp [intOf]; omega
    · have hcd' : ((cd : Int) != 0) = true := by simp; omega
      have HT := Lib.hid (farT_bad HF.out (by rw [HR.out]; exact hcd))
      have HM := Lib.hid (ownT_made2 w2 (.cells #[.int .i64 k, .string ⟨st.toArray⟩, .int .i64 n, .int .i64 x] 30))
      have HS := Lib.hid (show w.heap.size ≤ w2.heap.size + 1 by have := HB2.out.size; simpa using this)
      clear hcd HO2
      go_wp2
      go_ret2
      exact ⟨_, 0, by rw [HT.out, HR.out]; rfl, by rw [HT.out]; exact OwnT.base HM.out HS.out, HB2.out.trans ((vbox _ _).mono HB2.out.size)⟩
set_option maxHeartbeats 4000000 in
theorem tokens_impl (l : List UInt8) (w : World) (hl : l.length ≤ 1048576) (hE : Env w) : Calls Tryz.prog 8 #[.string ⟨l.toArray⟩] w (TokensPost l w) := by
  obtain ⟨i0, hi, hz0, hz1, hz2⟩ := info_parts tokenInfo
  have CR := Lib.hid (fun (i : Nat) (W : World) (hb : Below w.heap.size w W) (hi : i ≤ l.length) => readtok_impl l i W hl (by omega) (hE.below hb))
  clear hE
  have CR' := Lib.hid (fun (i : Nat) (W : World) (hb : Below w.heap.size w W) (hi : i ≤ l.length) => (readTokV_in hi) ▸ CR.out i W hb hi)
  have HL := Lib.hid hl
  have HF0 := Lib.hid (farT_start l)
  have HW0 := Lib.hid (ownT_made w)
  have HB0 := Lib.hid (vbox w (.cells #[] 30))
  clear CR hl
  generalize (ByteArray.mk l.toArray) = s at *
  go_enter Tryz.func8, Tryz.ntmps8
  go_wp2
  generalize w.alloc (.cells #[] 30) = w1 at *
  go_loopw [4, 5] (fun va vb wr => ∃ (i : Nat) (ts : List Tok) (a : Option Addr) (cap : Nat), vb = .int .i64 i ∧ va = .slice a ts.length cap ∧ Hid (OwnT wr w.heap.size a cap ts) ∧ Hid (Below w.heap.size w wr) ∧ Hid (FarT l i ts)) (fun _ vb _ => l.length - (intOf vb).toNat)
  case atStart => exact ⟨0, [], _, _, rfl, rfl, HW0, HB0, HF0⟩
  case round =>
    obtain ⟨i, ts, a, cap, rfl, rfl, HO, HB, HF⟩ := hrel
    have hil := HF.out.1
    have cr := CR'.out i wr HB.out hil
    have HI := Lib.hid hil
    obtain ⟨k, n, x, st, nx, cd, hr⟩ := tokR_eta (readTok l i)
    have HR := Lib.hid hr
    rw [hr] at cr
    simp only [TokR.val, Tok.val] at cr
    clear hr hil
    go_wp2_with fail
    refine cr.mono ?_
    rintro e w2 ⟨rfl, hb2⟩
    have HO2 := Lib.hid ((HO.out.blw hb2).blw (vbox w2 (.cells #[.int .i64 k, .string ⟨st.toArray⟩, .int .i64 n, .int .i64 x] 30)))
    have HB2 := Lib.hid ((HB.out.trans (hb2.mono HB.out.size)).trans ((vbox w2 (.cells #[.int .i64 k, .string ⟨st.toArray⟩, .int .i64 n, .int .i64 x] 30)).mono (HB.out.trans (hb2.mono HB.out.size)).size))
    obtain ⟨d0, d1, d2, d3⟩ := tc_new w2 ⟨k, st, n, x⟩ 30
    simp only at d0 d1 d2 d3
    clear cr hb2 HO HB
    by_cases hcd : cd = 0
    · subst hcd
      by_cases hk : k = 0
      · subst hk
        have HT := Lib.hid (farT_end HF.out (by rw [HR.out]) (by rw [HR.out]))
        go_wp2
        go_ret2
        exact ⟨a, cap, by rw [HT.out]; rfl, by rw [HT.out]; exact HO2.out, HB2.out⟩
      · have hk' : ((k : Int) == 0) = false := by simpa using hk
        have HT := Lib.hid (farT_step HF.out (by rw [HR.out]) (by rw [HR.out]; exact hk))
        have HN := Lib.hid (show FarT l nx (ts ++ [⟨k, st, n, x⟩]) ∧ i < nx by have := HT.out; rw [HR.out] at this; exact this)
        clear hk HT
        (go_upto_region 4 with fail)
        generalize w2.alloc (.cells #[.int .i64 k, .string ⟨st.toArray⟩, .int .i64 n, .int .i64 x] 30) = w3 at *
        go_wp2_with (at_builtin; refine wpList_append_own _ rfl _ _ 24 rfl w.heap.size 30 i0 _ 4 40 Tryz.underlying24 hi hz0 hz1 hz2 rfl (by decide) _ _ _ rfl (HO2.out.blw (vbox w3 (.cells #[.int .i64 k, .string ⟨st.toArray⟩, .int .i64 n, .int .i64 x] 30))) ⟨w3.heap.size, 0, none⟩ 1 1 (tkv [⟨k, st, n, x⟩]) rfl rfl ?c1 (tkv_one' _) ?c3 ?c4 ?c5 ?_)
        case c1 =>
          intro j u hj
          match j, hj with
          | 0, hj => simp [tkv] at hj; subst hj; simp [Addr.add, go_sem]
          | 1, hj => simp [tkv] at hj; subst hj; simp [Addr.add, go_sem]
          | 2, hj => simp [tkv] at hj; subst hj; simp [Addr.add, go_sem]
          | 3, hj => simp [tkv] at hj; subst hj; simp [Addr.add, go_sem]
          | (j + 4), hj => simp [tkv] at hj
        case c3 => have := HF.out.2.1; have := HI.out; have := HL.out; unfold maxLen; omega
        case c4 => have := HF.out.2.1; have := HI.out; have := HL.out; omega
        case c5 => have := HB2.out.size; simp; omega
        intro v' w4 hown4 hgrow _
        have HB3 := Lib.hid (HB2.out.trans ((vbox w3 (.cells #[.int .i64 k, .string ⟨st.toArray⟩, .int .i64 n, .int .i64 x] 30)).mono HB2.out.size))
        have HB4 := Lib.hid (HB3.out.trans (grown_belowN hgrow HB3.out.size (fun q hq => (World.ownsRow.lt (HO2.out.blw (vbox w3 (.cells #[.int .i64 k, .string ⟨st.toArray⟩, .int .i64 n, .int .i64 x] 30))) q hq).1)))
        obtain ⟨a4, cap4, rfl⟩ := own_shp hown4
        have HO4 := Lib.hid (show OwnT w4 w.heap.size a4 cap4 (ts ++ [⟨k, st, n, x⟩]) by unfold OwnT; rw [List.length_append, tkv_append]; exact hown4)
        clear hown4 hgrow HO2 d0 d1 d2 d3
        go_wp2
        go_roundw
        case rel => exact ⟨nx, ts ++ [⟨k, st, n, x⟩], a4, cap4, rfl, by simp, HO4, HB4, Lib.hid HN.out.1⟩
        case measure => have h1 := HN.out.2; have h2 := HN.out.1.1; simp [intOf]; omega
    · have hcd' : ((cd : Int) != 0) = true := by simp; omega
      have HT := Lib.hid (farT_bad HF.out (by rw [HR.out]; exact hcd))
      have HM := Lib.hid (ownT_made2 w2 (.cells #[.int .i64 k, .string ⟨st.toArray⟩, .int .i64 n, .int .i64 x] 30))
      have HS := Lib.hid (show w.heap.size ≤ w2.heap.size + 1 by have := HB2.out.size; simpa using this)
      clear hcd HO2
      go_wp2
      go_ret2
      exact ⟨_, 0, by rw [HT.out, HR.out]; rfl, by rw [HT.out]; exact OwnT.base HM.out HS.out, HB2.out.trans ((vbox _ _).mono HB2.out.size)⟩
end Go.Proofs.YtelehfefhlgbkaaGreatDoor
/- JoinTokens: the program's and the model's answers. -/
namespace Go.Proofs.YtelehfefhlgbkaaGreatDoor
open Go.RowKit
set_option maxRecDepth 100000
/-- the numbers of a token are ints -/
structure NumIn (t : Tok) : Prop where
  n0 : -9223372036854775808 ≤ t.n
  n1 : t.n ≤ 9223372036854775807
  x0 : -9223372036854775808 ≤ t.x
  x1 : t.x ≤ 9223372036854775807
def wtS (l : List Tok) : Nat := (l.map fun t => t.s.length + 1).sum
theorem wtS_cons (t : Tok) (l : List Tok) : wtS (t :: l) = t.s.length + 1 + wtS l := by simp [wtS]
theorem wtS_take (l : List Tok) (i : Nat) : wtS (l.take i) ≤ wtS l := by
  induction l generalizing i with
  | nil => simp [wtS]
  | cons t l ih =>
    cases i with
    | zero => simp [wtS]
    | succ i => rw [List.take_succ_cons, wtS_cons, wtS_cons]; have := ih i; omega
theorem wtS_len (l : List Tok) : l.length ≤ wtS l := by
  induction l with
  | nil => exact Nat.zero_le _
  | cons t l ih => rw [wtS_cons, List.length_cons]; omega
theorem wtS_mem {l : List Tok} {t : Tok} (h : t ∈ l) : t.s.length ≤ wtS l := by
  induction l with
  | nil => cases h
  | cons u l ih =>
    rw [wtS_cons]
    rcases List.mem_cons.1 h with rfl | h
    · omega
    · have := ih h; omega
theorem itoa_20 (n : Int) (h0 : -9223372036854775808 ≤ n) (h1 : n ≤ 9223372036854775807) : (Lib.itoa n).length ≤ 20 := by
  have h := dec_len 18 n.natAbs (by omega)
  by_cases hn : n < 0
  · rw [itoa_lt hn, List.length_cons]; omega
  · rw [itoa_ge hn]; omega
theorem tokText_len (t : Tok) (h : NumIn t) : (tokText t).length ≤ 6 * t.s.length + 50 := by
  unfold tokText
  split
  · omega
  · split
    · have := quoteL_len t.s; omega
    · split
      · have h1 := itoa_20 t.n h.n0 h.n1
        have h2 := itoa_20 t.x h.x0 h.x1
        split
        · omega
        · simp only [List.length_append, List.length_cons]; omega
      · simp
theorem joinT_len : ∀ (l : List Tok), (∀ t ∈ l, NumIn t) → (joinT l).length ≤ 60 * wtS l
  | [], _ => by rw [joinT_nil]; exact Nat.zero_le _
  | [t], h => by
    rw [joinT_one, wtS_cons]
    have := tokText_len t (h t List.mem_cons_self)
    omega
  | t :: u :: r, h => by
    rw [joinT_cons, wtS_cons]
    have h1 := tokText_len t (h t List.mem_cons_self)
    have h2 := joinT_len (u :: r) (fun x hx => h x (List.mem_cons_of_mem _ hx))
    simp only [List.length_append, List.length_cons]
    omega
theorem joinT_snoc : ∀ (l : List Tok) (t : Tok), l ≠ [] → joinT (l ++ [t]) = joinT l ++ 32 :: tokText t
  | [], _, h => absurd rfl h
  | [u], t, _ => by rw [List.singleton_append, joinT_cons, joinT_one, joinT_one]
  | u :: v :: r, t, _ => by
    have ih := joinT_snoc (v :: r) t (by simp)
    rw [List.cons_append, List.cons_append, joinT_cons, ← List.cons_append, ih, joinT_cons, List.append_assoc]
    rfl
theorem joinT_take {l : List Tok} {i : Nat} (h : i < l.length) (h0 : i ≠ 0) : joinT (l.take (i + 1)) = joinT (l.take i) ++ 32 :: tokText l[i] := by
  rw [List.take_succ_eq_append_getElem h]
  exact joinT_snoc _ _ (by intro e; have := congrArg List.length e; rw [List.length_take, List.length_nil] at this; omega)
theorem joinT_take0 {l : List Tok} (h : 0 < l.length) : joinT (l.take 1) = tokText l[0] := by
  rw [show (1 : Nat) = 0 + 1 from rfl, List.take_succ_eq_append_getElem h]
  simp [joinT_one]
theorem ba_sp (a b : List UInt8) : (ByteArray.mk a.toArray) ++ (ByteArray.mk #[32]) ++ (ByteArray.mk b.toArray) = ByteArray.mk (a ++ 32 :: b).toArray := by
  apply ByteArray.ext; simp
theorem ba_nil (b : List UInt8) : (ByteArray.mk #[]) ++ (ByteArray.mk b.toArray) = ByteArray.mk b.toArray := by
  apply ByteArray.ext; simp
set_option maxHeartbeats 2000000 in
theorem jointok_spec (l : List Tok) (a : Option Addr) (cap : Nat) (w : World) (N : Nat) (h : TkAt w N a cap l) (hN : N ≤ w.heap.size) (hl : wtS l ≤ 2097152) (hn : ∀ t ∈ l, NumIn t) :
    Calls Tryz.prog 10 #[.slice a l.length cap] w fun e w' => e = .returned (.string ⟨(joinT l).toArray⟩) ∧ Below w.heap.size w w' := by
  have H := Lib.hid h
  have HNN := Lib.hid hN
  have HL := Lib.hid (fun i => show (joinT (l.take i)).length ≤ 125829120 by
    have h1 := joinT_len (l.take i) (fun t ht => hn t (List.mem_of_mem_take ht))
    have h2 := wtS_take l i
    omega)
  have hlen : (l.length : Int) ≤ 2097152 := by have := wtS_len l; omega
  have CT := Lib.hid (fun (i : Nat) (hi : i < l.length) (W : World) => toktext_spec l[i] W (by have := wtS_mem (List.getElem_mem hi); omega) (hn _ (List.getElem_mem hi)).n0 (hn _ (List.getElem_mem hi)).n1 (hn _ (List.getElem_mem hi)).x0 (hn _ (List.getElem_mem hi)).x1)
  have HTL := Lib.hid (fun (i : Nat) (hi : i < l.length) => show (tokText l[i]).length ≤ 125829120 by
    have h1 := tokText_len l[i] (hn _ (List.getElem_mem hi))
    have h2 := wtS_mem (List.getElem_mem hi)
    omega)
  clear h hN hl hn
  go_enter Tryz.func10, Tryz.ntmps10
  go_wp2
  go_loopw [3, 4] (fun s i wr => ∃ i' : Nat, i = .int .i64 i' ∧ s = .string ⟨(joinT (l.take i')).toArray⟩ ∧ i' ≤ l.length ∧ Hid (Below w.heap.size w wr)) (fun _ i _ => l.length - (intOf i).toNat)
  case atStart => exact ⟨0, rfl, by simp [joinT_nil], Nat.zero_le _, Lib.hid (Below.refl _ _)⟩
  case round =>
    obtain ⟨i', rfl, rfl, hi', HB⟩ := hrel
    by_cases hlt : i' < l.length
    · obtain ⟨b, o, rfl, hbN, c0, c1, c2, c3⟩ := H.out.cell i' hlt
      replace c0 := (HB.out.cell (p := ⟨b, o + i' * 4, none⟩) (by have := HNN.out; show b < w.heap.size; omega)).trans c0
      replace c1 := (HB.out.cell (p := ⟨b, o + i' * 4 + 1, none⟩) (by have := HNN.out; show b < w.heap.size; omega)).trans c1
      replace c2 := (HB.out.cell (p := ⟨b, o + i' * 4 + 2, none⟩) (by have := HNN.out; show b < w.heap.size; omega)).trans c2
      replace c3 := (HB.out.cell (p := ⟨b, o + i' * 4 + 3, none⟩) (by have := HNN.out; show b < w.heap.size; omega)).trans c3
      have ct := CT.out i' hlt wr
      have hl1 := HL.out i'
      have hl2 := HTL.out i' hlt
      have HJ := Lib.hid (fun (h0 : i' ≠ 0) => joinT_take hlt h0)
      have HJ0 := Lib.hid (fun (h0 : i' = 0) => show joinT (l.take (i' + 1)) = tokText l[i'] by subst h0; exact joinT_take0 hlt)
      generalize hT : l[i'] = t at *
      obtain ⟨k, st, n, x⟩ := t
      simp only [Tok.val] at ct c0 c1 c2 c3
      generalize tokText ⟨k, st, n, x⟩ = T at *
      have CT1 := Lib.hid ct
      clear hT ct
      by_cases h0 : i' = 0
      · have HE := Lib.hid (HJ0.out h0)
        have hz : ¬ ((0 : Int) < i') := by omega
        have hnil : joinT (l.take i') = [] := by rw [h0]; rfl
        rw [hnil]
        have HI := Lib.hid h0
        clear h0 hnil HJ HJ0 hl1
        have hb1 : ¬ (9223372036854775807 < T.length) := by omega
        go_wp2_with fail
        refine CT1.out.mono ?_
        rintro e w2 ⟨rfl, hb2⟩
        have HB2 := Lib.hid (HB.out.trans (hb2.mono HB.out.size))
        clear hb2 CT1 c0 c1 c2 c3
        go_wp2
        go_roundw
        case rel => exact ⟨i' + 1, by go_num, by rw [HE.out, ← ba_nil T]; first | rfl | simp, by omega, HB2⟩
        case measure => simp [intOf]; omega
      · have HE := Lib.hid (HJ.out h0)
        have hz : (0 : Int) < i' := by omega
        clear h0 HJ HJ0
        generalize joinT (l.take i') = J at *
        have hb1 : ¬ (9223372036854775807 < J.length + 1) := by omega
        have hb2 : ¬ (9223372036854775807 < J.length + 1 + T.length) := by omega
        go_wp2_with fail
        refine CT1.out.mono ?_
        rintro e w2 ⟨rfl, hb2⟩
        have HB2 := Lib.hid (HB.out.trans (hb2.mono HB.out.size))
        clear hb2 CT1 c0 c1 c2 c3
        go_wp2
        go_roundw
        case rel => exact ⟨i' + 1, by go_num, by rw [HE.out, ← ba_sp], by omega, HB2⟩
        case measure => simp [intOf]; omega
    · have heq : i' = l.length := by omega
      have HE : Hid (joinT (l.take i') = joinT l) := Lib.hid (by rw [heq, List.take_length])
      generalize joinT (l.take i') = J at *
      clear heq
      go_wp2
      go_ret
      exact ⟨by rw [← HE.out]; rfl, HB.out⟩
def txv (l : List Tok) : List Value := l.map fun t => .string ⟨(tokText t).toArray⟩
@[simp] theorem txv_length (l : List Tok) : (txv l).length = l.length := by simp [txv]
theorem txv_append (l m : List Tok) : txv (l ++ m) = txv l ++ txv m := by simp [txv]
theorem strInfo : (Tryz.prog.info? 9).map (fun i => (i.zero, i.size, i.bytes)) = some (some (.string ⟨#[]⟩), 1, 16) := by kernel_rfl
theorem ownX_made (w : World) : (w.alloc (.cells #[] 9)).ownsRow w.heap.size 9 1 (.slice (some ⟨w.heap.size, 0, none⟩) 0 0) 0 [] := World.ownsRow_made (e := 9) (size := 1) w #[] 0 (Nat.le_refl _) (by decide) rfl
theorem join_eq (l : List Tok) : Lib.join ((l.map fun t => (⟨(tokText t).toArray⟩ : ByteArray)).map (·.data.toList)) (ByteArray.mk #[32]).data.toList = joinT l := by
  unfold joinT
  rw [List.map_map]
  congr 1
set_option maxHeartbeats 2000000 in
theorem jointok_impl (l : List Tok) (a : Option Addr) (cap : Nat) (w : World) (N : Nat) (h : TkAt w N a cap l) (hN : N ≤ w.heap.size) (hl : wtS l ≤ 2097152) (hn : ∀ t ∈ l, NumIn t) (htab : Lib.TabIs Tryz.prog w "internal/strconv.uint64pow10" .u64 Lib.pow10Tab) :
    Calls Tryz.prog 7 #[.slice a l.length cap] w fun e w' => e = .returned (.string ⟨(joinT l).toArray⟩) ∧ Below w.heap.size w w' := by
  obtain ⟨i0, hi, hz0, hz1, hz2⟩ := info_parts strInfo
  have H := Lib.hid h
  have HNN := Lib.hid hN
  have HJL := Lib.hid (show (joinT l).length ≤ 125829120 by have h1 := joinT_len l hn; omega)
  have hlen : (l.length : Int) ≤ 2097152 := by have := wtS_len l; omega
  have HLN := Lib.hid hlen
  have CT := Lib.hid (fun (i : Nat) (hi : i < l.length) (W : World) (hb : Below w.heap.size w W) => toktext_impl l[i] W (by have := wtS_mem (List.getElem_mem hi); omega) (hn _ (List.getElem_mem hi)).n0 (hn _ (List.getElem_mem hi)).n1 (hn _ (List.getElem_mem hi)).x0 (hn _ (List.getElem_mem hi)).x1 (tab_blw hb htab))
  have HW0 := Lib.hid (ownX_made w)
  have HB0 := Lib.hid (vbox w (.cells #[] 9))
  clear h hN hl hn htab
  go_enter Tryz.func7, Tryz.ntmps7
  go_wp2
  generalize w.alloc (.cells #[] 9) = w1 at *
  go_loopw [3, 9] (fun s i wr => ∃ i' : Nat, i = .int .i64 i' ∧ i' ≤ l.length ∧ Hid (wr.ownsRow w.heap.size 9 1 s i' (txv (l.take i'))) ∧ Hid (s ≠ .slice none 0 0) ∧ Hid (Below w.heap.size w wr)) (fun _ i _ => l.length - (intOf i).toNat)
  case atStart => exact ⟨0, rfl, Nat.zero_le _, HW0, Lib.hid (by simp), HB0⟩
  case round =>
    obtain ⟨i', rfl, hi', HO, HNL, HB⟩ := hrel
    by_cases hlt : i' < l.length
    · obtain ⟨b, o, rfl, hbN, c0, c1, c2, c3⟩ := H.out.cell i' hlt
      replace c0 := (HB.out.cell (p := ⟨b, o + i' * 4, none⟩) (by have := HNN.out; show b < w.heap.size; omega)).trans c0
      replace c1 := (HB.out.cell (p := ⟨b, o + i' * 4 + 1, none⟩) (by have := HNN.out; show b < w.heap.size; omega)).trans c1
      replace c2 := (HB.out.cell (p := ⟨b, o + i' * 4 + 2, none⟩) (by have := HNN.out; show b < w.heap.size; omega)).trans c2
      replace c3 := (HB.out.cell (p := ⟨b, o + i' * 4 + 3, none⟩) (by have := HNN.out; show b < w.heap.size; omega)).trans c3
      have CT1 := Lib.hid (fun W hb => CT.out i' hlt W hb)
      have HS := Lib.hid (show txv (l.take (i' + 1)) = txv (l.take i') ++ [.string ⟨(tokText l[i']).toArray⟩] by rw [List.take_succ_eq_append_getElem hlt, txv_append]; rfl)
      have CT2 := CT1.out
      generalize l[i'] = t at *
      obtain ⟨k, st, n, x⟩ := t
      simp only [Tok.val] at CT2 c0 c1 c2 c3
      generalize tokText ⟨k, st, n, x⟩ = T at *
      have CT3 := Lib.hid CT2
      clear CT1 CT2
      have HB1 := Lib.hid (HB.out.trans ((vbox wr (.cells #[.int .i64 k, .string ⟨st.toArray⟩, .int .i64 n, .int .i64 x] 30)).mono HB.out.size))
      have HO1 := Lib.hid (own_heap HO.out (w' := wr.alloc (.cells #[.int .i64 k, .string ⟨st.toArray⟩, .int .i64 n, .int .i64 x] 30)) (fun q hq => (vbox wr _).block q (World.ownsRow.lt HO.out q hq).2))
      obtain ⟨d0, d1, d2, d3⟩ := tc_new wr ⟨k, st, n, x⟩ 30
      simp only at d0 d1 d2 d3
      (go_upto_region 5 with fail)
      generalize wr.alloc (.cells #[.int .i64 k, .string ⟨st.toArray⟩, .int .i64 n, .int .i64 x] 30) = w2 at *
      clear c0 c1 c2 c3 HO HB
      go_wp2_with fail
      refine (CT3.out w2 HB1.out).mono ?_
      rintro e w3 ⟨rfl, hb3⟩
      have HB3 := Lib.hid (HB1.out.trans (hb3.mono HB1.out.size))
      have HO3 := Lib.hid (own_heap HO1.out (w' := w3) (fun q hq => hb3.block q (World.ownsRow.lt HO1.out q hq).2))
      have HO4 := Lib.hid (own_heap HO3.out (w' := w3.alloc (.cells #[.string ⟨T.toArray⟩] 9)) (fun q hq => (vbox w3 _).block q (World.ownsRow.lt HO3.out q hq).2))
      clear hb3 HO1 HB1 CT3 d0 d1 d2 d3 HO3
      go_wp2_with (at_builtin; refine wpList_append_own _ rfl _ _ 44 rfl w.heap.size 9 i0 (.string ⟨#[]⟩) 1 16 Tryz.underlying44 hi hz0 hz1 hz2 rfl (by decide) _ _ _ rfl HO4.out ⟨w3.heap.size, 0, none⟩ 1 1 [.string ⟨T.toArray⟩] rfl rfl ?c1 ?c2 ?c3 ?c4 ?c5 ?_)
      case c1 =>
        intro j u hj
        match j, hj with
        | 0, hj => simp at hj; subst hj; simp [Addr.add]
        | (j + 1), hj => simp at hj
      case c2 => intro u hu; simp at hu; rcases hu with rfl; rfl
      case c3 => have := HLN.out; unfold maxLen; omega
      case c4 => have := HLN.out; omega
      case c5 => have := HB3.out.size; simp; omega
      intro v' w4 hown4 hgrow hnil
      have HB4 := Lib.hid ((HB3.out.trans ((vbox w3 (.cells #[.string ⟨T.toArray⟩] 9)).mono HB3.out.size)).trans (grown_belowN hgrow (HB3.out.trans ((vbox w3 (.cells #[.string ⟨T.toArray⟩] 9)).mono HB3.out.size)).size (fun q hq => (World.ownsRow.lt HO4.out q hq).1)))
      have HO5 := Lib.hid (show w4.ownsRow w.heap.size 9 1 v' (i' + 1) (txv (l.take (i' + 1))) by rw [HS.out]; exact hown4)
      have HN5 := Lib.hid (show v' ≠ .slice none 0 0 from hnil)
      clear hown4 hgrow hnil HO4
      go_wp2
      go_roundw
      case rel => exact ⟨i' + 1, by go_num, by omega, HO5, HN5, HB4⟩
      case measure => simp [intOf]; omega
    · obtain rfl : i' = l.length := by omega
      rw [List.take_length] at HO
      rcases HO.out.2 with ⟨hv, _⟩ | ⟨g, cp, cur, rfl, hbg, hg, hnc, hcm, hcs, htake⟩
      · exact absurd hv HNL.out
      have hgl := (World.ownsRow.lt HO.out g rfl).2
      have cj := Tryz.strings_Join g 0 cp (l.map fun t => (⟨(tokText t).toArray⟩ : ByteArray)) ⟨#[32]⟩ wr (fun j x hx => by
        have hj : j < l.length := by
          rcases Nat.lt_or_ge j l.length with h | h
          · exact h
          · rw [List.getElem?_eq_none (by simpa using h)] at hx; cases hx
        rw [Nat.zero_add, World.ownsRow.cellAt HO.out j (by omega)]
        have : (txv l)[j]? = some (.string x) := by
          unfold txv
          rw [List.getElem?_map] at hx ⊢
          cases hq : l[j]? with
          | none => rw [hq] at hx; cases hx
          | some t => rw [hq] at hx; simp at hx; subst hx; rfl
        exact this) hgl (by have := HLN.out; simp; omega) (by simpa using hnc) (by rw [join_eq]; have := HJL.out; omega)
      rw [join_eq, List.length_map] at cj
      have HBB := Lib.hid HB.out
      clear HO hbg hg hnc hcm hcs htake HNL
      obtain ⟨J, hJ⟩ : ∃ J, J = joinT l := ⟨_, rfl⟩
      rw [← hJ] at cj
      have HJ := Lib.hid hJ
      clear hJ
      go_wp2_with fail
      refine cj.mono ?_
      rintro e w5 ⟨rfl, hb5⟩
      have HB5 := Lib.hid (HBB.out.trans (hb5.mono HBB.out.size))
      clear cj hb5
      go_wp2
      go_ret
      exact ⟨by rw [← HJ.out]; rfl, HB5.out⟩
end Go.Proofs.YtelehfefhlgbkaaGreatDoor
