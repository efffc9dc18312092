/- PathText of the model and of the program: plain, and the text of a step. -/
import Derived.Test.YtgfebmnlcihpnaaDoorAtSpec
import Derived.Test.YtgfebmnlcihpnaaDoorNumText
import Derived.Test.YtgfebmnlcihpnaaDoorConv
namespace Go.Proofs.YtgfebmnlcihpnaaDoor
open Go.RowKit
set_option maxRecDepth 100000
def PT.s : PT → List UInt8 | .mk _ _ _ s _ => s
theorem pts (T : AT) : T.pt.s = T.s := by cases T; rfl
/-- what stands for the pair number i -/
def pairTx (t : PT) (i : Int) : List UInt8 := match t.l[2 * i.toNat]? with | some u => if u.k = 7 then u.s else 35 :: Lib.itoa i | none => 35 :: Lib.itoa i
def stepTx (t : PT) (s : St) : List UInt8 :=
  if t.k = 10 then 46 :: (pairTx t s.1 ++ (if s.2 = true then [126] else [])) else if t.k = 11 then [33] else 91 :: (Lib.itoa s.1 ++ [93])
def tailTx : List St → PT → List UInt8
  | [], _ => []
  | s :: p, t => match t.step s with | some u => stepTx t s ++ tailTx p u | none => []
theorem tail_some {T : AT} {s : St} {p : List St} {j : Nat} (h : plc T.k T.l.length s = some j) (hj : j < T.l.length) : tailTx (s :: p) T.pt = stepTx T.pt s ++ tailTx p (T.l[j]).pt := by
  simp only [tailTx]; rw [step_some h hj]
theorem tail_none {T : AT} {s : St} {p : List St} (h : plc T.k T.l.length s = none) : tailTx (s :: p) T.pt = [] := by
  simp only [tailTx]; rw [step_none h]
theorem dd_len : ∀ k (v : Nat), v < 10 ^ (k + 1) → (Lib.decDigits v).length ≤ k + 1 := by
  intro k
  induction k with
  | zero => intro v hv; rw [Lib.decDigits, dif_pos (by omega)]; simp
  | succ k ih =>
    intro v hv
    rw [Lib.decDigits]
    by_cases h : v < 10
    · rw [dif_pos h]; simp
    · rw [dif_neg h, List.length_append]
      have := ih (v / 10) (by rw [Nat.pow_succ] at hv; omega)
      simp only [List.length_singleton]
      omega
theorem itoa_len (i : Int) (h : -9223372036854775808 ≤ i ∧ i ≤ 9223372036854775807) : (Lib.itoa i).length ≤ 20 := by
  unfold Lib.itoa
  split
  · have := dd_len 18 i.natAbs (by have : (10 : Nat) ^ (18 + 1) = 10000000000000000000 := by decide
                                   omega)
    simp only [List.length_cons]; omega
  · have := dd_len 18 i.toNat (by have : (10 : Nat) ^ (18 + 1) = 10000000000000000000 := by decide
                                  omega)
    omega
theorem len_text (T : AT) (h : T.pt.sz ≤ 1048576) : T.s.length ≤ 1048576 := by obtain ⟨k, n, x, s, a, cap, l⟩ := T; simp [AT.pt, PT.sz] at h; simp [AT.s]; omega
/-- where a pair's name stands, if a step leads somewhere -/
theorem plc_name {len : Nat} {s : St} {j : Nat} (h : plc 10 len s = some j) : 0 ≤ s.1 ∧ 2 * s.1.toNat < len ∧ s.1 ≤ len := by
  have hb := mapOff_bd s
  rw [plc_map rfl] at h
  by_cases h1 : 0 ≤ s.1 ∧ mapOff s < len
  · omega
  · rw [if_neg h1] at h; cases h
theorem pair_name {T : AT} {i : Int} (h : 2 * i.toNat < T.l.length) : pairTx T.pt i = if (T.l[2 * i.toNat]).k = 7 then (T.l[2 * i.toNat]).s else 35 :: Lib.itoa i := by
  unfold pairTx
  rw [ptl, List.getElem?_map, List.getElem?_eq_getElem h]
  show (if (T.l[2 * i.toNat]).pt.k = 7 then (T.l[2 * i.toNat]).pt.s else _) = _
  rw [ptk, pts]
theorem str_ret {a b : ByteArray} (h : a = b) : Ending.returned (.string a) = .returned (.string b) := by rw [h]
theorem lit1 (a : UInt8) : (⟨#[a]⟩ : ByteArray) = ⟨([a] : List UInt8).toArray⟩ := rfl
theorem lit2 (a b : UInt8) : (⟨#[a, b]⟩ : ByteArray) = ⟨([a, b] : List UInt8).toArray⟩ := rfl
theorem pair_bound (T : AT) (i : Int) (hsz : T.pt.sz ≤ 1048576) (hi : -9223372036854775808 ≤ i ∧ i ≤ 9223372036854775807) : (pairTx T.pt i).length ≤ 1048600 := by
  unfold pairTx
  have h1 := itoa_len i hi
  cases h : T.pt.l[2 * i.toNat]? with
  | none => simp; omega
  | some u =>
    simp only
    have hm := List.mem_of_getElem? h
    have h2 := sz_sub hm
    have h3 : u.s.length ≤ u.sz := by obtain ⟨k, n, x, s, l⟩ := u; simp [PT.s, PT.sz]
    split
    · omega
    · simp; omega
theorem step_bound (T : AT) (s : St) (hsz : T.pt.sz ≤ 1048576) (hi : -9223372036854775808 ≤ s.1 ∧ s.1 ≤ 9223372036854775807) : (stepTx T.pt s).length ≤ 1048700 := by
  have h1 := itoa_len s.1 hi
  have h2 := pair_bound T s.1 hsz hi
  unfold stepTx
  split
  · split <;> simp <;> omega
  · split
    · simp
    · simp; omega
set_option maxHeartbeats 4000000 in
theorem l8text_spec (T : AT) (s : St) (j : Nat) (w : World) (N : Nat) (hin : T.In w N) (hN : N ≤ w.heap.size) (hp : plc T.k T.l.length s = some j) (hsz : T.pt.sz ≤ 1048576) (hi : -9223372036854775808 ≤ s.1 ∧ s.1 ≤ 9223372036854775807) :
    Calls Tryd.prog 45 #[T.val, s.val] w fun e w' => e = .returned (.string ⟨(stepTx T.pt s).toArray⟩) ∧ Below w.heap.size w w' := by
  have hll : T.l.length ≤ 1048576 := by have := len_le_sz T; omega
  obtain ⟨i, b⟩ := s
  have HNT := Lib.hid (fun W => numtext_spec i W hi.1 hi.2)
  have hD := itoa_len i hi
  obtain ⟨W0, hW0⟩ : ∃ W0, W0 = (w.alloc (.cells #[.int .i64 T.k, .int .i64 T.n, .int .i64 T.x, .string ⟨T.s.toArray⟩, .slice T.a T.l.length T.cap] 26)).alloc (.cells #[.int .i64 i, .bool b] 34) := ⟨_, rfl⟩
  have hbx : Below w.heap.size w W0 := by rw [hW0]; exact boxes2 _ _ _
  have hvc : VC W0 w.heap.size T.k T.n T.x ⟨T.s.toArray⟩ T.a T.l.length T.cap := by rw [hW0]; refine ⟨?_, ?_, ?_, ?_, ?_⟩ <;> simp [go_sem]
  have hsb : W0.cell? ⟨w.heap.size + 1, 0, none⟩ = some (.int .i64 i) ∧ W0.cell? ⟨w.heap.size + 1, 1, none⟩ = some (.bool b) := by rw [hW0]; constructor <;> simp [go_sem]
  have HBX := Lib.hid hbx
  have HVC := Lib.hid hvc
  have HSBX := Lib.hid hsb
  have H := Lib.hid hin.lv'
  have HW0 := Lib.hid hW0.symm
  clear hbx hin hvc hsb hW0
  show Calls Tryd.prog 45 #[.agg #[.int .i64 T.k, .int .i64 T.n, .int .i64 T.x, .string ⟨T.s.toArray⟩, .slice T.a T.l.length T.cap], .agg #[.int .i64 i, .bool b]] w _
  by_cases hk : T.k = 10
  · have hkb : (T.k == 10) = true := by simpa using hk
    have hst : stepTx T.pt (i, b) = 46 :: (pairTx T.pt i ++ (if b = true then [126] else [])) := by unfold stepTx; rw [ptk, if_pos hk]
    obtain ⟨h0, h1, h2⟩ := plc_name (by rw [hk] at hp; exact hp)
    simp only at h0 h1 h2
    rw [hst, pair_name h1]
    obtain ⟨bb, oo, ha, hbN, hC⟩ := H.out.cell (2 * i.toNat) h1
    have HC := Lib.hid hC
    have hus : (T.l[2 * i.toNat]).s.length ≤ 1048576 := len_text _ (Nat.le_trans (sz_sub (by rw [ptl]; exact List.mem_map_of_mem (List.getElem_mem h1))) hsz)
    obtain ⟨q, hq⟩ : ∃ q : Nat, q = i.toNat := ⟨_, rfl⟩
    obtain rfl : i = (q : Int) := by omega
    simp only [Int.toNat_natCast] at *
    generalize T.l[2 * q] = U at *
    have HA := Lib.hid ha
    have hw2 : IntKind.i64.wrap (2 * (q : Int)) = 2 * (q : Int) := IntWalk.i64_in _ (by omega)
    have hq1 : 2 * (q : Int) < T.l.length := by omega
    have hq0 : 0 ≤ 2 * (q : Int) := by omega
    generalize Lib.itoa (q : Int) = D at *
    clear hst hk hp hq ha hC h0 h1 h2
    by_cases hu : U.k = 7
    · rw [if_pos hu]
      have hub : (U.k == 7) = true := by simpa using hu
      cases b
      · go_enter Tryd.func45, Tryd.ntmps45
        go_wp2_with fail
        rw [HW0.out]
        refine (HNT.out _).mono ?_
        rintro e w1 ⟨rfl, hb1⟩
        have HB1 := Lib.hid (HBX.out.trans (hb1.mono HBX.out.size))
        obtain ⟨c0, c1, c2, c3, c4⟩ := HVC.out.blw hb1
        have s0 := keep_below hb1 HSBX.out.1
        have s1 := keep_below hb1 HSBX.out.2
        obtain ⟨f0, f1, f2, f3, f4⟩ := HC.out.keep (HB1.out.block bb (by omega))
        rw [HA.out] at c4
        clear hb1
        go_wp2
        go_ret
        refine ⟨str_ret ?_, HB1.out⟩
        simp only [lit1, lit2, cat_eq]
        try simp
      · go_enter Tryd.func45, Tryd.ntmps45
        go_wp2_with fail
        rw [HW0.out]
        refine (HNT.out _).mono ?_
        rintro e w1 ⟨rfl, hb1⟩
        have HB1 := Lib.hid (HBX.out.trans (hb1.mono HBX.out.size))
        obtain ⟨c0, c1, c2, c3, c4⟩ := HVC.out.blw hb1
        have s0 := keep_below hb1 HSBX.out.1
        have s1 := keep_below hb1 HSBX.out.2
        obtain ⟨f0, f1, f2, f3, f4⟩ := HC.out.keep (HB1.out.block bb (by omega))
        rw [HA.out] at c4
        clear hb1
        go_wp2
        go_ret
        refine ⟨str_ret ?_, HB1.out⟩
        simp only [lit1, lit2, cat_eq]
        try simp
    · rw [if_neg hu]
      have hub : (U.k == 7) = false := by simpa using hu
      cases b
      · go_enter Tryd.func45, Tryd.ntmps45
        go_wp2_with fail
        rw [HW0.out]
        refine (HNT.out _).mono ?_
        rintro e w1 ⟨rfl, hb1⟩
        have HB1 := Lib.hid (HBX.out.trans (hb1.mono HBX.out.size))
        obtain ⟨c0, c1, c2, c3, c4⟩ := HVC.out.blw hb1
        have s0 := keep_below hb1 HSBX.out.1
        have s1 := keep_below hb1 HSBX.out.2
        obtain ⟨f0, f1, f2, f3, f4⟩ := HC.out.keep (HB1.out.block bb (by omega))
        rw [HA.out] at c4
        clear hb1
        go_wp2
        go_ret
        refine ⟨str_ret ?_, HB1.out⟩
        simp only [lit1, lit2, cat_eq]
        try simp
      · go_enter Tryd.func45, Tryd.ntmps45
        go_wp2_with fail
        rw [HW0.out]
        refine (HNT.out _).mono ?_
        rintro e w1 ⟨rfl, hb1⟩
        have HB1 := Lib.hid (HBX.out.trans (hb1.mono HBX.out.size))
        obtain ⟨c0, c1, c2, c3, c4⟩ := HVC.out.blw hb1
        have s0 := keep_below hb1 HSBX.out.1
        have s1 := keep_below hb1 HSBX.out.2
        obtain ⟨f0, f1, f2, f3, f4⟩ := HC.out.keep (HB1.out.block bb (by omega))
        rw [HA.out] at c4
        clear hb1
        go_wp2
        go_ret
        refine ⟨str_ret ?_, HB1.out⟩
        simp only [lit1, lit2, cat_eq]
        try simp
  · have hkb : (T.k == 10) = false := by simpa using hk
    by_cases hk2 : T.k = 11
    · have hkb2 : (T.k == 11) = true := by simpa using hk2
      have hst : stepTx T.pt (i, b) = [33] := by unfold stepTx; rw [ptk, if_neg hk, if_pos hk2]
      rw [hst]
      clear hst hk hk2 hp
      go_enter Tryd.func45, Tryd.ntmps45
      go_wp2
      go_ret
      exact ⟨rfl, boxes2 _ _ _⟩
    · have hkb2 : (T.k == 11) = false := by simpa using hk2
      have hst : stepTx T.pt (i, b) = 91 :: (Lib.itoa i ++ [93]) := by unfold stepTx; rw [ptk, if_neg hk, if_neg hk2]
      rw [hst]
      clear hst hk hk2 hp
      generalize Lib.itoa i = D at *
      go_enter Tryd.func45, Tryd.ntmps45
      go_wp2_with fail
      rw [HW0.out]
      refine (HNT.out _).mono ?_
      rintro e w1 ⟨rfl, hb1⟩
      have HB1 := Lib.hid (HBX.out.trans (hb1.mono HBX.out.size))
      clear hb1
      go_wp2
      go_ret
      refine ⟨str_ret ?_, HB1.out⟩
      simp only [lit1, lit2, cat_eq]
      try simp
end Go.Proofs.YtgfebmnlcihpnaaDoor
