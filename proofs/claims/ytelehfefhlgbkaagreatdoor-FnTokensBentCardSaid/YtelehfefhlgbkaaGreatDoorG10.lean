import Derived.Test.YtelehfefhlgbkaaGreatDoorG8
import Derived.Test.YtelehfefhlgbkaaGreatDoorG9
import Derived.Deep.Cut
import Derived.Deep.DeepCutAuto
import Derived.Deep.RegionHeld3
import Derived.Test.YtelehfefhlgbkaaGreatDoorG6
import Derived.Test.YtelehfefhlgbkaaGreatDoorG2
import Derived.Test.YtelehfefhlgbkaaGreatDoorG1
import Derived.WalkKit
import Derived.Lib.Hide
import Derived.Lib.Bytealg
import Derived.Outline
import Derived.ProofKit
import Derived.IntWalk
import Derived.Test.YtelehfefhlgbkaaGreatDoorG0
import Derived.Test.YtelehfefhlgbkaaGreatDoorG5
import Derived.Test.YtelehfefhlgbkaaGreatDoorRows
import Derived.Lib.LaidTab
import Derived.Lib.ItoaNum
import Derived.Stop.LaidErr
import Derived.MakeChecks
import Derived.Shelf.Strconv.ErrVarAll
/- TokenText: the program's and the model's answers. -/
namespace Go.Proofs.YtelehfefhlgbkaaGreatDoor
open Go.RowKit
set_option maxRecDepth 100000
theorem tt_s {t : Tok} (h : t.k = 1 ∨ t.k = 4) : tokText t = t.s := by unfold tokText; rw [if_pos h]
theorem tt_q {t : Tok} (h : t.k = 2) : tokText t = quoteL t.s := by unfold tokText; rw [if_neg (by omega), if_pos h]
theorem tt_n {t : Tok} (h : t.k = 3) : tokText t = if t.x = 0 then Lib.itoa t.n else Lib.itoa t.n ++ 101 :: Lib.itoa t.x := by unfold tokText; rw [if_neg (by omega), if_neg (by omega), if_pos h]
theorem tt_o {t : Tok} (h1 : t.k ≠ 1) (h2 : t.k ≠ 2) (h3 : t.k ≠ 3) (h4 : t.k ≠ 4) : tokText t = [] := by unfold tokText; rw [if_neg (by omega), if_neg h2, if_neg h3]
theorem tab_blw {w w' : World} (hb : Below w.heap.size w w') (h : Lib.TabIs Tryz.prog w "internal/strconv.uint64pow10" .u64 Lib.pow10Tab) : Lib.TabIs Tryz.prog w' "internal/strconv.uint64pow10" .u64 Lib.pow10Tab := by
  unfold Lib.TabIs at h ⊢
  exact var_below hb h
theorem itoa_len (n : Int) (h0 : -9223372036854775808 ≤ n) (h1 : n ≤ 9223372036854775807) : (Lib.itoa n).length ≤ 1000000 := by
  have h := dec_len 19 n.natAbs (by omega)
  by_cases hn : n < 0
  · rw [itoa_lt hn, List.length_cons]; omega
  · rw [itoa_ge hn]; omega
theorem ba_e (a b : List UInt8) : (ByteArray.mk a.toArray) ++ (ByteArray.mk #[101]) ++ (ByteArray.mk b.toArray) = ByteArray.mk (a ++ 101 :: b).toArray := by
  apply ByteArray.ext; simp
theorem ba_e2 (a b : List UInt8) : (ByteArray.mk a.toArray) ++ ((ByteArray.mk #[101]) ++ (ByteArray.mk b.toArray)) = ByteArray.mk (a ++ 101 :: b).toArray := by
  apply ByteArray.ext; simp
set_option maxHeartbeats 2000000 in
theorem numtoken_impl (s : List UInt8) (n x : Int) (w : World) (hn0 : -9223372036854775808 ≤ n) (hn1 : n ≤ 9223372036854775807) (hx0 : -9223372036854775808 ≤ x) (hx1 : x ≤ 9223372036854775807) (htab : Lib.TabIs Tryz.prog w "internal/strconv.uint64pow10" .u64 Lib.pow10Tab) :
    Calls Tryz.prog 32 #[.agg #[.int .i64 3, .string ⟨s.toArray⟩, .int .i64 n, .int .i64 x]] w fun e w' => e = .returned (.string ⟨(tokText ⟨3, s, n, x⟩).toArray⟩) ∧ Below w.heap.size w w' := by
  have HB0 := Lib.hid (vbox w (.cells #[.int .i64 3, .string ⟨s.toArray⟩, .int .i64 n, .int .i64 x] 30))
  have CN := Lib.hid (fun (W : World) (hb : Below w.heap.size w W) => numtext_impl n W hn0 hn1 (tab_blw hb htab))
  have CX := Lib.hid (fun (W : World) (hb : Below w.heap.size w W) => numtext_impl x W hx0 hx1 (tab_blw hb htab))
  have LN := Lib.hid (itoa_len n hn0 hn1)
  have LX := Lib.hid (itoa_len x hx0 hx1)
  clear hn0 hn1 hx0 hx1 htab
  obtain ⟨c0, c1, c2, c3⟩ := tc_new w ⟨3, s, n, x⟩ 30
  simp only at c0 c1 c2 c3
  rw [tt_n rfl]
  simp only
  obtain ⟨w1, hw1⟩ : ∃ w1, w1 = w.alloc (.cells #[.int .i64 3, .string ⟨s.toArray⟩, .int .i64 n, .int .i64 x] 30) := ⟨_, rfl⟩
  rw [← hw1] at c0 c1 c2 c3 HB0
  have HW := Lib.hid hw1
  clear hw1
  by_cases h0 : x = 0
  · subst h0
    rw [if_pos rfl]
    go_enter Tryz.func32, Tryz.ntmps32
    (go_upto_region 1 with fail)
    rw [← HW.out]
    clear HW
    go_wp2_with fail
    refine (CN.out _ HB0.out).mono ?_
    rintro e w2 ⟨rfl, hb⟩
    replace c3 := keep_below hb c3
    go_wp2
    go_ret
    exact ⟨rfl, HB0.out.trans (hb.mono HB0.out.size)⟩
  rw [if_neg h0]
  have hx : ((x : Int) != 0) = true := by simpa using h0
  have CN' := CN.out
  have CX' := CX.out
  have LN' := LN.out
  have LX' := LX.out
  clear CN CX LN LX
  rw [← ba_e2]
  generalize Lib.itoa n = a at *
  generalize Lib.itoa x = b at *
  have CN := Lib.hid CN'
  have CX := Lib.hid CX'
  have hs1 : ¬ (9223372036854775807 < 1 + b.length) := by omega
  have hs2 : ¬ (9223372036854775807 < a.length + (1 + b.length)) := by omega
  clear CN' CX' LN' LX' h0
  go_enter Tryz.func32, Tryz.ntmps32
  (go_upto_region 1 with fail)
  rw [← HW.out]
  clear HW
  go_wp2_with fail
  refine (CN.out _ HB0.out).mono ?_
  rintro e w2 ⟨rfl, hb⟩
  replace c3 := keep_below hb c3
  have HB2 := Lib.hid (HB0.out.trans (hb.mono HB0.out.size))
  clear hb
  go_wp2_with fail
  refine (CX.out _ HB2.out).mono ?_
  rintro e w3 ⟨rfl, hb⟩
  have HB3 := Lib.hid (HB2.out.trans (hb.mono HB2.out.size))
  clear hb
  go_wp2
  go_ret
  exact ⟨rfl, HB3.out⟩
set_option maxHeartbeats 2000000 in
theorem toktext_impl (t : Tok) (w : World) (hs : t.s.length ≤ 1073741824) (hn0 : -9223372036854775808 ≤ t.n) (hn1 : t.n ≤ 9223372036854775807) (hx0 : -9223372036854775808 ≤ t.x) (hx1 : t.x ≤ 9223372036854775807) (htab : Lib.TabIs Tryz.prog w "internal/strconv.uint64pow10" .u64 Lib.pow10Tab) :
    Calls Tryz.prog 11 #[t.val] w fun e w' => e = .returned (.string ⟨(tokText t).toArray⟩) ∧ Below w.heap.size w w' := by
  obtain ⟨k, s, n, x⟩ := t
  simp only at hs hn0 hn1 hx0 hx1
  have HB0 := Lib.hid (vbox w (.cells #[.int .i64 k, .string ⟨s.toArray⟩, .int .i64 n, .int .i64 x] 30))
  have cq := quote_impl s (w.alloc (.cells #[.int .i64 k, .string ⟨s.toArray⟩, .int .i64 n, .int .i64 x] 30)) hs
  have CN := Lib.hid (fun (W : World) (hb : Below w.heap.size w W) => numtext_impl n W hn0 hn1 (tab_blw hb htab))
  have CX := Lib.hid (fun (W : World) (hb : Below w.heap.size w W) => numtext_impl x W hx0 hx1 (tab_blw hb htab))
  have CF := Lib.hid (fun (W : World) (hb : Below w.heap.size w W) => numtoken_impl s n x W hn0 hn1 hx0 hx1 (tab_blw hb htab))
  have LN := Lib.hid (itoa_len n hn0 hn1)
  have LX := Lib.hid (itoa_len x hx0 hx1)
  clear hn0 hn1 hx0 hx1 hs htab
  show Calls Tryz.prog 11 #[.agg #[.int .i64 k, .string ⟨s.toArray⟩, .int .i64 n, .int .i64 x]] w _
  obtain ⟨c0, c1, c2, c3⟩ := tc_new w ⟨k, s, n, x⟩ 30
  simp only at c0 c1 c2 c3
  obtain ⟨w1, hw1⟩ : ∃ w1, w1 = w.alloc (.cells #[.int .i64 k, .string ⟨s.toArray⟩, .int .i64 n, .int .i64 x] 30) := ⟨_, rfl⟩
  rw [← hw1] at c0 c1 c2 c3 cq HB0
  have HW := Lib.hid hw1
  clear hw1
  by_cases h1 : k = 1
  · subst h1
    rw [tt_s (.inl rfl)]
    go_enter Tryz.func11, Tryz.ntmps11
    (go_upto_region 1 with fail)
    rw [← HW.out]
    clear HW
    go_wp2
    go_ret
    exact ⟨rfl, HB0.out⟩
  by_cases h4 : k = 4
  · subst h4
    rw [tt_s (.inr rfl)]
    go_enter Tryz.func11, Tryz.ntmps11
    (go_upto_region 1 with fail)
    rw [← HW.out]
    clear HW
    go_wp2
    go_ret
    exact ⟨rfl, HB0.out⟩
  by_cases h2 : k = 2
  · subst h2
    rw [tt_q rfl]
    go_enter Tryz.func11, Tryz.ntmps11
    (go_upto_region 1 with fail)
    rw [← HW.out]
    clear HW
    go_wp2_with fail
    refine cq.mono ?_
    rintro e w2 ⟨rfl, hb⟩
    go_wp2
    go_ret
    exact ⟨rfl, HB0.out.trans (hb.mono HB0.out.size)⟩
  by_cases h3 : k = 3
  · subst h3
    clear cq
    go_enter Tryz.func11, Tryz.ntmps11
    (go_upto_region 1 with fail)
    rw [← HW.out]
    clear HW
    go_wp2_with fail
    refine (CF.out _ HB0.out).mono ?_
    rintro e w2 ⟨rfl, hb⟩
    go_wp2
    go_ret
    exact ⟨rfl, HB0.out.trans (hb.mono HB0.out.size)⟩
  have k1 : ((k : Int) == 1) = false := by simpa using h1
  have k2 : ((k : Int) == 2) = false := by simpa using h2
  have k3 : ((k : Int) == 3) = false := by simpa using h3
  have k4 : ((k : Int) == 4) = false := by simpa using h4
  rw [tt_o h1 h2 h3 h4]
  clear cq h1 h2 h3 h4
  go_enter Tryz.func11, Tryz.ntmps11
  (go_upto_region 1 with fail)
  rw [← HW.out]
  clear HW
  go_wp2
  go_ret
  exact ⟨rfl, HB0.out⟩
set_option maxHeartbeats 2000000 in
theorem toktext_spec (t : Tok) (w : World) (hs : t.s.length ≤ 1073741824) (hn0 : -9223372036854775808 ≤ t.n) (hn1 : t.n ≤ 9223372036854775807) (hx0 : -9223372036854775808 ≤ t.x) (hx1 : t.x ≤ 9223372036854775807) :
    Calls Tryz.prog 12 #[t.val] w fun e w' => e = .returned (.string ⟨(tokText t).toArray⟩) ∧ Below w.heap.size w w' := by
  obtain ⟨k, s, n, x⟩ := t
  simp only at hs hn0 hn1 hx0 hx1
  have HB0 := Lib.hid (vbox w (.cells #[.int .i64 k, .string ⟨s.toArray⟩, .int .i64 n, .int .i64 x] 30))
  have cq := quote_spec s (w.alloc (.cells #[.int .i64 k, .string ⟨s.toArray⟩, .int .i64 n, .int .i64 x] 30)) hs
  have CN := Lib.hid (fun (W : World) => numtext_spec n W hn0 hn1)
  have CX := Lib.hid (fun (W : World) => numtext_spec x W hx0 hx1)
  have LN := Lib.hid (itoa_len n hn0 hn1)
  have LX := Lib.hid (itoa_len x hx0 hx1)
  clear hn0 hn1 hx0 hx1 hs
  show Calls Tryz.prog 12 #[.agg #[.int .i64 k, .string ⟨s.toArray⟩, .int .i64 n, .int .i64 x]] w _
  obtain ⟨c0, c1, c2, c3⟩ := tc_new w ⟨k, s, n, x⟩ 30
  simp only at c0 c1 c2 c3
  obtain ⟨w1, hw1⟩ : ∃ w1, w1 = w.alloc (.cells #[.int .i64 k, .string ⟨s.toArray⟩, .int .i64 n, .int .i64 x] 30) := ⟨_, rfl⟩
  rw [← hw1] at c0 c1 c2 c3 cq HB0
  have HW := Lib.hid hw1
  clear hw1
  by_cases h1 : k = 1
  · subst h1
    rw [tt_s (.inl rfl)]
    go_enter Tryz.func12, Tryz.ntmps12
    (go_upto_region 1 with fail)
    rw [← HW.out]
    clear HW
    go_wp2
    go_ret
    exact ⟨rfl, HB0.out⟩
  by_cases h4 : k = 4
  · subst h4
    rw [tt_s (.inr rfl)]
    go_enter Tryz.func12, Tryz.ntmps12
    (go_upto_region 1 with fail)
    rw [← HW.out]
    clear HW
    go_wp2
    go_ret
    exact ⟨rfl, HB0.out⟩
  by_cases h2 : k = 2
  · subst h2
    rw [tt_q rfl]
    go_enter Tryz.func12, Tryz.ntmps12
    (go_upto_region 1 with fail)
    rw [← HW.out]
    clear HW
    go_wp2_with fail
    refine cq.mono ?_
    rintro e w2 ⟨rfl, hb⟩
    go_wp2
    go_ret
    exact ⟨rfl, HB0.out.trans (hb.mono HB0.out.size)⟩
  by_cases h3 : k = 3
  · subst h3
    clear cq
    rw [tt_n rfl]
    simp only
    by_cases h0 : x = 0
    · subst h0
      rw [if_pos rfl]
      go_enter Tryz.func12, Tryz.ntmps12
      (go_upto_region 1 with fail)
      rw [← HW.out]
      clear HW
      go_wp2_with fail
      refine (CN.out _).mono ?_
      rintro e w2 ⟨rfl, hb⟩
      go_wp2
      go_ret
      exact ⟨rfl, HB0.out.trans (hb.mono HB0.out.size)⟩
    · rw [if_neg h0]
      have hx : ((x : Int) != 0) = true := by simpa using h0
      have CN' := CN.out
      have CX' := CX.out
      have LN' := LN.out
      have LX' := LX.out
      clear CN CX LN LX
      generalize Lib.itoa n = a at *
      generalize Lib.itoa x = b at *
      have CN := Lib.hid CN'
      have CX := Lib.hid CX'
      have hs1 : ¬ (9223372036854775807 < a.length + 1) := by omega
      have hs2 : ¬ (9223372036854775807 < a.length + 1 + b.length) := by omega
      clear CN' CX' LN' LX' h0
      go_enter Tryz.func12, Tryz.ntmps12
      (go_upto_region 1 with fail)
      rw [← HW.out]
      clear HW
      (go_upto_region 9 with fail)
      have hB := HB0.out
      clear HB0
      go_region_held3 (fun W' => W'.cell? ⟨w.heap.size, 2, none⟩ = some (.int .i64 n) ∧ W'.cell? ⟨w.heap.size, 3, none⟩ = some (.int .i64 x) ∧ Below w.heap.size w W') ((refine ⟨?_, ?_, ?_⟩ <;> first | with_reducible assumption | (with_reducible refine Below.drew ?_; with_reducible assumption) | with_reducible exact keep_below (by with_reducible assumption) (by with_reducible assumption) | with_reducible exact below_tr (by with_reducible assumption) (by with_reducible assumption) | assumption)) ((first | (go_at_call 34; go_split_ands; with_reducible refine (CN.out _).mono ?_; rintro e u1 ⟨rfl, hb1⟩) | (go_at_call 34; go_split_ands; with_reducible refine (CX.out _).mono ?_; rintro e u2 ⟨rfl, hb2⟩)))
      all_goals go_split_ands
      all_goals go_wp2
      all_goals go_ret
      all_goals exact ⟨by rw [← ba_e]; rfl, by with_reducible assumption⟩
  have k1 : ((k : Int) == 1) = false := by simpa using h1
  have k2 : ((k : Int) == 2) = false := by simpa using h2
  have k3 : ((k : Int) == 3) = false := by simpa using h3
  have k4 : ((k : Int) == 4) = false := by simpa using h4
  rw [tt_o h1 h2 h3 h4]
  clear cq h1 h2 h3 h4
  go_enter Tryz.func12, Tryz.ntmps12
  (go_upto_region 1 with fail)
  rw [← HW.out]
  clear HW
  go_wp2
  go_ret
  exact ⟨rfl, HB0.out⟩
end Go.Proofs.YtelehfefhlgbkaaGreatDoor
/- What the program's byteIn, digitsAt, digitsValue and signed return. -/
namespace Go.Proofs.YtelehfefhlgbkaaGreatDoor
open Go.RowKit
def inS (l set : List UInt8) (i : Nat) : Bool := match l[i]? with
  | some c => set.contains c
  | none => false
theorem find_ge (set : List UInt8) (c : UInt8) : decide (0 ≤ Lib.indexByte set c) = set.contains c := by
  induction set with
  | nil => rfl
  | cons b s ih =>
    have hg := Lib.indexByte_ge s c
    unfold Lib.indexByte
    rw [List.contains_cons, show (c == b) = (b == c) from Bool.beq_comm, ← ih]
    by_cases h : b == c
    · rw [if_pos h, h]; rfl
    · rw [if_neg h, show (b == c) = false by simpa using h, Bool.false_or]
      by_cases h2 : Lib.indexByte s c = -1
      · rw [h2]; rfl
      · rw [if_neg (by simpa using h2)]
        rw [decide_eq_decide]; omega
theorem inS_get {l set : List UInt8} {i : Nat} (h : i < l.length) : inS l set i = set.contains l[i] := by unfold inS; rw [List.getElem?_eq_getElem h]
theorem inS_out {l set : List UInt8} {i : Nat} (h : l.length ≤ i) : inS l set i = false := by unfold inS; rw [List.getElem?_eq_none h]
theorem inS_one (l : List UInt8) (c : UInt8) (i : Nat) : inS l [c] i = atC l i c := by
  rcases Nat.lt_or_ge i l.length with h | h
  · rw [inS_get h, atC_get h]; simp; rfl
  · rw [inS_out h, atC_out h]
theorem inS_two (l : List UInt8) (c d : UInt8) (i : Nat) : inS l [c, d] i = (atC l i c || atC l i d) := by
  rcases Nat.lt_or_ge i l.length with h | h
  · rw [inS_get h, atC_get h, atC_get h]; simp; rfl
  · rw [inS_out h, atC_out h, atC_out h]; rfl
theorem isD_fin : ∀ n : Fin 256, ([48, 49, 50, 51, 52, 53, 54, 55, 56, 57] : List UInt8).contains (UInt8.ofNat n.val) = isD (UInt8.ofNat n.val) := by decide +kernel
theorem isD_list (c : UInt8) : ([48, 49, 50, 51, 52, 53, 54, 55, 56, 57] : List UInt8).contains c = isD c := by
  have h := isD_fin ⟨c.toNat, c.toNat_lt⟩
  rwa [show UInt8.ofNat c.toNat = c by simp] at h
theorem inS_dig (l : List UInt8) (i : Nat) : inS l [48, 49, 50, 51, 52, 53, 54, 55, 56, 57] i = atD l i := by
  rcases Nat.lt_or_ge i l.length with h | h
  · rw [inS_get h, atD_get h, isD_list]
  · rw [inS_out h, atD_out h]
set_option maxRecDepth 20000 in
theorem bytein_any (l set : List UInt8) (i : Nat) (w : World) (hl : l.length ≤ 9223372036854775807) : Calls Tryz.prog 37 #[.string ⟨l.toArray⟩, .int .i64 i, .string ⟨set.toArray⟩] w fun e w' => e = .returned (.bool (inS l set i)) ∧ w = w' := by
  by_cases h : (i : Int) < l.length
  · have hi : i < l.length := by omega
    rw [inS_get hi, ← find_ge]
    have c := Tryz.strings_IndexByte ⟨set.toArray⟩ (l[i].toNat) w
    rw [show ((l[i].toNat : Int)).toNat.toUInt8 = l[i] by simp] at c
    generalize Lib.indexByte (ByteArray.mk set.toArray).data.toList l[i] = r at *
    go_enter Tryz.func37, Tryz.ntmps37
    go_wp2_with (go_at_call 60; refine c.mono ?_; rintro e w' ⟨rfl, rfl⟩)
    go_ret
    exact ⟨rfl, rfl⟩
  · rw [inS_out (by omega)]
    go_enter Tryz.func37, Tryz.ntmps37
    go_wp2
    go_ret
    exact ⟨rfl, rfl⟩
theorem sgn_any (b : Bool) (n : Int) (w : World) (h0 : -9223372036854775807 ≤ n) (h1 : n ≤ 9223372036854775807) : Calls Tryz.prog 101 #[.int .i64 n, .bool b] w fun e w' => e = .returned (.int .i64 (sgnV b n)) ∧ w = w' := by
  unfold sgnV
  cases b
  · go_enter Tryz.func101, Tryz.ntmps101
    go_wp2
    go_ret
    exact ⟨rfl, rfl⟩
  · go_enter Tryz.func101, Tryz.ntmps101
    go_wp2
    go_ret
    exact ⟨rfl, rfl⟩
set_option maxRecDepth 20000 in
theorem digitsat_any (l : List UInt8) (i : Nat) (w : World) (hi : i ≤ l.length) (hl : l.length ≤ 1048576) : Calls Tryz.prog 99 #[.string ⟨l.toArray⟩, .int .i64 i] w fun e w' => e = .returned (.string ⟨(cut l i (dEnd l i)).toArray⟩) ∧ w = w' := by
  have cb := fun k w1 => bytein_any l [48, 49, 50, 51, 52, 53, 54, 55, 56, 57] k w1 (by omega)
  have hL : (l.length : Int) ≤ 1048576 := by omega
  have hI : (i : Int) ≤ l.length := by omega
  go_enter Tryz.func99, Tryz.ntmps99
  go_wp2
  go_loop [5] (fun t => ∃ k : Nat, t = .int .i64 k ∧ Hid (dEnd l k = dEnd l i) ∧ Hid (i ≤ k) ∧ (k : Int) ≤ l.length) (fun t => l.length - (intOf t).toNat)
  case atStart => exact ⟨i, rfl, Lib.hid rfl, Lib.hid (Nat.le_refl _), hI⟩
  case round =>
    obtain ⟨k, rfl, he, hik, hk⟩ := hrel
    have ck := cb k
    rw [inS_dig] at ck
    cases hd : atD l k
    · rw [hd] at ck
      have e1 := he.out
      rw [dEnd_stop hd] at e1
      have hE : Hid (k = dEnd l i) := Lib.hid e1
      have hik2 : (i : Int) ≤ k := by have := hik.out; omega
      have ec := ext_cut l i k
      clear e1 he hik hd
      go_wp2_with (go_at_call 37; refine (ck _).mono ?_; rintro e w' ⟨rfl, rfl⟩)
      go_ret
      refine ⟨?_, rfl⟩
      rw [← hE.out]
      rfl
    · rw [hd] at ck
      have hlt : (k : Int) < l.length := by have := atD_lt hd; omega
      have he2 : Hid (dEnd l (k + 1) = dEnd l i) := Lib.hid (by rw [← he.out, dEnd_step hd])
      have hik2 : Hid (i ≤ k + 1) := Lib.hid (by have := hik.out; omega)
      clear hd he hik hk
      go_wp2_with (go_at_call 37; refine (ck _).mono ?_; rintro e w' ⟨rfl, rfl⟩)
      go_round
      case rel => exact ⟨k + 1, by go_num, he2, hik2, by omega⟩
      case measure => simp [intOf]; omega
theorem isD_iff {c : UInt8} (h : isD c = true) : isDig c := by unfold isD at h; unfold isDig; exact of_decide_eq_true h
theorem val_take {l : List UInt8} {k : Nat} (h : k < l.length) : decVal 0 (l.take (k + 1)) = decVal 0 (l.take k) * 10 + ((l[k]).toNat - 48) := by
  rw [List.take_succ_eq_append_getElem h, decVal_snoc]
theorem val_bound {l : List UInt8} (hd : ∀ c ∈ l, isD c = true) (hl : l.length ≤ 17) (k : Nat) : decVal 0 (l.take k) < 100000000000000000 := by
  have h1 := decVal_lt (l.take k) (fun c hc => isD_iff (hd c (List.mem_of_mem_take hc))) 0
  have h2 : 10 ^ (l.take k).length ≤ 10 ^ 17 := Nat.pow_le_pow_right (by decide) (by rw [List.length_take]; omega)
  omega
set_option maxRecDepth 20000 in
theorem digitsvalue_any (l : List UInt8) (w : World) (hd : ∀ c ∈ l, isD c = true) (hl : l.length ≤ 17) : Calls Tryz.prog 102 #[.string ⟨l.toArray⟩] w fun e w' => e = .returned (.int .i64 (decVal 0 l)) ∧ Below w.heap.size w w' := by
  obtain ⟨cap, w1, hr, hread, hb, _⟩ := conv_bytes w l
  obtain ⟨_, hcell⟩ := slice_cells hread
  have hL : (l.length : Int) ≤ 17 := by omega
  have VB := Lib.hid (val_bound hd hl)
  have HD := Lib.hid hd
  have HC := Lib.hid hcell
  clear hread hcell hd hl
  go_enter Tryz.func102, Tryz.ntmps102
  go_wp2
  go_loop [3, 9] (fun a b => ∃ k n : Nat, a = .int .i64 n ∧ b = .int .i64 k ∧ (k : Int) ≤ l.length ∧ Hid (n = decVal 0 (l.take k))) (fun _ b => l.length - (intOf b).toNat)
  case atStart => exact ⟨0, 0, rfl, rfl, by omega, Lib.hid rfl⟩
  case round =>
    obtain ⟨k, n, rfl, rfl, hk, hn⟩ := hrel
    have hnb : (n : Int) ≤ 100000000000000000 := by have := VB.out k; have := hn.out; omega
    by_cases hlt : (k : Int) < l.length
    · have hkl : k < l.length := by omega
      obtain ⟨x, hx⟩ : ∃ x : Nat, x = (l[k]).toNat := ⟨_, rfl⟩
      have hxd := isD_iff (HD.out l[k] (List.getElem_mem hkl))
      unfold isDig at hxd
      rw [← hx] at hxd
      have x0 : (48 : Int) ≤ x := by omega
      have x1 : (x : Int) ≤ 57 := by omega
      have hc := HC.out k (.int .u8 x) (by rw [List.getElem?_eq_getElem (by simpa using hkl), bv_getElem, hx])
      rw [Nat.zero_add] at hc
      have hn2 : Hid (n * 10 + (x - 48) = decVal 0 (l.take (k + 1))) := Lib.hid (by rw [val_take hkl, ← hn.out, hx])
      have wu : IntKind.u8.wrap ((x : Int) - 48) = (x : Int) - 48 := IntWalk.u8_in _ (by omega)
      clear hxd hkl hx hn
      go_wp2
      go_round
      case rel => exact ⟨k + 1, n * 10 + (x - 48), by congr 1; omega, by go_num, by omega, hn2⟩
      case measure => simp [intOf]; omega
    · have hn2 : Hid (n = decVal 0 l) := Lib.hid (by rw [hn.out, List.take_of_length_le (by omega)])
      go_wp2
      go_ret
      exact ⟨by rw [← hn2.out]; rfl, hb⟩
end Go.Proofs.YtelehfefhlgbkaaGreatDoor
/- Skip and SignOk: the program's and the model's answers. -/
namespace Go.Proofs.YtelehfefhlgbkaaGreatDoor
open Go.RowKit
set_option maxRecDepth 100000
theorem size_k (l : List UInt8) : (ByteArray.mk l.toArray).size = l.length := by simp [ByteArray.size]
theorem inS_sp (l : List UInt8) (i : Nat) : inS l [9, 10, 13, 32] i = atSp l i := rfl
theorem skT_low {l : List UInt8} {a : Int} (h : a < 0) : skT l a = a := by unfold skT; rw [if_neg (by omega)]
theorem skT_nat (l : List UInt8) (i : Nat) : skT l (i : Int) = (skE l i : Nat) := by unfold skT; rw [if_pos (by omega)]; rfl
theorem skE_over {l : List UInt8} {i : Nat} (h : l.length ≤ i) : skE l i = i := skE_stop (atSp_out h)
theorem skip_impl (l : List UInt8) (a : Int) (w : World) (hl : l.length ≤ 1073741824) (h1 : a ≤ 9223372036854775807) :
    Calls Tryz.prog 21 #[.string ⟨l.toArray⟩, .int .i64 a] w fun e w' => e = .returned (.int .i64 (skT l a)) ∧ w = w' := by
  by_cases ha : a < 0
  · rw [skT_low ha]
    go_enter Tryz.func21, Tryz.ntmps21
    go_wp2
    go_ret
    exact ⟨rfl, rfl⟩
  obtain ⟨i, rfl⟩ : ∃ i : Nat, a = i := ⟨a.toNat, by omega⟩
  rw [skT_nat]
  have cb := fun k => bytein_any l [9, 10, 13, 32] k w (by omega)
  have HL := Lib.hid hl
  have H1 := Lib.hid h1
  clear hl h1
  go_enter Tryz.func21, Tryz.ntmps21
  go_wp2
  go_loop [1] (fun t => ∃ k : Nat, t = .int .i64 k ∧ Hid (skE l k = skE l i) ∧ Hid (k = i ∨ k ≤ l.length)) (fun t => l.length - (intOf t).toNat)
  case atStart => exact ⟨i, rfl, Lib.hid rfl, Lib.hid (.inl rfl)⟩
  case round =>
    obtain ⟨k, rfl, he, hk⟩ := hrel
    have ck := cb k
    rw [inS_sp] at ck
    cases hd : atSp l k
    · rw [hd] at ck
      have e1 := he.out
      rw [skE_stop hd] at e1
      have hE : Hid (k = skE l i) := Lib.hid e1
      clear e1 he hd
      go_wp2_with (go_at_call 37; refine ck.mono ?_; rintro e w' ⟨rfl, rfl⟩)
      go_ret
      exact ⟨ret_int (by rw [← hE.out]), rfl⟩
    · rw [hd] at ck
      have hlt : k < l.length := atSp_lt hd
      have hlt2 : (k : Int) ≤ 1073741824 := by have := HL.out; omega
      have he2 : Hid (skE l (k + 1) = skE l i) := Lib.hid (by rw [← he.out, skE_step hd])
      have hk2 : Hid (k + 1 = i ∨ k + 1 ≤ l.length) := Lib.hid (.inr hlt)
      have HT := Lib.hid hlt
      clear hd he hk hlt
      go_wp2_with (go_at_call 37; refine ck.mono ?_; rintro e w' ⟨rfl, rfl⟩)
      go_round
      case rel => exact ⟨k + 1, by go_num, he2, hk2⟩
      case measure => have := HT.out; simp [intOf]; omega
theorem or4 {a b c d : Bool} (h : (a || b || c || d) = false) : a = false ∧ b = false ∧ c = false ∧ d = false := by
  revert h; cases a <;> cases b <;> cases c <;> cases d <;> simp
theorem sp_list (c : UInt8) : isSp c = (((c.toNat : Int) == 9) || ((c.toNat : Int) == 10) || ((c.toNat : Int) == 13) || ((c.toNat : Int) == 32)) := by
  have hall : ∀ n : Fin 256, isSp (UInt8.ofNat n.val) = ((((UInt8.ofNat n.val).toNat : Int) == 9) || (((UInt8.ofNat n.val).toNat : Int) == 10) || (((UInt8.ofNat n.val).toNat : Int) == 13) || (((UInt8.ofNat n.val).toNat : Int) == 32)) := by decide +kernel
  have h := hall ⟨c.toNat, c.toNat_lt⟩
  simpa using h
theorem sk_index (l : List UInt8) (i : Nat) (h : i < l.length) (w : World) : (Instr.index 9 (.string ⟨l.toArray⟩) (.int .i64 i)).run Tryz.prog w = .ok (.int .u8 (l[i]).toNat) w := by
  have := run_index_string (P := Tryz.prog) w 9 ⟨l.toArray⟩ .i64 i Tryz.underlying9
  rw [dif_pos (by rw [size_k]; omega)] at this
  rw [this]
  congr 3
theorem str_at (l : List UInt8) (i : Nat) (c : UInt8) (k : Int) (h : l[i]? = some c) (hk : (c.toNat : Int) = k) (w : World) : (Instr.index 9 (.string ⟨l.toArray⟩) (.int .i64 i)).run Tryz.prog w = .ok (.int .u8 k) w := by
  obtain ⟨hi, e⟩ := List.getElem?_eq_some_iff.1 h
  rw [sk_index l i hi w, e, hk]
set_option maxHeartbeats 1000000 in
theorem skip_spec (l : List UInt8) (a : Int) (w : World) (hl : l.length ≤ 1073741824) (h1 : a ≤ 9223372036854775807) :
    Calls Tryz.prog 22 #[.string ⟨l.toArray⟩, .int .i64 a] w fun e w' => e = .returned (.int .i64 (skT l a)) ∧ w = w' := by
  by_cases ha : a < 0
  · rw [skT_low ha]
    go_enter Tryz.func22, Tryz.ntmps22
    go_wp2
    go_ret
    exact ⟨rfl, rfl⟩
  obtain ⟨i, rfl⟩ : ∃ i : Nat, a = i := ⟨a.toNat, by omega⟩
  rw [skT_nat]
  have hsz := size_k l
  have IX := Lib.hid (fun k c hg => str_at l k c _ hg rfl w)
  have HL := Lib.hid hl
  have ha0 : ¬ ((i : Int) < 0) := by omega
  clear hl h1 ha
  generalize (ByteArray.mk l.toArray) = s at *
  go_enter Tryz.func22, Tryz.ntmps22
  go_wp2
  go_loop [1] (fun t => ∃ k : Nat, t = .int .i64 k ∧ Hid (skE l k = skE l i)) (fun t => l.length - (intOf t).toNat)
  case atStart => exact ⟨i, rfl, Lib.hid rfl⟩
  case round =>
    obtain ⟨k, rfl, he⟩ := hrel
    by_cases hlt : (k : Int) < l.length
    · have hlt' : k < l.length := by omega
      obtain ⟨c, g0⟩ : ∃ c, l[k]? = some c := ⟨_, List.getElem?_eq_getElem hlt'⟩
      have ix := IX.out k _ g0
      have hd0 : atSp l k = isSp c := by unfold atSp; rw [g0]
      have hp := sp_list c
      rw [← hd0] at hp
      have hb : c.toNat < 256 := UInt8.toNat_lt _
      have hlt2 : (k : Int) ≤ 1073741824 := by have := HL.out; omega
      clear g0 hd0 hlt'
      generalize c.toNat = x at *
      cases hd : atSp l k
      · rw [hd] at hp
        have e1 := he.out
        rw [skE_stop hd] at e1
        have hE : Hid (k = skE l i) := Lib.hid e1
        obtain ⟨h9, h10, h13, h32⟩ := or4 hp.symm
        clear e1 he hd hp
        go_wp2
        go_ret
        exact ⟨ret_int (by rw [← hE.out]), rfl⟩
      · rw [hd] at hp
        have he2 : Hid (skE l (k + 1) = skE l i) := Lib.hid (by rw [← he.out, skE_step hd])
        have HP := Lib.hid hp
        have HT := Lib.hid hlt
        clear hd he hp
        by_cases h9 : ((x : Int) == 9) = true
        · go_wp2
          go_round
          case rel => exact ⟨k + 1, by go_num, he2⟩
          case measure => have := HT.out; simp [intOf]; omega
        replace h9 : ((x : Int) == 9) = false := by simpa using h9
        by_cases h10 : ((x : Int) == 10) = true
        · go_wp2
          go_round
          case rel => exact ⟨k + 1, by go_num, he2⟩
          case measure => have := HT.out; simp [intOf]; omega
        replace h10 : ((x : Int) == 10) = false := by simpa using h10
        by_cases h13 : ((x : Int) == 13) = true
        · go_wp2
          go_round
          case rel => exact ⟨k + 1, by go_num, he2⟩
          case measure => have := HT.out; simp [intOf]; omega
        replace h13 : ((x : Int) == 13) = false := by simpa using h13
        have h32 : ((x : Int) == 32) = true := by have := HP.out; rw [h9, h10, h13] at this; simpa using this
        go_wp2
        go_round
        case rel => exact ⟨k + 1, by go_num, he2⟩
        case measure => have := HT.out; simp [intOf]; omega
    · have e1 := he.out
      rw [skE_over (by omega)] at e1
      have hE : Hid (k = skE l i) := Lib.hid e1
      clear e1 he
      go_wp2
      go_ret
      exact ⟨ret_int (by rw [← hE.out]), rfl⟩
/-- SignOk -/
def sgB (l : List UInt8) : Bool := l == [123] || l == [125] || l == [91] || l == [93] || l == [58] || l == [44]
theorem sgB_one (c : UInt8) : sgB [c] = isSg c := by
  have hall : ∀ n : Fin 256, sgB [UInt8.ofNat n.val] = isSg (UInt8.ofNat n.val) := by decide +kernel
  have h := hall ⟨c.toNat, c.toNat_lt⟩
  simpa using h
theorem sgB_len {l : List UInt8} (h : l.length ≠ 1) : sgB l = false := by
  match l, h with
  | [], _ => rfl
  | [c], h => exact absurd rfl h
  | c :: d :: r, _ => unfold sgB; simp
theorem inS_sg (c : UInt8) : inS [c] [123, 125, 91, 93, 58, 44] 0 = isSg c := rfl
theorem signok_impl (l : List UInt8) (w : World) (hl : l.length ≤ 9223372036854775807) :
    Calls Tryz.prog 23 #[.string ⟨l.toArray⟩] w fun e w' => e = .returned (.bool (sgB l)) ∧ w = w' := by
  by_cases h : l.length = 1
  · match l, h with
    | [c], _ =>
      have cb := bytein_any [c] [123, 125, 91, 93, 58, 44] 0 w (by simp)
      rw [inS_sg] at cb
      rw [sgB_one]
      generalize isSg c = b at *
      have hsz := size_k [c]
      generalize (ByteArray.mk [c].toArray) = s at *
      go_enter Tryz.func23, Tryz.ntmps23
      go_wp2_with (go_at_call 37; refine cb.mono ?_; rintro e w' ⟨rfl, rfl⟩)
      go_ret
      exact ⟨rfl, rfl⟩
  · rw [sgB_len h]
    have hsz := size_k l
    have h' : ((l.length : Int) == 1) = false := by simp; omega
    generalize (ByteArray.mk l.toArray) = s at *
    go_enter Tryz.func23, Tryz.ntmps23
    go_wp2
    go_ret
    exact ⟨rfl, rfl⟩
theorem signok_spec (l : List UInt8) (w : World) : Calls Tryz.prog 24 #[.string ⟨l.toArray⟩] w fun e w' => e = .returned (.bool (sgB l)) ∧ w = w' := by
  unfold sgB
  by_cases h1 : (l == [123]) = true
  · rw [h1]
    go_enter Tryz.func24, Tryz.ntmps24
    go_wp2
    go_ret
    exact ⟨by simp, rfl⟩
  replace h1 : (l == [123]) = false := by simpa using h1
  by_cases h2 : (l == [125]) = true
  · rw [h1, h2]
    go_enter Tryz.func24, Tryz.ntmps24
    go_wp2
    go_ret
    exact ⟨by simp, rfl⟩
  replace h2 : (l == [125]) = false := by simpa using h2
  by_cases h3 : (l == [91]) = true
  · rw [h1, h2, h3]
    go_enter Tryz.func24, Tryz.ntmps24
    go_wp2
    go_ret
    exact ⟨by simp, rfl⟩
  replace h3 : (l == [91]) = false := by simpa using h3
  by_cases h4 : (l == [93]) = true
  · rw [h1, h2, h3, h4]
    go_enter Tryz.func24, Tryz.ntmps24
    go_wp2
    go_ret
    exact ⟨by simp, rfl⟩
  replace h4 : (l == [93]) = false := by simpa using h4
  by_cases h5 : (l == [58]) = true
  · rw [h1, h2, h3, h4, h5]
    go_enter Tryz.func24, Tryz.ntmps24
    go_wp2
    go_ret
    exact ⟨by simp, rfl⟩
  replace h5 : (l == [58]) = false := by simpa using h5
  rw [h1, h2, h3, h4, h5]
  cases h6 : (l == [44])
  · go_enter Tryz.func24, Tryz.ntmps24
    go_wp2
    go_ret
    exact ⟨by simp, rfl⟩
  · go_enter Tryz.func24, Tryz.ntmps24
    go_wp2
    go_ret
    exact ⟨by simp, rfl⟩
end Go.Proofs.YtelehfefhlgbkaaGreatDoor
/- The bytes that hexadecimal digits stand for: the program's and the model's answers. -/
namespace Go.Proofs.YtelehfefhlgbkaaGreatDoor
open Go.RowKit
def unhexT (l : List UInt8) : Value := match unhex l with
  | some r => .tuple #[.string ⟨r.toArray⟩, .bool true]
  | none => .tuple #[.string ⟨#[]⟩, .bool false]
theorem unhexT_some {l r : List UInt8} (h : unhex l = some r) : unhexT l = .tuple #[.string ⟨r.toArray⟩, .bool true] := by unfold unhexT; rw [h]
theorem unhexT_none {l : List UInt8} (h : unhex l = none) : unhexT l = .tuple #[.string ⟨#[]⟩, .bool false] := by unfold unhexT; rw [h]
theorem hex_find (c : UInt8) : Lib.indexByte [48, 49, 50, 51, 52, 53, 54, 55, 56, 57, 97, 98, 99, 100, 101, 102] c = hexv c := by
  have : ∀ n : Fin 256, Lib.indexByte [48, 49, 50, 51, 52, 53, 54, 55, 56, 57, 97, 98, 99, 100, 101, 102] (UInt8.ofNat n.val) = hexv (UInt8.ofNat n.val) := by decide +kernel
  have h := this ⟨c.toNat, UInt8.toNat_lt c⟩
  simpa using h
def pre (l : List UInt8) (i : Nat) (p : List UInt8) : Prop := p.length = i ∧ 2 * i ≤ l.length ∧ unhex l = (unhex (l.drop (2 * i))).map (p ++ ·)
theorem pre_start (l : List UInt8) : pre l 0 [] := ⟨rfl, Nat.zero_le _, by simp⟩
theorem pre_step {l p : List UInt8} {i : Nat} (h : pre l i p) (hi : 2 * i + 1 < l.length) (h1 : 0 ≤ hexv l[2 * i]) (h2 : 0 ≤ hexv l[2 * i + 1]) : pre l (i + 1) (p ++ [UInt8.ofNat (16 * hexv l[2 * i] + hexv l[2 * i + 1]).toNat]) := by
  obtain ⟨a, b, c⟩ := h
  refine ⟨by simp [a], by omega, ?_⟩
  rw [c, unhex_step l i hi, if_pos ⟨h1, h2⟩, Option.map_map]
  congr 1
  funext r
  simp
theorem prex_bad {l p : List UInt8} {i : Nat} (h : pre l i p) (hi : 2 * i + 1 < l.length) (h1 : ¬ (0 ≤ hexv l[2 * i] ∧ 0 ≤ hexv l[2 * i + 1])) : unhex l = none := by
  obtain ⟨a, b, c⟩ := h
  rw [c, unhex_step l i hi, if_neg h1]
  rfl
theorem pre_end {l p : List UInt8} {i : Nat} (h : pre l i p) (hi : ¬ 2 * i + 1 < l.length) (he : l.length = 2 * i) : unhex l = some p := by
  obtain ⟨a, b, c⟩ := h
  rw [c, unhex_end l i hi b, if_pos he]
  simp
theorem pre_odd {l p : List UInt8} {i : Nat} (h : pre l i p) (hi : ¬ 2 * i + 1 < l.length) (he : ¬ l.length = 2 * i) : unhex l = none := by
  obtain ⟨a, b, c⟩ := h
  rw [c, unhex_end l i hi b, if_neg he]
  rfl
theorem unhex_odd : ∀ (n : Nat) (l : List UInt8), l.length ≤ n → l.length % 2 = 1 → unhex l = none
  | _, [], _, h => by simp at h
  | _, [a], _, h => rfl
  | 0, a :: b :: l, hn, h => by simp at hn
  | n + 1, a :: b :: l, hn, h => by
    rw [unhex, unhex_odd n l (by simp at hn; omega) (by simp at h; omega)]
    split <;> rfl
theorem find_any (x : UInt8) (w : World) : Calls Tryz.prog 60 #[.string ⟨#[48, 49, 50, 51, 52, 53, 54, 55, 56, 57, 97, 98, 99, 100, 101, 102]⟩, .int .u8 x.toNat] w fun e w' => e = .returned (.int .i64 (hexv x)) ∧ w = w' := by
  have := Tryz.strings_IndexByte ⟨#[48, 49, 50, 51, 52, 53, 54, 55, 56, 57, 97, 98, 99, 100, 101, 102]⟩ x.toNat w
  have e : (x.toNat : Int).toNat.toUInt8 = x := by simp
  rw [e, show (ByteArray.mk #[48, 49, 50, 51, 52, 53, 54, 55, 56, 57, 97, 98, 99, 100, 101, 102]).data.toList = [48, 49, 50, 51, 52, 53, 54, 55, 56, 57, 97, 98, 99, 100, 101, 102] from rfl, hex_find] at this
  exact this.mono fun _ _ h => ⟨h.1, h.2.symm⟩
theorem l3hex_any (x : UInt8) (w : World) : Calls Tryz.prog 112 #[.int .u8 x.toNat] w fun e w' => e = .returned (.int .i64 (hexv x)) ∧ w = w' := by
  have hx : (x.toNat : Int) < 256 := by have : x.toNat < 256 := UInt8.toNat_lt x; omega
  by_cases h1 : 48 ≤ x.toNat ∧ x.toNat ≤ 57
  · have e : hexv x = x.toNat - 48 := by unfold hexv; rw [if_pos h1]
    rw [e]
    have a1 : (48 : Int) ≤ x.toNat := by omega
    have a2 : (x.toNat : Int) ≤ 57 := by omega
    generalize x.toNat = n at *
    clear h1 e
    go_enter Tryz.func112, Tryz.ntmps112
    go_wp2_with (go_at_call 42; refine (in_yes _ _ _ _ a1 a2).mono ?_; rintro e w' ⟨rfl, rfl⟩)
    go_ret
    exact ⟨rfl, rfl⟩
  by_cases h2 : 97 ≤ x.toNat ∧ x.toNat ≤ 102
  · have e : hexv x = x.toNat - 87 := by unfold hexv; rw [if_neg h1, if_pos h2]
    rw [e]
    have a1 : (97 : Int) ≤ x.toNat := by omega
    have a2 : (x.toNat : Int) ≤ 102 := by omega
    generalize x.toNat = n at *
    clear h1 h2 e
    have c1 := in_no n 48 57 w (by omega)
    have c2 := in_yes n 97 102 w a1 a2
    go_enter Tryz.func112, Tryz.ntmps112
    go_wp2_with fail
    refine c1.mono ?_
    rintro e w' ⟨rfl, rfl⟩
    go_wp2_with fail
    refine c2.mono ?_
    rintro e w' ⟨rfl, rfl⟩
    go_wp2
    go_ret
    exact ⟨ret_int (by omega), rfl⟩
  · have e : hexv x = -1 := by unfold hexv; rw [if_neg h1, if_neg h2]
    rw [e]
    generalize x.toNat = n at *
    have c1 := in_no n 48 57 w (by omega)
    have c2 := in_no n 97 102 w (by omega)
    clear h1 h2 e
    go_enter Tryz.func112, Tryz.ntmps112
    go_wp2_with fail
    refine c1.mono ?_
    rintro e w' ⟨rfl, rfl⟩
    go_wp2_with fail
    refine c2.mono ?_
    rintro e w' ⟨rfl, rfl⟩
    go_wp2
    go_ret
    exact ⟨rfl, rfl⟩
theorem hx_indexZ (l : List UInt8) (i : Nat) (z : Int) (hz : z = i) (h : i < l.length) (w : World) : (Instr.index 9 (.string ⟨l.toArray⟩) (.int .i64 z)).run Tryz.prog w = .ok (.int .u8 (l[i]).toNat) w := by subst hz; exact hx_index l i h w
theorem hex_byte {a b : Int} (ha : 0 ≤ a) (ha2 : a ≤ 15) (hb : 0 ≤ b) (hb2 : b ≤ 15) : bv [UInt8.ofNat (16 * a + b).toNat] = [.int .u8 (16 * a + b)] := by
  have : (UInt8.ofNat (16 * a + b).toNat).toNat = (16 * a + b).toNat % 256 := by simp
  simp only [bv, List.map_cons, List.map_nil, this]
  congr 2
  omega
end Go.Proofs.YtelehfefhlgbkaaGreatDoor
/- What a row's list of package-level variables gives: the library's table holds its numbers, the two errors of strconv are set. -/
namespace Go.Proofs.YtelehfefhlgbkaaGreatDoor
theorem gPow : Tryz.prog.globalNamed "internal/strconv.uint64pow10" = some 1 := by kernel_rfl
theorem gPowType : (Tryz.prog.globals[1]?).map (·.type) = some 136 := by kernel_rfl
theorem cellsPow : Tryz.prog.cellsOf 136 = 20 := by kernel_rfl
theorem cellsU64 : Tryz.prog.cellsOf 128 = 1 := by kernel_rfl
theorem tabs_pow10 {a b : String × DataW Unit} {r : List (String × DataW Unit)} {W : World} (h : laidMet Tryz.prog (a :: b :: ("internal/strconv.uint64pow10", Rows.laid_internal_strconv_uint64pow10) :: r) W) : Lib.TabIs Tryz.prog W "internal/strconv.uint64pow10" .u64 Lib.pow10Tab :=
  Lib.tabIs_of_head (rest := r) gPow gPowType Tryz.underlying136 Tryz.underlying128 cellsU64 cellsPow h.tail.tail
theorem gES : Tryz.prog.globalNamed "strconv.ErrSyntax" = some 6 := by kernel_rfl
theorem gER : Tryz.prog.globalNamed "strconv.ErrRange" = some 7 := by kernel_rfl
theorem gESType : (Tryz.prog.globals[6]?).map (·.type) = some 68 := by kernel_rfl
theorem gERType : (Tryz.prog.globals[7]?).map (·.type) = some 68 := by kernel_rfl
theorem cellsErr : Tryz.prog.cellsOf 162 = 1 := by kernel_rfl
theorem cellsStr : Tryz.prog.cellsOf 9 = 1 := by kernel_rfl
theorem starStr : "*" ++ "errors.errorString" = "*errors.errorString" := by decide
theorem rowErr (u : TypeId) (h : Tryz.prog.typeName? 3 u = some "*errors.errorString") : u = 160 :=
  typeName_ptr_named (nm := "errors.errorString") (by rw [starStr]; kernel_rfl) (by kernel_rfl) (by decide) u (by rw [starStr]; exact h)
theorem errs_of {a b c : String × DataW Unit} {r : List (String × DataW Unit)} {W : World} (h : laidMet Tryz.prog (a :: b :: c :: ("strconv.ErrRange", Rows.laid_strconv_ErrRange) :: ("strconv.ErrSyntax", Rows.laid_strconv_ErrSyntax) :: r) W) :
    (∃ ps, W.var? Tryz.prog "strconv.ErrSyntax" = some #[.iface 160 ps]) ∧ (∃ pr, W.var? Tryz.prog "strconv.ErrRange" = some #[.iface 160 pr]) := by
  have h1 := h.tail.tail.tail
  obtain ⟨a0, _, hv0, _⟩ := laid_sentinel h1 gER gERType Tryz.underlying68 rowErr Tryz.underlying160 Tryz.underlying162 rfl rfl Tryz.underlying9 cellsErr cellsStr
  obtain ⟨a1, _, hv1, _⟩ := laid_sentinel h1.tail gES gESType Tryz.underlying68 rowErr Tryz.underlying160 Tryz.underlying162 rfl rfl Tryz.underlying9 cellsErr cellsStr
  exact ⟨⟨_, hv1⟩, ⟨_, hv0⟩⟩
end Go.Proofs.YtelehfefhlgbkaaGreatDoor
