import Derived.Test.YtelehfefhlgbkaaDoorG15
import Derived.Test.YtelehfefhlgbkaaDoorG9
import Derived.Test.YtelehfefhlgbkaaDoorG11
import Derived.Deep.Cut
import Derived.Deep.DeepCutAuto
import Derived.Deep.RegionHeld3
/- TokenText: the program's and the model's answers. -/
namespace Go.Proofs.YtelehfefhlgbkaaDoor
open Go.RowKit
set_option maxRecDepth 100000
theorem tt_s {t : Tok} (h : t.k = 1 ∨ t.k = 4) : tokText t = t.s := by unfold tokText; rw [if_pos h]
theorem tt_q {t : Tok} (h : t.k = 2) : tokText t = quoteL t.s := by unfold tokText; rw [if_neg (by omega), if_pos h]
theorem tt_n {t : Tok} (h : t.k = 3) : tokText t = if t.x = 0 then Lib.itoa t.n else Lib.itoa t.n ++ 101 :: Lib.itoa t.x := by unfold tokText; rw [if_neg (by omega), if_neg (by omega), if_pos h]
theorem tt_o {t : Tok} (h1 : t.k ≠ 1) (h2 : t.k ≠ 2) (h3 : t.k ≠ 3) (h4 : t.k ≠ 4) : tokText t = [] := by unfold tokText; rw [if_neg (by omega), if_neg h2, if_neg h3]
theorem tab_blw {w w' : World} (hb : Below w.heap.size w w') (h : Lib.TabIs Tryd.prog w "internal/strconv.uint64pow10" .u64 Lib.pow10Tab) : Lib.TabIs Tryd.prog w' "internal/strconv.uint64pow10" .u64 Lib.pow10Tab := by
  unfold Lib.TabIs at h ⊢
  exact var_below hb h
theorem itoa_len (n : Int) (h0 : -9223372036854775808 ≤ n) (h1 : n ≤ 9223372036854775807) : (Lib.itoa n).length ≤ 1000000 := by
  have h := dec_len 19 n.natAbs (by omega)
  by_cases hn : n < 0
  · rw [itoa_lt hn, List.length_cons]; omega
  · rw [itoa_ge hn]; omega
theorem ba_e (a b : List UInt8) : (ByteArray.mk a.toArray) ++ (ByteArray.mk #[101]) ++ (ByteArray.mk b.toArray) = ByteArray.mk (a ++ 101 :: b).toArray := by
  apply ByteArray.ext; simp
theorem ba_e2 (a b : List UInt8) : (ByteArray.mk a.toArray) ++ ((ByteArray.mk #[101]) ++ (ByteArray.mk b.toArray)) = ByteArray.mk (a ++ 101 :: b).toArray := by
  apply ByteArray.ext; simp
set_option maxHeartbeats 2000000 in
theorem numtoken_impl (s : List UInt8) (n x : Int) (w : World) (hn0 : -9223372036854775808 ≤ n) (hn1 : n ≤ 9223372036854775807) (hx0 : -9223372036854775808 ≤ x) (hx1 : x ≤ 9223372036854775807) (htab : Lib.TabIs Tryd.prog w "internal/strconv.uint64pow10" .u64 Lib.pow10Tab) :
    Calls Tryd.prog 38 #[.agg #[.int .i64 3, .string ⟨s.toArray⟩, .int .i64 n, .int .i64 x]] w fun e w' => e = .returned (.string ⟨(tokText ⟨3, s, n, x⟩).toArray⟩) ∧ Below w.heap.size w w' := by
  have HB0 := Lib.hid (vbox w (.cells #[.int .i64 3, .string ⟨s.toArray⟩, .int .i64 n, .int .i64 x] 23))
  have CN := Lib.hid (fun (W : World) (hb : Below w.heap.size w W) => numtext_impl n W hn0 hn1 (tab_blw hb htab))
  have CX := Lib.hid (fun (W : World) (hb : Below w.heap.size w W) => numtext_impl x W hx0 hx1 (tab_blw hb htab))
  have LN := Lib.hid (itoa_len n hn0 hn1)
  have LX := Lib.hid (itoa_len x hx0 hx1)
  clear hn0 hn1 hx0 hx1 htab
  obtain ⟨c0, c1, c2, c3⟩ := tc_new w ⟨3, s, n, x⟩ 23
  simp only at c0 c1 c2 c3
  rw [tt_n rfl]
  simp only
  obtain ⟨w1, hw1⟩ : ∃ w1, w1 = w.alloc (.cells #[.int .i64 3, .string ⟨s.toArray⟩, .int .i64 n, .int .i64 x] 23) := ⟨_, rfl⟩
  rw [← hw1] at c0 c1 c2 c3 HB0
  have HW := Lib.hid hw1
  clear hw1
  by_cases h0 : x = 0
  · subst h0
    rw [if_pos rfl]
    go_enter Tryd.func38, Tryd.ntmps38
    (go_upto_region 1 with fail)
    rw [← HW.out]
    clear HW
    go_wp2_with fail
    refine (CN.out _ HB0.out).mono ?_
    rintro e w2 ⟨rfl, hb⟩
    replace c3 := keep_below hb c3
    go_wp2
    go_ret
    exact ⟨rfl, HB0.out.trans (hb.mono HB0.out.size)⟩
  rw [if_neg h0]
  have hx : ((x : Int) != 0) = true := by simpa using h0
  have CN' := CN.out
  have CX' := CX.out
  have LN' := LN.out
  have LX' := LX.out
  clear CN CX LN LX
  rw [← ba_e2]
  generalize Lib.itoa n = a at *
  generalize Lib.itoa x = b at *
  have CN := Lib.hid CN'
  have CX := Lib.hid CX'
  have hs1 : ¬ (9223372036854775807 < 1 + b.length) := by omega
  have hs2 : ¬ (9223372036854775807 < a.length + (1 + b.length)) := by omega
  clear CN' CX' LN' LX' h0
  go_enter Tryd.func38, Tryd.ntmps38
  (go_upto_region 1 with fail)
  rw [← HW.out]
  clear HW
  go_wp2_with fail
  refine (CN.out _ HB0.out).mono ?_
  rintro e w2 ⟨rfl, hb⟩
  replace c3 := keep_below hb c3
  have HB2 := Lib.hid (HB0.out.trans (hb.mono HB0.out.size))
  clear hb
  go_wp2_with fail
  refine (CX.out _ HB2.out).mono ?_
  rintro e w3 ⟨rfl, hb⟩
  have HB3 := Lib.hid (HB2.out.trans (hb.mono HB2.out.size))
  clear hb
  go_wp2
  go_ret
  exact ⟨rfl, HB3.out⟩
set_option maxHeartbeats 2000000 in
theorem toktext_impl (t : Tok) (w : World) (hs : t.s.length ≤ 1073741824) (hn0 : -9223372036854775808 ≤ t.n) (hn1 : t.n ≤ 9223372036854775807) (hx0 : -9223372036854775808 ≤ t.x) (hx1 : t.x ≤ 9223372036854775807) (htab : Lib.TabIs Tryd.prog w "internal/strconv.uint64pow10" .u64 Lib.pow10Tab) :
    Calls Tryd.prog 18 #[t.val] w fun e w' => e = .returned (.string ⟨(tokText t).toArray⟩) ∧ Below w.heap.size w w' := by
  obtain ⟨k, s, n, x⟩ := t
  simp only at hs hn0 hn1 hx0 hx1
  have HB0 := Lib.hid (vbox w (.cells #[.int .i64 k, .string ⟨s.toArray⟩, .int .i64 n, .int .i64 x] 23))
  have cq := quote_impl s (w.alloc (.cells #[.int .i64 k, .string ⟨s.toArray⟩, .int .i64 n, .int .i64 x] 23)) hs
  have CN := Lib.hid (fun (W : World) (hb : Below w.heap.size w W) => numtext_impl n W hn0 hn1 (tab_blw hb htab))
  have CX := Lib.hid (fun (W : World) (hb : Below w.heap.size w W) => numtext_impl x W hx0 hx1 (tab_blw hb htab))
  have CF := Lib.hid (fun (W : World) (hb : Below w.heap.size w W) => numtoken_impl s n x W hn0 hn1 hx0 hx1 (tab_blw hb htab))
  have LN := Lib.hid (itoa_len n hn0 hn1)
  have LX := Lib.hid (itoa_len x hx0 hx1)
  clear hn0 hn1 hx0 hx1 hs htab
  show Calls Tryd.prog 18 #[.agg #[.int .i64 k, .string ⟨s.toArray⟩, .int .i64 n, .int .i64 x]] w _
  obtain ⟨c0, c1, c2, c3⟩ := tc_new w ⟨k, s, n, x⟩ 23
  simp only at c0 c1 c2 c3
  obtain ⟨w1, hw1⟩ : ∃ w1, w1 = w.alloc (.cells #[.int .i64 k, .string ⟨s.toArray⟩, .int .i64 n, .int .i64 x] 23) := ⟨_, rfl⟩
  rw [← hw1] at c0 c1 c2 c3 cq HB0
  have HW := Lib.hid hw1
  clear hw1
  by_cases h1 : k = 1
  · subst h1
    rw [tt_s (.inl rfl)]
    go_enter Tryd.func18, Tryd.ntmps18
    (go_upto_region 1 with fail)
    rw [← HW.out]
    clear HW
    go_wp2
    go_ret
    exact ⟨rfl, HB0.out⟩
  by_cases h4 : k = 4
  · subst h4
    rw [tt_s (.inr rfl)]
    go_enter Tryd.func18, Tryd.ntmps18
    (go_upto_region 1 with fail)
    rw [← HW.out]
    clear HW
    go_wp2
    go_ret
    exact ⟨rfl, HB0.out⟩
  by_cases h2 : k = 2
  · subst h2
    rw [tt_q rfl]
    go_enter Tryd.func18, Tryd.ntmps18
    (go_upto_region 1 with fail)
    rw [← HW.out]
    clear HW
    go_wp2_with fail
    refine cq.mono ?_
    rintro e w2 ⟨rfl, hb⟩
    go_wp2
    go_ret
    exact ⟨rfl, HB0.out.trans (hb.mono HB0.out.size)⟩
  by_cases h3 : k = 3
  · subst h3
    clear cq
    go_enter Tryd.func18, Tryd.ntmps18
    (go_upto_region 1 with fail)
    rw [← HW.out]
    clear HW
    go_wp2_with fail
    refine (CF.out _ HB0.out).mono ?_
    rintro e w2 ⟨rfl, hb⟩
    go_wp2
    go_ret
    exact ⟨rfl, HB0.out.trans (hb.mono HB0.out.size)⟩
  have k1 : ((k : Int) == 1) = false := by simpa using h1
  have k2 : ((k : Int) == 2) = false := by simpa using h2
  have k3 : ((k : Int) == 3) = false := by simpa using h3
  have k4 : ((k : Int) == 4) = false := by simpa using h4
  rw [tt_o h1 h2 h3 h4]
  clear cq h1 h2 h3 h4
  go_enter Tryd.func18, Tryd.ntmps18
  (go_upto_region 1 with fail)
  rw [← HW.out]
  clear HW
  go_wp2
  go_ret
  exact ⟨rfl, HB0.out⟩
set_option maxHeartbeats 2000000 in
theorem toktext_spec (t : Tok) (w : World) (hs : t.s.length ≤ 1073741824) (hn0 : -9223372036854775808 ≤ t.n) (hn1 : t.n ≤ 9223372036854775807) (hx0 : -9223372036854775808 ≤ t.x) (hx1 : t.x ≤ 9223372036854775807) :
    Calls Tryd.prog 16 #[t.val] w fun e w' => e = .returned (.string ⟨(tokText t).toArray⟩) ∧ Below w.heap.size w w' := by
  obtain ⟨k, s, n, x⟩ := t
  simp only at hs hn0 hn1 hx0 hx1
  have HB0 := Lib.hid (vbox w (.cells #[.int .i64 k, .string ⟨s.toArray⟩, .int .i64 n, .int .i64 x] 23))
  have cq := quote_spec s (w.alloc (.cells #[.int .i64 k, .string ⟨s.toArray⟩, .int .i64 n, .int .i64 x] 23)) hs
  have CN := Lib.hid (fun (W : World) => numtext_spec n W hn0 hn1)
  have CX := Lib.hid (fun (W : World) => numtext_spec x W hx0 hx1)
  have LN := Lib.hid (itoa_len n hn0 hn1)
  have LX := Lib.hid (itoa_len x hx0 hx1)
  clear hn0 hn1 hx0 hx1 hs
  show Calls Tryd.prog 16 #[.agg #[.int .i64 k, .string ⟨s.toArray⟩, .int .i64 n, .int .i64 x]] w _
  obtain ⟨c0, c1, c2, c3⟩ := tc_new w ⟨k, s, n, x⟩ 23
  simp only at c0 c1 c2 c3
  obtain ⟨w1, hw1⟩ : ∃ w1, w1 = w.alloc (.cells #[.int .i64 k, .string ⟨s.toArray⟩, .int .i64 n, .int .i64 x] 23) := ⟨_, rfl⟩
  rw [← hw1] at c0 c1 c2 c3 cq HB0
  have HW := Lib.hid hw1
  clear hw1
  by_cases h1 : k = 1
  · subst h1
    rw [tt_s (.inl rfl)]
    go_enter Tryd.func16, Tryd.ntmps16
    (go_upto_region 1 with fail)
    rw [← HW.out]
    clear HW
    go_wp2
    go_ret
    exact ⟨rfl, HB0.out⟩
  by_cases h4 : k = 4
  · subst h4
    rw [tt_s (.inr rfl)]
    go_enter Tryd.func16, Tryd.ntmps16
    (go_upto_region 1 with fail)
    rw [← HW.out]
    clear HW
    go_wp2
    go_ret
    exact ⟨rfl, HB0.out⟩
  by_cases h2 : k = 2
  · subst h2
    rw [tt_q rfl]
    go_enter Tryd.func16, Tryd.ntmps16
    (go_upto_region 1 with fail)
    rw [← HW.out]
    clear HW
    go_wp2_with fail
    refine cq.mono ?_
    rintro e w2 ⟨rfl, hb⟩
    go_wp2
    go_ret
    exact ⟨rfl, HB0.out.trans (hb.mono HB0.out.size)⟩
  by_cases h3 : k = 3
  · subst h3
    clear cq
    rw [tt_n rfl]
    simp only
    by_cases h0 : x = 0
    · subst h0
      rw [if_pos rfl]
      go_enter Tryd.func16, Tryd.ntmps16
      (go_upto_region 1 with fail)
      rw [← HW.out]
      clear HW
      go_wp2_with fail
      refine (CN.out _).mono ?_
      rintro e w2 ⟨rfl, hb⟩
      go_wp2
      go_ret
      exact ⟨rfl, HB0.out.trans (hb.mono HB0.out.size)⟩
    · rw [if_neg h0]
      have hx : ((x : Int) != 0) = true := by simpa using h0
      have CN' := CN.out
      have CX' := CX.out
      have LN' := LN.out
      have LX' := LX.out
      clear CN CX LN LX
      generalize Lib.itoa n = a at *
      generalize Lib.itoa x = b at *
      have CN := Lib.hid CN'
      have CX := Lib.hid CX'
      have hs1 : ¬ (9223372036854775807 < a.length + 1) := by omega
      have hs2 : ¬ (9223372036854775807 < a.length + 1 + b.length) := by omega
      clear CN' CX' LN' LX' h0
      go_enter Tryd.func16, Tryd.ntmps16
      (go_upto_region 1 with fail)
      rw [← HW.out]
      clear HW
      (go_upto_region 9 with fail)
      have hB := HB0.out
      clear HB0
      go_region_held3 (fun W' => W'.cell? ⟨w.heap.size, 2, none⟩ = some (.int .i64 n) ∧ W'.cell? ⟨w.heap.size, 3, none⟩ = some (.int .i64 x) ∧ Below w.heap.size w W') ((refine ⟨?_, ?_, ?_⟩ <;> first | with_reducible assumption | (with_reducible refine Below.drew ?_; with_reducible assumption) | with_reducible exact keep_below (by with_reducible assumption) (by with_reducible assumption) | with_reducible exact below_tr (by with_reducible assumption) (by with_reducible assumption) | assumption)) ((first | (go_at_call 36; go_split_ands; with_reducible refine (CN.out _).mono ?_; rintro e u1 ⟨rfl, hb1⟩) | (go_at_call 36; go_split_ands; with_reducible refine (CX.out _).mono ?_; rintro e u2 ⟨rfl, hb2⟩)))
      all_goals go_split_ands
      all_goals go_wp2
      all_goals go_ret
      all_goals exact ⟨by rw [← ba_e]; rfl, by with_reducible assumption⟩
  have k1 : ((k : Int) == 1) = false := by simpa using h1
  have k2 : ((k : Int) == 2) = false := by simpa using h2
  have k3 : ((k : Int) == 3) = false := by simpa using h3
  have k4 : ((k : Int) == 4) = false := by simpa using h4
  rw [tt_o h1 h2 h3 h4]
  clear cq h1 h2 h3 h4
  go_enter Tryd.func16, Tryd.ntmps16
  (go_upto_region 1 with fail)
  rw [← HW.out]
  clear HW
  go_wp2
  go_ret
  exact ⟨rfl, HB0.out⟩
end Go.Proofs.YtelehfefhlgbkaaDoor
/- JoinTokens: the program's and the model's answers. -/
namespace Go.Proofs.YtelehfefhlgbkaaDoor
open Go.RowKit
set_option maxRecDepth 100000
/-- the numbers of a token are ints -/
structure NumIn (t : Tok) : Prop where
  n0 : -9223372036854775808 ≤ t.n
  n1 : t.n ≤ 9223372036854775807
  x0 : -9223372036854775808 ≤ t.x
  x1 : t.x ≤ 9223372036854775807
def wtS (l : List Tok) : Nat := (l.map fun t => t.s.length + 1).sum
theorem wtS_cons (t : Tok) (l : List Tok) : wtS (t :: l) = t.s.length + 1 + wtS l := by simp [wtS]
theorem wtS_take (l : List Tok) (i : Nat) : wtS (l.take i) ≤ wtS l := by
  induction l generalizing i with
  | nil => simp [wtS]
  | cons t l ih =>
    cases i with
    | zero => simp [wtS]
    | succ i => rw [List.take_succ_cons, wtS_cons, wtS_cons]; have := ih i; omega
theorem wtS_len (l : List Tok) : l.length ≤ wtS l := by
  induction l with
  | nil => exact Nat.zero_le _
  | cons t l ih => rw [wtS_cons, List.length_cons]; omega
theorem wtS_mem {l : List Tok} {t : Tok} (h : t ∈ l) : t.s.length ≤ wtS l := by
  induction l with
  | nil => cases h
  | cons u l ih =>
    rw [wtS_cons]
    rcases List.mem_cons.1 h with rfl | h
    · omega
    · have := ih h; omega
theorem itoa_20 (n : Int) (h0 : -9223372036854775808 ≤ n) (h1 : n ≤ 9223372036854775807) : (Lib.itoa n).length ≤ 20 := by
  have h := dec_len 18 n.natAbs (by omega)
  by_cases hn : n < 0
  · rw [itoa_lt hn, List.length_cons]; omega
  · rw [itoa_ge hn]; omega
theorem tokText_len (t : Tok) (h : NumIn t) : (tokText t).length ≤ 6 * t.s.length + 50 := by
  unfold tokText
  split
  · omega
  · split
    · have := quoteL_len t.s; omega
    · split
      · have h1 := itoa_20 t.n h.n0 h.n1
        have h2 := itoa_20 t.x h.x0 h.x1
        split
        · omega
        · simp only [List.length_append, List.length_cons]; omega
      · simp
theorem joinT_len : ∀ (l : List Tok), (∀ t ∈ l, NumIn t) → (joinT l).length ≤ 60 * wtS l
  | [], _ => by rw [joinT_nil]; exact Nat.zero_le _
  | [t], h => by
    rw [joinT_one, wtS_cons]
    have := tokText_len t (h t List.mem_cons_self)
    omega
  | t :: u :: r, h => by
    rw [joinT_cons, wtS_cons]
    have h1 := tokText_len t (h t List.mem_cons_self)
    have h2 := joinT_len (u :: r) (fun x hx => h x (List.mem_cons_of_mem _ hx))
    simp only [List.length_append, List.length_cons]
    omega
theorem joinT_snoc : ∀ (l : List Tok) (t : Tok), l ≠ [] → joinT (l ++ [t]) = joinT l ++ 32 :: tokText t
  | [], _, h => absurd rfl h
  | [u], t, _ => by rw [List.singleton_append, joinT_cons, joinT_one, joinT_one]
  | u :: v :: r, t, _ => by
    have ih := joinT_snoc (v :: r) t (by simp)
    rw [List.cons_append, List.cons_append, joinT_cons, ← List.cons_append, ih, joinT_cons, List.append_assoc]
    rfl
theorem joinT_take {l : List Tok} {i : Nat} (h : i < l.length) (h0 : i ≠ 0) : joinT (l.take (i + 1)) = joinT (l.take i) ++ 32 :: tokText l[i] := by
  rw [List.take_succ_eq_append_getElem h]
  exact joinT_snoc _ _ (by intro e; have := congrArg List.length e; rw [List.length_take, List.length_nil] at this; omega)
theorem joinT_take0 {l : List Tok} (h : 0 < l.length) : joinT (l.take 1) = tokText l[0] := by
  rw [show (1 : Nat) = 0 + 1 from rfl, List.take_succ_eq_append_getElem h]
  simp [joinT_one]
theorem ba_sp (a b : List UInt8) : (ByteArray.mk a.toArray) ++ (ByteArray.mk #[32]) ++ (ByteArray.mk b.toArray) = ByteArray.mk (a ++ 32 :: b).toArray := by
  apply ByteArray.ext; simp
theorem ba_nil (b : List UInt8) : (ByteArray.mk #[]) ++ (ByteArray.mk b.toArray) = ByteArray.mk b.toArray := by
  apply ByteArray.ext; simp
set_option maxHeartbeats 2000000 in
theorem jointok_spec (l : List Tok) (a : Option Addr) (cap : Nat) (w : World) (N : Nat) (h : TkAt w N a cap l) (hN : N ≤ w.heap.size) (hl : wtS l ≤ 2097152) (hn : ∀ t ∈ l, NumIn t) :
    Calls Tryd.prog 20 #[.slice a l.length cap] w fun e w' => e = .returned (.string ⟨(joinT l).toArray⟩) ∧ Below w.heap.size w w' := by
  have H := Lib.hid h
  have HNN := Lib.hid hN
  have HL := Lib.hid (fun i => show (joinT (l.take i)).length ≤ 125829120 by
    have h1 := joinT_len (l.take i) (fun t ht => hn t (List.mem_of_mem_take ht))
    have h2 := wtS_take l i
    omega)
  have hlen : (l.length : Int) ≤ 2097152 := by have := wtS_len l; omega
  have CT := Lib.hid (fun (i : Nat) (hi : i < l.length) (W : World) => toktext_spec l[i] W (by have := wtS_mem (List.getElem_mem hi); omega) (hn _ (List.getElem_mem hi)).n0 (hn _ (List.getElem_mem hi)).n1 (hn _ (List.getElem_mem hi)).x0 (hn _ (List.getElem_mem hi)).x1)
  have HTL := Lib.hid (fun (i : Nat) (hi : i < l.length) => show (tokText l[i]).length ≤ 125829120 by
    have h1 := tokText_len l[i] (hn _ (List.getElem_mem hi))
    have h2 := wtS_mem (List.getElem_mem hi)
    omega)
  clear h hN hl hn
  go_enter Tryd.func20, Tryd.ntmps20
  go_wp2
  go_loopw [3, 4] (fun s i wr => ∃ i' : Nat, i = .int .i64 i' ∧ s = .string ⟨(joinT (l.take i')).toArray⟩ ∧ i' ≤ l.length ∧ Hid (Below w.heap.size w wr)) (fun _ i _ => l.length - (intOf i).toNat)
  case atStart => exact ⟨0, rfl, by simp [joinT_nil], Nat.zero_le _, Lib.hid (Below.refl _ _)⟩
  case round =>
    obtain ⟨i', rfl, rfl, hi', HB⟩ := hrel
    by_cases hlt : i' < l.length
    · obtain ⟨b, o, rfl, hbN, c0, c1, c2, c3⟩ := H.out.cell i' hlt
      replace c0 := (HB.out.cell (p := ⟨b, o + i' * 4, none⟩) (by have := HNN.out; show b < w.heap.size; omega)).trans c0
      replace c1 := (HB.out.cell (p := ⟨b, o + i' * 4 + 1, none⟩) (by have := HNN.out; show b < w.heap.size; omega)).trans c1
      replace c2 := (HB.out.cell (p := ⟨b, o + i' * 4 + 2, none⟩) (by have := HNN.out; show b < w.heap.size; omega)).trans c2
      replace c3 := (HB.out.cell (p := ⟨b, o + i' * 4 + 3, none⟩) (by have := HNN.out; show b < w.heap.size; omega)).trans c3
      have ct := CT.out i' hlt wr
      have hl1 := HL.out i'
      have hl2 := HTL.out i' hlt
      have HJ := Lib.hid (fun (h0 : i' ≠ 0) => joinT_take hlt h0)
      have HJ0 := Lib.hid (fun (h0 : i' = 0) => show joinT (l.take (i' + 1)) = tokText l[i'] by subst h0; exact joinT_take0 hlt)
      generalize hT : l[i'] = t at *
      obtain ⟨k, st, n, x⟩ := t
      simp only [Tok.val] at ct c0 c1 c2 c3
      generalize tokText ⟨k, st, n, x⟩ = T at *
      have CT1 := Lib.hid ct
      clear hT ct
      by_cases h0 : i' = 0
      · have HE := Lib.hid (HJ0.out h0)
        have hz : ¬ ((0 : Int) < i') := by omega
        have hnil : joinT (l.take i') = [] := by rw [h0]; rfl
        rw [hnil]
        have HI := Lib.hid h0
        clear h0 hnil HJ HJ0 hl1
        have hb1 : ¬ (9223372036854775807 < T.length) := by omega
        go_wp2_with fail
        refine CT1.out.mono ?_
        rintro e w2 ⟨rfl, hb2⟩
        have HB2 := Lib.hid (HB.out.trans (hb2.mono HB.out.size))
        clear hb2 CT1 c0 c1 c2 c3
        go_wp2
        go_roundw
        case rel => exact ⟨i' + 1, by go_num, by rw [HE.out, ← ba_nil T]; first | rfl | simp, by omega, HB2⟩
        case measure => simp [intOf]; omega
      · have HE := Lib.hid (HJ.out h0)
        have hz : (0 : Int) < i' := by omega
        clear h0 HJ HJ0
        generalize joinT (l.take i') = J at *
        have hb1 : ¬ (9223372036854775807 < J.length + 1) := by omega
        have hb2 : ¬ (9223372036854775807 < J.length + 1 + T.length) := by omega
        go_wp2_with fail
        refine CT1.out.mono ?_
        rintro e w2 ⟨rfl, hb2⟩
        have HB2 := Lib.hid (HB.out.trans (hb2.mono HB.out.size))
        clear hb2 CT1 c0 c1 c2 c3
        go_wp2
        go_roundw
        case rel => exact ⟨i' + 1, by go_num, by rw [HE.out, ← ba_sp], by omega, HB2⟩
        case measure => simp [intOf]; omega
    · have heq : i' = l.length := by omega
      have HE : Hid (joinT (l.take i') = joinT l) := Lib.hid (by rw [heq, List.take_length])
      generalize joinT (l.take i') = J at *
      clear heq
      go_wp2
      go_ret
      exact ⟨by rw [← HE.out]; rfl, HB.out⟩
def txv (l : List Tok) : List Value := l.map fun t => .string ⟨(tokText t).toArray⟩
@[simp] theorem txv_length (l : List Tok) : (txv l).length = l.length := by simp [txv]
theorem txv_append (l m : List Tok) : txv (l ++ m) = txv l ++ txv m := by simp [txv]
theorem strInfo : (Tryd.prog.info? 9).map (fun i => (i.zero, i.size, i.bytes)) = some (some (.string ⟨#[]⟩), 1, 16) := by kernel_rfl
theorem ownX_made (w : World) : (w.alloc (.cells #[] 9)).ownsRow w.heap.size 9 1 (.slice (some ⟨w.heap.size, 0, none⟩) 0 0) 0 [] := World.ownsRow_made (e := 9) (size := 1) w #[] 0 (Nat.le_refl _) (by decide) rfl
theorem join_eq (l : List Tok) : Lib.join ((l.map fun t => (⟨(tokText t).toArray⟩ : ByteArray)).map (·.data.toList)) (ByteArray.mk #[32]).data.toList = joinT l := by
  unfold joinT
  rw [List.map_map]
  congr 1
set_option maxHeartbeats 2000000 in
theorem jointok_impl (l : List Tok) (a : Option Addr) (cap : Nat) (w : World) (N : Nat) (h : TkAt w N a cap l) (hN : N ≤ w.heap.size) (hl : wtS l ≤ 2097152) (hn : ∀ t ∈ l, NumIn t) (htab : Lib.TabIs Tryd.prog w "internal/strconv.uint64pow10" .u64 Lib.pow10Tab) :
    Calls Tryd.prog 22 #[.slice a l.length cap] w fun e w' => e = .returned (.string ⟨(joinT l).toArray⟩) ∧ Below w.heap.size w w' := by
  obtain ⟨i0, hi, hz0, hz1, hz2⟩ := info_parts strInfo
  have H := Lib.hid h
  have HNN := Lib.hid hN
  have HJL := Lib.hid (show (joinT l).length ≤ 125829120 by have h1 := joinT_len l hn; omega)
  have hlen : (l.length : Int) ≤ 2097152 := by have := wtS_len l; omega
  have HLN := Lib.hid hlen
  have CT := Lib.hid (fun (i : Nat) (hi : i < l.length) (W : World) (hb : Below w.heap.size w W) => toktext_impl l[i] W (by have := wtS_mem (List.getElem_mem hi); omega) (hn _ (List.getElem_mem hi)).n0 (hn _ (List.getElem_mem hi)).n1 (hn _ (List.getElem_mem hi)).x0 (hn _ (List.getElem_mem hi)).x1 (tab_blw hb htab))
  have HW0 := Lib.hid (ownX_made w)
  have HB0 := Lib.hid (vbox w (.cells #[] 9))
  clear h hN hl hn htab
  go_enter Tryd.func22, Tryd.ntmps22
  go_wp2
  generalize w.alloc (.cells #[] 9) = w1 at *
  go_loopw [3, 9] (fun s i wr => ∃ i' : Nat, i = .int .i64 i' ∧ i' ≤ l.length ∧ Hid (wr.ownsRow w.heap.size 9 1 s i' (txv (l.take i'))) ∧ Hid (s ≠ .slice none 0 0) ∧ Hid (Below w.heap.size w wr)) (fun _ i _ => l.length - (intOf i).toNat)
  case atStart => exact ⟨0, rfl, Nat.zero_le _, HW0, Lib.hid (by simp), HB0⟩
  case round =>
    obtain ⟨i', rfl, hi', HO, HNL, HB⟩ := hrel
    by_cases hlt : i' < l.length
    · obtain ⟨b, o, rfl, hbN, c0, c1, c2, c3⟩ := H.out.cell i' hlt
      replace c0 := (HB.out.cell (p := ⟨b, o + i' * 4, none⟩) (by have := HNN.out; show b < w.heap.size; omega)).trans c0
      replace c1 := (HB.out.cell (p := ⟨b, o + i' * 4 + 1, none⟩) (by have := HNN.out; show b < w.heap.size; omega)).trans c1
      replace c2 := (HB.out.cell (p := ⟨b, o + i' * 4 + 2, none⟩) (by have := HNN.out; show b < w.heap.size; omega)).trans c2
      replace c3 := (HB.out.cell (p := ⟨b, o + i' * 4 + 3, none⟩) (by have := HNN.out; show b < w.heap.size; omega)).trans c3
      have CT1 := Lib.hid (fun W hb => CT.out i' hlt W hb)
      have HS := Lib.hid (show txv (l.take (i' + 1)) = txv (l.take i') ++ [.string ⟨(tokText l[i']).toArray⟩] by rw [List.take_succ_eq_append_getElem hlt, txv_append]; rfl)
      have CT2 := CT1.out
      generalize l[i'] = t at *
      obtain ⟨k, st, n, x⟩ := t
      simp only [Tok.val] at CT2 c0 c1 c2 c3
      generalize tokText ⟨k, st, n, x⟩ = T at *
      have CT3 := Lib.hid CT2
      clear CT1 CT2
      have HB1 := Lib.hid (HB.out.trans ((vbox wr (.cells #[.int .i64 k, .string ⟨st.toArray⟩, .int .i64 n, .int .i64 x] 23)).mono HB.out.size))
      have HO1 := Lib.hid (own_heap HO.out (w' := wr.alloc (.cells #[.int .i64 k, .string ⟨st.toArray⟩, .int .i64 n, .int .i64 x] 23)) (fun q hq => (vbox wr _).block q (World.ownsRow.lt HO.out q hq).2))
      obtain ⟨d0, d1, d2, d3⟩ := tc_new wr ⟨k, st, n, x⟩ 23
      simp only at d0 d1 d2 d3
      (go_upto_region 5 with fail)
      generalize wr.alloc (.cells #[.int .i64 k, .string ⟨st.toArray⟩, .int .i64 n, .int .i64 x] 23) = w2 at *
      clear c0 c1 c2 c3 HO HB
      go_wp2_with fail
      refine (CT3.out w2 HB1.out).mono ?_
      rintro e w3 ⟨rfl, hb3⟩
      have HB3 := Lib.hid (HB1.out.trans (hb3.mono HB1.out.size))
      have HO3 := Lib.hid (own_heap HO1.out (w' := w3) (fun q hq => hb3.block q (World.ownsRow.lt HO1.out q hq).2))
      have HO4 := Lib.hid (own_heap HO3.out (w' := w3.alloc (.cells #[.string ⟨T.toArray⟩] 9)) (fun q hq => (vbox w3 _).block q (World.ownsRow.lt HO3.out q hq).2))
      clear hb3 HO1 HB1 CT3 d0 d1 d2 d3 HO3
      go_wp2_with (at_builtin; refine wpList_append_own _ rfl _ _ 53 rfl w.heap.size 9 i0 (.string ⟨#[]⟩) 1 16 Tryd.underlying53 hi hz0 hz1 hz2 rfl (by decide) _ _ _ rfl HO4.out ⟨w3.heap.size, 0, none⟩ 1 1 [.string ⟨T.toArray⟩] rfl rfl ?c1 ?c2 ?c3 ?c4 ?c5 ?_)
      case c1 =>
        intro j u hj
        match j, hj with
        | 0, hj => simp at hj; subst hj; simp [Addr.add]
        | (j + 1), hj => simp at hj
      case c2 => intro u hu; simp at hu; rcases hu with rfl; rfl
      case c3 => have := HLN.out; unfold maxLen; omega
      case c4 => have := HLN.out; omega
      case c5 => have := HB3.out.size; simp; omega
      intro v' w4 hown4 hgrow hnil
      have HB4 := Lib.hid ((HB3.out.trans ((vbox w3 (.cells #[.string ⟨T.toArray⟩] 9)).mono HB3.out.size)).trans (grown_belowN hgrow (HB3.out.trans ((vbox w3 (.cells #[.string ⟨T.toArray⟩] 9)).mono HB3.out.size)).size (fun q hq => (World.ownsRow.lt HO4.out q hq).1)))
      have HO5 := Lib.hid (show w4.ownsRow w.heap.size 9 1 v' (i' + 1) (txv (l.take (i' + 1))) by rw [HS.out]; exact hown4)
      have HN5 := Lib.hid (show v' ≠ .slice none 0 0 from hnil)
      clear hown4 hgrow hnil HO4
      go_wp2
      go_roundw
      case rel => exact ⟨i' + 1, by go_num, by omega, HO5, HN5, HB4⟩
      case measure => simp [intOf]; omega
    · obtain rfl : i' = l.length := by omega
      rw [List.take_length] at HO
      rcases HO.out.2 with ⟨hv, _⟩ | ⟨g, cp, cur, rfl, hbg, hg, hnc, hcm, hcs, htake⟩
      · exact absurd hv HNL.out
      have hgl := (World.ownsRow.lt HO.out g rfl).2
      have cj := Tryd.strings_Join g 0 cp (l.map fun t => (⟨(tokText t).toArray⟩ : ByteArray)) ⟨#[32]⟩ wr (fun j x hx => by
        have hj : j < l.length := by
          rcases Nat.lt_or_ge j l.length with h | h
          · exact h
          · rw [List.getElem?_eq_none (by simpa using h)] at hx; cases hx
        rw [Nat.zero_add, World.ownsRow.cellAt HO.out j (by omega)]
        have : (txv l)[j]? = some (.string x) := by
          unfold txv
          rw [List.getElem?_map] at hx ⊢
          cases hq : l[j]? with
          | none => rw [hq] at hx; cases hx
          | some t => rw [hq] at hx; simp at hx; subst hx; rfl
        exact this) hgl (by have := HLN.out; simp; omega) (by simpa using hnc) (by rw [join_eq]; have := HJL.out; omega)
      rw [join_eq, List.length_map] at cj
      have HBB := Lib.hid HB.out
      clear HO hbg hg hnc hcm hcs htake HNL
      obtain ⟨J, hJ⟩ : ∃ J, J = joinT l := ⟨_, rfl⟩
      rw [← hJ] at cj
      have HJ := Lib.hid hJ
      clear hJ
      go_wp2_with fail
      refine cj.mono ?_
      rintro e w5 ⟨rfl, hb5⟩
      have HB5 := Lib.hid (HBB.out.trans (hb5.mono HBB.out.size))
      clear cj hb5
      go_wp2
      go_ret
      exact ⟨by rw [← HJ.out]; rfl, HB5.out⟩
end Go.Proofs.YtelehfefhlgbkaaDoor
