/- For every input the law FnBigs returns true and its arguments read afterwards as they read before; beside what the row states there is no condition. -/
import Derived.Test.YtnbknhbboofiiaaRows
import Derived.WalkKit
import Derived.ProofKit
import Derived.OpenShut
import Derived.SizedLaws
import Derived.Carry
import Derived.Deep.DeepHandedRow


import Derived.Lib.LaidTab
import Derived.Stop.LaidErr
import Derived.Test.YtnbknhbboofiiaaGetBig
import Derived.Test.YtnbknhbboofiiaaDrawBig
import Derived.Test.YtnbknhbboofiiaaSame
import Derived.Deep.RegionHeld3
import Derived.IntWalk

namespace Go.Proofs.Ytnbknhbboofiiaa.fnBigs
open Go.ChangeShapes Go.WideShapes Go.ChangeAt Go.RowKit
open Go.ChangeMaps (open_string shut_string)
set_option linter.unusedVariables false

theorem own : ownKnob Try.prog.godebug = none := by kernel_rfl
theorem laidOut : laidOutB Try.prog = true := by kernel_rfl

theorem walk_long (a : Option Addr) (len cap : Nat) (w : World) (h : 1048576 < len) (hm : len ≤ maxLen) : Calls Try.prog 3 #[.slice a len cap] w fun e w' => e = .returned (.bool true) ∧ Below w.heap.size w w' := by
  have hb := big_yes a len cap w h hm
  go_enter Try.func3, Try.ntmps3
  go_wp2_with (go_at_call 11; refine hb.mono ?_; rintro e w' ⟨rfl, rfl⟩)
  go_ret
  exact ⟨rfl, Below.refl _ _⟩
theorem putbig0 (W : World) (b : Nat) (n x : Int) (k : Nat) (hk : (bigL n x).length = k) : Calls Try.prog 13 #[.slice (some ⟨b, 0, none⟩) 0 0, .int .i64 n, .int .i64 x] W fun e w' => ∃ g8 c8, e = .returned (.slice (some ⟨g8, 0, none⟩) k c8) ∧ Reads w' (.slice (some ⟨g8, 0, none⟩) k c8) (bv (bigL n x)) ∧ Below W.heap.size W w' := by
  refine (putbig_impl W _ [] n x ⟨b, 0, 0, rfl, by intro j u hu; simp [bv] at hu⟩ (by simp)).mono ?_
  rintro e w' ⟨v, rfl, hn, o, hb⟩
  rw [List.nil_append, hk] at o
  obtain ⟨g, c, rfl, _⟩ := own_shape o hn
  exact ⟨g, c, rfl, own_reads o, hb⟩
/-- what the law's last test may meet -/
theorem five (n x : Int) : n < 0 ∨ 1000000000000000 < n ∨ ((0 ≤ n ∧ n ≤ 1000000000000000) ∧ x < widR n) ∨ ((0 ≤ n ∧ n ≤ 1000000000000000) ∧ widR n ≤ x ∧ ¬ widOk x) ∨ ((0 ≤ n ∧ n ≤ 1000000000000000) ∧ widR n ≤ x ∧ widOk x) := by
  by_cases h1 : n < 0
  · exact .inl h1
  by_cases h2 : 1000000000000000 < n
  · exact .inr (.inl h2)
  by_cases h3 : x < widR n
  · exact .inr (.inr (.inl ⟨⟨by omega, by omega⟩, h3⟩))
  by_cases h : widOk x
  · exact .inr (.inr (.inr (.inr ⟨⟨by omega, by omega⟩, by omega, h⟩)))
  · exact .inr (.inr (.inr (.inl ⟨⟨by omega, by omega⟩, by omega, h⟩)))
theorem no_neg {n x : Int} (h : n < 0) : bigL n x = [] := bigL_no (fun k => by have := fit_un k; omega)
theorem no_less {n x : Int} (h : 0 ≤ n) (k : x < widR n) : bigL n x = [] := bigL_no (fun g => by
  have := fit_un g
  rcases widR_cases n with ⟨h0, e⟩ | ⟨h0, h1, e⟩ | ⟨h0, h1, e⟩ | ⟨h0, h1, e⟩ | ⟨h0, e⟩ <;> rw [e] at k <;> omega)
theorem no_wid {n x : Int} (h : ¬ widOk x) : bigL n x = [] := bigL_no (fun k => h (fit_wid k))
theorem yes_fit {n x : Int} (h : 0 ≤ n) (k : widR n ≤ x) (g : widOk x) : fitB n x := by
  have := wid_un g
  refine fit_mk ⟨h, ?_⟩
  rcases widR_cases n with ⟨h0, e⟩ | ⟨h0, h1, e⟩ | ⟨h0, h1, e⟩ | ⟨h0, h1, e⟩ | ⟨h0, e⟩ <;> rw [e] at k <;> omega
set_option maxRecDepth 100000 in
set_option maxHeartbeats 8000000 in
theorem walk (a : Option Addr) (len cap : Nat) (w : World) (hC : CodeAt w a len) (hl : len ≤ 1048576) : Calls Try.prog 3 #[.slice a len cap] w fun e w' => e = .returned (.bool true) ∧ Below w.heap.size w w' := by
  have hb := big_no a len cap w hl
  have HC := Lib.hid hC
  clear hC
  go_enter Try.func3, Try.ntmps3
  go_wp2_with fail
  refine hb.mono ?_
  rintro e w' ⟨rfl, rfl⟩
  clear hb
  go_wp2_with fail
  refine (draw_putbig a len cap w HC.out hl).mono ?_
  rintro e w2 ⟨g2, c2, lb, n, x, ⟨hlb, hn, hx⟩, hlc2, hcm2, rfl, o2, b2⟩
  have B2 := Lib.hid b2
  have O2 := Lib.hid o2
  have hn0 : -9223372036854775808 ≤ n := hn.1
  have hn1 : n ≤ 9223372036854775807 := hn.2
  have hx0 : 0 ≤ x := hx.1
  have hx8 : x ≤ 8 := hx.2
  have hbl := bigL_len n x
  have hel : (lb ++ bigL n x).length ≤ 1099511627776 := by
    rw [List.length_append]
    omega
  have cp := putbig_impl w2 _ lb n x (own_sl O2.out (by intro e; cases e)) (by omega)
  clear b2 o2 hn hx hbl
  go_wp2_with fail
  refine cp.mono ?_
  rintro e w3 ⟨v3, rfl, hn3, o3, b3⟩
  obtain ⟨X, hX⟩ : ∃ X, X = (lb ++ bigL n x).length := ⟨_, rfl⟩
  rw [← hX] at o3
  have HX := Lib.hid hX
  clear hX
  obtain ⟨gx, cx, rfl, hgx, hlx, hcx⟩ := own_shape o3 hn3
  have B3 := Lib.hid (B2.out.trans (b3.mono B2.out.size))
  have P2 := Lib.hid (own_below O2.out b3)
  have O3 := Lib.hid o3
  have HXC := Lib.hid (And.intro hlx hcx)
  clear cp b3 o3 hn3 hgx hlx hcx
  go_wp2_with fail
  refine (draw_getbig a len cap w3 (HC.out.below B3.out) hl).mono ?_
  rintro e w4 ⟨g4, c4, l4, i, u, ⟨hl4, ⟨hi0, hi1⟩, ⟨hu0, hu8⟩⟩, hlc4, hcm4, rfl, o4, b4⟩
  have B4 := Lib.hid (B3.out.trans (b4.mono B3.out.size))
  have Q2 := Lib.hid (own_below P2.out b4)
  have Q3 := Lib.hid (own_below O3.out b4)
  have O4 := Lib.hid o4
  have R4 := Lib.hid (own_reads o4)
  have cg := getbig_impl w4 g4 0 c4 l4 i u (fun j u hu => own_cells O4.out j u hu) hlc4 hcm4 (by omega) (by omega)
  have cs := getbig_spec w4 g4 0 c4 l4 i u (fun j u hu => own_cells O4.out j u hu) (by omega)
  have HLM := Lib.hid (And.intro hl4 (And.intro hlc4 hcm4))
  clear b4 o4 hlc2 hcm2
  have hcz : (l4.length : Int) ≤ c4 := by omega
  have hcz2 : (c4 : Int) ≤ 9223372036854775807 := by unfold maxLen at hcm4; omega
  have hlz4 : (l4.length : Int) ≤ 9 := by omega
  clear hl4 hlc4 hcm4
  by_cases hok : bigOk l4 i u
  · skip
    have hin := hok.1
    have hw1 := wid_un hin.1
    obtain ⟨j, rfl⟩ : ∃ j : Nat, i = j := ⟨i.toNat, by have := hin.2.1; omega⟩
    obtain ⟨k, rfl⟩ : ∃ k : Nat, u = k := ⟨u.toNat, by omega⟩
    have hjk : (j : Int) + k ≤ l4.length := hin.2.2
    have hbg := bigL_get hok
    rw [bigT_yes hok] at cg cs
    simp only [Int.toNat_natCast] at hbg
    have hM : bigN l4 j k ≤ 1000000000000000 := hok.2
    have hkk : (bigL (bigN l4 j k) k).length = k := by rw [hbg, List.length_take, List.length_drop]; omega
    have hk1 : 1 ≤ k := by omega
    generalize bigN l4 j k = M at *
    have HM := Lib.hid hM
    have HBG := Lib.hid hbg
    have HKK := Lib.hid hkk
    have hmm : ((M : Int) != M) = false := by simp
    have htt : ((true : Bool) != true) = false := rfl
    have HK1 := Lib.hid hk1
    have HJK := Lib.hid hjk
    clear hok hin hw1 hbg hM hkk hk1 hi0 hi1 hu0 hu8
    go_wp2_with fail
    refine cg.mono ?_
    rintro e w' ⟨rfl, rfl⟩
    go_wp2_with fail
    refine cs.mono ?_
    rintro e w' ⟨rfl, rfl⟩
    clear cg cs
    go_wp2_with fail
    refine (draw_width a len cap w4 (HC.out.below B4.out) hl).mono ?_
    rintro e w5 ⟨d, hd, rfl, b5⟩
    have B5 := Lib.hid (B4.out.trans (b5.mono B4.out.size))
    have S2 := Lib.hid (own_below Q2.out b5)
    have S3 := Lib.hid (own_below Q3.out b5)
    have R5 := Lib.hid (R4.out.below b5)
    have CWI := Lib.hid (width_impl d)
    have CWS := Lib.hid (width_spec d)
    have hdd : ((widR d : Int) != widR d) = false := by simp
    generalize widR d = dw at *
    clear b5 hd
    have cp2 := putbig_spec w5 _ lb n x (own_sl S2.out (by intro e; cases e)) (by omega)
    go_wp2_with fail
    refine cp2.mono ?_
    rintro e w6 ⟨v6, rfl, _, o6, b6⟩
    have B6 := Lib.hid (B5.out.trans (b6.mono B5.out.size))
    have T2 := Lib.hid (own_below S2.out b6)
    have T3 := Lib.hid (own_below S3.out b6)
    have R6 := Lib.hid (R5.out.below b6)
    have ce := same_yes w6 _ _ _ (own_reads T3.out) (own_reads o6) hel
    clear o6 b6 cp2
    go_wp2_with fail
    refine ce.mono ?_
    rintro e w7 ⟨rfl, b7⟩
    have B7 := Lib.hid (B6.out.trans (b7.mono B6.out.size))
    have U2 := Lib.hid (own_below T2.out b7)
    have U3 := Lib.hid (own_below T3.out b7)
    have R7 := Lib.hid (R6.out.below b7)
    clear ce b7
    go_wp2_with fail
    refine (CWI.out w7).mono ?_
    rintro e w' ⟨rfl, rfl⟩
    go_wp2_with fail
    refine (CWS.out w7).mono ?_
    rintro e w' ⟨rfl, rfl⟩
    go_wp2_with fail
    have SUB := Lib.hid (fun (W : World) (h : Below w7.heap.size w7 W) (off len c' : Nat) (ho : off = j) (hl : len = k) => (by rw [HBG.out]; exact sub_reads (R7.out.below h) (by have := HJK.out; omega) ho hl : Reads W (.slice (some ⟨g4, off, none⟩) len c') (bv (bigL M k))))
    have hjc : (j : Int) + k ≤ c4 := by have := HJK.out; omega
    have hcj : ¬ c4 = j := by have := HJK.out; have := HK1.out; omega
    have hs0 : (0 : Int) ≤ j := by omega
    have hs1 : (j : Int) ≤ (j : Int) + k := by omega
    have hs2 : ((j : Int) + k).toNat = j + k := by omega
    have hs3 : j + k - j = k := by omega
    have hs4 : (0 : Int) ≤ (j : Int) + k := by omega
    have hs5 : IntKind.i64.wrap ((j : Int) + k) = (j : Int) + k := IntWalk.i64_in _ (by omega)
    go_region_held3 (fun _ => True) (trivial) ((first | (go_at_call 13; refine (putbig0 _ _ _ _ k HKK.out).mono ?_; rintro e w8 ⟨g8, c8, rfl, r8, b8⟩; have bb8 : Below w7.heap.size w7 w8 := (by first | exact (((Below.refl w7.heap.size w7).alloc (Nat.le_refl _) _).drew).trans (b8.mono (by show w7.heap.size ≤ (w7.alloc _).heap.size; simp)) | exact ((Below.refl w7.heap.size w7).alloc (Nat.le_refl _) _).trans (b8.mono (by show w7.heap.size ≤ (w7.alloc _).heap.size; simp))); have BB8 := Lib.hid bb8; have RR8 := Lib.hid r8; clear r8 b8 bb8) | (go_at_call 18; refine (same_yes _ _ _ (bigL M k) (by first | exact RR8.out | exact RR8.out.below (below_drewN (Below.refl _ _) _)) (SUB.out _ (by first | exact BB8.out | exact below_drewN BB8.out _) _ _ _ (by first | rfl | omega | simp) (by first | rfl | omega | simp)) (by have := HKK.out; omega)).mono ?_; rintro e w9a ⟨rfl, b9a⟩; have BB9 := Lib.hid (show Below w7.heap.size w7 w9a from by first | exact BB8.out.trans (b9a.mono BB8.out.size) | exact (below_drewN BB8.out 1).trans (b9a.mono BB8.out.size)); clear b9a)))
    all_goals
      have WB := Lib.hid (B7.out.trans (BB9.out.mono B7.out.size))
      have WX := Lib.hid (own_below U3.out BB9.out)
      have WY := Lib.hid (own_below U2.out BB9.out)
      clear BB9 BB8 RR8 hjc hcj hs0 hs1 hs2 hs3 hs4 hs5 SUB
      rcases five n x with h5 | h5 | h5 | h5 | h5
      · skip
        have hx0 : lb ++ bigL n x = lb := by rw [no_neg h5, List.append_nil]
        have ce := same_yes w9a _ _ lb (by have := own_reads WX.out; rw [hx0] at this; exact this) (own_reads WY.out) (by omega)
        clear hx0
        go_wp2_with fail
        refine ce.mono ?_
        rintro e w10 ⟨rfl, b10⟩
        have BZ := Lib.hid (WB.out.trans (b10.mono WB.out.size))
        clear b10 ce
        go_wp2
        go_ret
        exact ⟨rfl, BZ.out⟩
      · have h6 : ¬ n < 0 := by omega
        go_wp2
        go_ret
        exact ⟨rfl, WB.out⟩
      · skip
        have hx0 : lb ++ bigL n x = lb := by rw [no_less h5.1.1 h5.2, List.append_nil]
        have ce := same_yes w9a _ _ lb (by have := own_reads WX.out; rw [hx0] at this; exact this) (own_reads WY.out) (by omega)
        clear hx0
        have cw := width_impl n w9a
        have h6 : ¬ n < 0 := by omega
        have h7 : ¬ 1000000000000000 < n := by omega
        have h8 := h5.2
        generalize widR n = nw at *
        clear h5
        go_wp2_with fail
        refine cw.mono ?_
        rintro e w' ⟨rfl, rfl⟩
        clear cw
        go_wp2_with fail
        refine ce.mono ?_
        rintro e w10 ⟨rfl, b10⟩
        have BZ := Lib.hid (WB.out.trans (b10.mono WB.out.size))
        clear b10 ce
        go_wp2
        go_ret
        exact ⟨rfl, BZ.out⟩
      · skip
        have hx0 : lb ++ bigL n x = lb := by rw [no_wid h5.2.2, List.append_nil]
        have ce := same_yes w9a _ _ lb (by have := own_reads WX.out; rw [hx0] at this; exact this) (own_reads WY.out) (by omega)
        clear hx0
        have cw := width_impl n w9a
        have h6 : ¬ n < 0 := by omega
        have h7 : ¬ 1000000000000000 < n := by omega
        have h8 : ¬ x < widR n := by omega
        generalize widR n = nw at *
        have e1 : (x != 1) = true := by simp; intro e; exact h5.2.2 (by rw [e]; decide)
        have e2 : (x != 2) = true := by simp; intro e; exact h5.2.2 (by rw [e]; decide)
        have e4 : (x != 4) = true := by simp; intro e; exact h5.2.2 (by rw [e]; decide)
        have e8 : (x != 8) = true := by simp; intro e; exact h5.2.2 (by rw [e]; decide)
        clear h5
        go_wp2_with fail
        refine cw.mono ?_
        rintro e w' ⟨rfl, rfl⟩
        clear cw
        go_wp2_with fail
        refine ce.mono ?_
        rintro e w10 ⟨rfl, b10⟩
        have BZ := Lib.hid (WB.out.trans (b10.mono WB.out.size))
        clear b10 ce
        go_wp2
        go_ret
        exact ⟨rfl, BZ.out⟩
      · have hf := yes_fit h5.1.1 h5.2.1 h5.2.2
        have hbt := bigT_put lb hf h5.1.2
        have cgx := fun w hc => getbig_impl w gx 0 cx (lb ++ bigL n x) lb.length x hc (by rw [← HX.out]; exact HXC.out.1) HXC.out.2 hel (by omega)
        rw [hbt, ← HX.out] at cgx
        have hxl : X = lb.length + x.toNat := by rw [HX.out, List.length_append, bigL_yes hf, be_length]
        have hxz : (X : Int) = (lb.length : Int) + x := by omega
        have hlb2 : (lb.length : Int) ≤ 2 := by omega
        have cw := width_impl n w9a
        have h6 : ¬ n < 0 := by omega
        have h7 : ¬ 1000000000000000 < n := by omega
        have h8 : ¬ x < widR n := by omega
        have hnn : (n == n) = true := by simp
        have hww := wid_un h5.2.2
        generalize widR n = nw at *
        have cgy := cgx w9a (fun j u hu => own_cells WX.out j u hu)
        have HXZ := Lib.hid hxz
        clear hf hbt hxl h5 cgx hxz
        rcases hww with rfl | rfl | rfl | rfl
        all_goals
          go_wp2_with fail
          refine cw.mono ?_
          rintro e w' ⟨rfl, rfl⟩
          clear cw
          go_wp2_with fail
          refine cgy.mono ?_
          rintro e w' ⟨rfl, rfl⟩
          clear cgy
          have hxz := HXZ.out
          go_wp2
          go_ret
          exact ⟨rfl, WB.out⟩
  · skip
    rw [bigT_no hok] at cg cs
    clear hok
    go_wp2_with fail
    refine cg.mono ?_
    rintro e w' ⟨rfl, rfl⟩
    go_wp2_with fail
    refine cs.mono ?_
    rintro e w' ⟨rfl, rfl⟩
    clear cg cs
    go_wp2_with fail
    refine (draw_width a len cap w4 (HC.out.below B4.out) hl).mono ?_
    rintro e w5 ⟨d, hd, rfl, b5⟩
    have B5 := Lib.hid (B4.out.trans (b5.mono B4.out.size))
    have S2 := Lib.hid (own_below Q2.out b5)
    have S3 := Lib.hid (own_below Q3.out b5)
    have R5 := Lib.hid (R4.out.below b5)
    have CWI := Lib.hid (width_impl d)
    have CWS := Lib.hid (width_spec d)
    have hdd : ((widR d : Int) != widR d) = false := by simp
    generalize widR d = dw at *
    clear b5 hd
    have cp2 := putbig_spec w5 _ lb n x (own_sl S2.out (by intro e; cases e)) (by omega)
    go_wp2_with fail
    refine cp2.mono ?_
    rintro e w6 ⟨v6, rfl, _, o6, b6⟩
    have B6 := Lib.hid (B5.out.trans (b6.mono B5.out.size))
    have T2 := Lib.hid (own_below S2.out b6)
    have T3 := Lib.hid (own_below S3.out b6)
    have R6 := Lib.hid (R5.out.below b6)
    have ce := same_yes w6 _ _ _ (own_reads T3.out) (own_reads o6) hel
    clear o6 b6 cp2
    go_wp2_with fail
    refine ce.mono ?_
    rintro e w7 ⟨rfl, b7⟩
    have B7 := Lib.hid (B6.out.trans (b7.mono B6.out.size))
    have U2 := Lib.hid (own_below T2.out b7)
    have U3 := Lib.hid (own_below T3.out b7)
    have R7 := Lib.hid (R6.out.below b7)
    clear ce b7
    go_wp2_with fail
    refine (CWI.out w7).mono ?_
    rintro e w' ⟨rfl, rfl⟩
    go_wp2_with fail
    refine (CWS.out w7).mono ?_
    rintro e w' ⟨rfl, rfl⟩
    go_wp2_with fail
    go_quiet (fail)
    generalize hq : w7.drewN _ = w9a
    have hb8 : Below w7.heap.size w7 w9a := by rw [← hq]; exact below_drewN (Below.refl _ _) _
    have WB := Lib.hid (B7.out.trans (hb8.mono B7.out.size))
    have WX := Lib.hid (own_below U3.out hb8)
    have WY := Lib.hid (own_below U2.out hb8)
    clear hb8 hq
    rcases five n x with h5 | h5 | h5 | h5 | h5
    · skip
      have hx0 : lb ++ bigL n x = lb := by rw [no_neg h5, List.append_nil]
      have ce := same_yes w9a _ _ lb (by have := own_reads WX.out; rw [hx0] at this; exact this) (own_reads WY.out) (by omega)
      clear hx0
      go_wp2_with fail
      refine ce.mono ?_
      rintro e w10 ⟨rfl, b10⟩
      have BZ := Lib.hid (WB.out.trans (b10.mono WB.out.size))
      clear b10 ce
      go_wp2
      go_ret
      exact ⟨rfl, BZ.out⟩
    · have h6 : ¬ n < 0 := by omega
      go_wp2
      go_ret
      exact ⟨rfl, WB.out⟩
    · skip
      have hx0 : lb ++ bigL n x = lb := by rw [no_less h5.1.1 h5.2, List.append_nil]
      have ce := same_yes w9a _ _ lb (by have := own_reads WX.out; rw [hx0] at this; exact this) (own_reads WY.out) (by omega)
      clear hx0
      have cw := width_impl n w9a
      have h6 : ¬ n < 0 := by omega
      have h7 : ¬ 1000000000000000 < n := by omega
      have h8 := h5.2
      generalize widR n = nw at *
      clear h5
      go_wp2_with fail
      refine cw.mono ?_
      rintro e w' ⟨rfl, rfl⟩
      clear cw
      go_wp2_with fail
      refine ce.mono ?_
      rintro e w10 ⟨rfl, b10⟩
      have BZ := Lib.hid (WB.out.trans (b10.mono WB.out.size))
      clear b10 ce
      go_wp2
      go_ret
      exact ⟨rfl, BZ.out⟩
    · skip
      have hx0 : lb ++ bigL n x = lb := by rw [no_wid h5.2.2, List.append_nil]
      have ce := same_yes w9a _ _ lb (by have := own_reads WX.out; rw [hx0] at this; exact this) (own_reads WY.out) (by omega)
      clear hx0
      have cw := width_impl n w9a
      have h6 : ¬ n < 0 := by omega
      have h7 : ¬ 1000000000000000 < n := by omega
      have h8 : ¬ x < widR n := by omega
      generalize widR n = nw at *
      have e1 : (x != 1) = true := by simp; intro e; exact h5.2.2 (by rw [e]; decide)
      have e2 : (x != 2) = true := by simp; intro e; exact h5.2.2 (by rw [e]; decide)
      have e4 : (x != 4) = true := by simp; intro e; exact h5.2.2 (by rw [e]; decide)
      have e8 : (x != 8) = true := by simp; intro e; exact h5.2.2 (by rw [e]; decide)
      clear h5
      go_wp2_with fail
      refine cw.mono ?_
      rintro e w' ⟨rfl, rfl⟩
      clear cw
      go_wp2_with fail
      refine ce.mono ?_
      rintro e w10 ⟨rfl, b10⟩
      have BZ := Lib.hid (WB.out.trans (b10.mono WB.out.size))
      clear b10 ce
      go_wp2
      go_ret
      exact ⟨rfl, BZ.out⟩
    · have hf := yes_fit h5.1.1 h5.2.1 h5.2.2
      have hbt := bigT_put lb hf h5.1.2
      have cgx := fun w hc => getbig_impl w gx 0 cx (lb ++ bigL n x) lb.length x hc (by rw [← HX.out]; exact HXC.out.1) HXC.out.2 hel (by omega)
      rw [hbt, ← HX.out] at cgx
      have hxl : X = lb.length + x.toNat := by rw [HX.out, List.length_append, bigL_yes hf, be_length]
      have hxz : (X : Int) = (lb.length : Int) + x := by omega
      have hlb2 : (lb.length : Int) ≤ 2 := by omega
      have cw := width_impl n w9a
      have h6 : ¬ n < 0 := by omega
      have h7 : ¬ 1000000000000000 < n := by omega
      have h8 : ¬ x < widR n := by omega
      have hnn : (n == n) = true := by simp
      have hww := wid_un h5.2.2
      generalize widR n = nw at *
      have cgy := cgx w9a (fun j u hu => own_cells WX.out j u hu)
      have HXZ := Lib.hid hxz
      clear hf hbt hxl h5 cgx hxz
      rcases hww with rfl | rfl | rfl | rfl
      all_goals
        go_wp2_with fail
        refine cw.mono ?_
        rintro e w' ⟨rfl, rfl⟩
        clear cw
        go_wp2_with fail
        refine cgy.mono ?_
        rintro e w' ⟨rfl, rfl⟩
        clear cgy
        have hxz := HXZ.out
        go_wp2
        go_ret
        exact ⟨rfl, WB.out⟩

theorem contract (H : Type) (enc : TypeId × Value → H) (W : World) (base : Nat) (args : Array Value) (ds gs : List (DataW H)) (before : List MemPlace)
    (hval : ∀ (j : Nat) t v, Try.f3.params[j]? = some t → args[j]? = some v → Value.okWide Try.prog W .any base t v)
    (hW : DataW.Whole enc Try.prog Try.f3.params.toList Rows.fnBigsSpec.vars false W args.toList ds gs before)
    (hcond : ∀ k, (OpenSpec.ofChange Rows.fnBigsSpec).cond = some k → k H (ds ++ gs) = true)
    (hsz : (DataW.weightsEach Try.prog (Try.f3.params.toList ++ (OpenSpec.ofChange Rows.fnBigsSpec).bare.plain.varTypes Try.prog) (ds ++ gs)).all (· ≤ reachBytes) = true)
    (hL : laidMetH Try.prog Rows.fnBigsRow.laid W) :
    Calls Try.prog 3 args W fun e W' => ∃ v, e = .returned v ∧ Rows.fnBigsSpec.post enc Try.prog Try.f3 false true false false W args v W' := by
  have hW' := hW
  have hlt := hW'.lt
  obtain ⟨p, q, hA0, hV, rfl, hfz, hnd⟩ := hW
  have hA : DataW.TrodAll enc Try.prog W 0 (fun _ => true) true Try.f3.params.toList args.toList ds p := hA0
  rw [Try.params3] at hA hval hsz
  obtain ⟨v0, vs0, d0, ds0, p0, q0, hargs, rfl, rfl, h0, r0⟩ := trodAll_cons hA
  obtain ⟨rfl, rfl, rfl⟩ := trodAll_nil r0
  obtain rfl : args = #[v0] := by cases args; simp_all
  obtain ⟨rfl, rfl⟩ := trodVars_none hV
  simp only [List.append_nil] at hW' hlt
  have hlt0 : ∀ x ∈ p0, x.block < W.heap.size := fun x hx => hlt x (by simp [hx])
  have hk0 := h0
  clear hA0 hA
  have fin : ∀ W' : World, Below W.heap.size W W' → Rows.fnBigsSpec.post enc Try.prog Try.f3 false true false false W _ (.bool true) W' := fun W' hb =>
    ⟨_, _, _, [], _, [], hW', trodAll_mk1 (shut_bool Try.underlying4 _), (trodAll_cons_mk (Below.trod laidOut (by kernel_rfl) (of_decide_eq_true (by kernel_rfl)) hk0 hb hlt0) trodAll_mk0), rfl, hb.frame _, fun h => by cases h⟩
  refine Calls.mono (R := fun e w' => e = .returned (.bool true) ∧ Below W.heap.size W w') ?_ (fun e W' h => ⟨_, h.1, fin W' h.2⟩)
  clear fin
  obtain ⟨a, len, cap, rfl, hC, hm⟩ := open_code (hval 0 _ v0 rfl rfl) h0 hlt0
  by_cases hl : 1048576 < len
  · exact walk_long a len cap W hl hm
  · exact walk a len cap W hC (by omega)

theorem laid_met (os : Os) : laidMet Try.prog Rows.fnBigsRow.laid (((World.holding Try.prog os ⟨#[], #[], []⟩)).forCall (fun _ _ => 0) ⟨#[], #[.slice none 0 0], []⟩).memory :=
  ⟨[], rfl, List.nodup_nil, fun _ _ h => by cases h⟩
theorem reads (os : Os) {H : Type} (enc : TypeId × Value → H) : ∃ places, DataW.whole enc Try.prog (((World.holding Try.prog os ⟨#[], #[], []⟩)).forCall (fun _ _ => 0) ⟨#[], #[.slice none 0 0], []⟩).memory Try.f3.params.toList Rows.fnBigsSpec.vars false (#[.slice none 0 0] : Array Value).toList 8 = some ([.nil], [], places) :=
  ⟨[], by kernel_rfl⟩

set_option maxRecDepth 100000 in
theorem lifted (os : Os) (started : os.Started) (H : Type) (enc : TypeId × Value → H) (F : Stop.Interp) :
    ReturnsInHanded {} Try.checked os 3 .any ((OpenSpec.ofChange Rows.fnBigsSpec).preRow enc Try.prog Try.f3 Rows.fnBigsRow.domain false Rows.fnBigsRow.laid) (((OpenSpec.ofChange Rows.fnBigsSpec).at F).post enc Try.prog Try.f3 false true false false) := by
  obtain ⟨places, hx⟩ := reads os enc
  refine returnsInHanded_of_row (C := Try.checked) (s := OpenSpec.ofChange Rows.fnBigsSpec) own started (by kernel_rfl) Try.func3
    (witness_row_at (enc := enc) (C := Try.checked) false (World.holding Try.prog os ⟨#[], #[], []⟩) #[.slice none 0 0] rfl (by kernel_rfl) (by kernel_rfl) (by kernel_rfl)
      (OpenSpec.preRow_of_cond 8 hx (by kernel_rfl) (fun k hk => by cases hk) (by kernel_rfl) (laid_met os))) ?_
  intro W base args ds gs before hval hW _ hcond hsz hL _ _
  exact contract H enc W base args ds gs before hval hW hcond hsz hL

theorem said : Rows.FnBigsSaid :=
  OpenClaim.holds_of_cond 3 Try.f3 rfl rfl rfl rfl rfl rfl rfl ⟨rfl, rfl, rfl, rfl, rfl⟩ rfl rfl rfl rfl rfl (by kernel_rfl) Try.func3 (by kernel_rfl)
    (of_decide_eq_true (by kernel_rfl)) (by unfold Func.isWrapper; first | (rw [if_pos (by decide +kernel)]; kernel_rfl) | (rw [if_neg (by decide +kernel)]; exact ⟨rfl, rfl⟩))
    (fun os started H enc _ F => by rw [OpenClaim.pre_eq_preRow]; exact lifted os started H enc F)

theorem proved : Rows.FnBigsSaid := said
#print axioms proved
end Go.Proofs.Ytnbknhbboofiiaa.fnBigs
