/- For every input the law FnRunes returns true and its arguments read afterwards as they read before; beside what the row states there is no condition. -/
import Derived.Test.YtnbknhbboofiiaaDoorCards
import Derived.Test.YtnbknhbboofiiaaDoorTie
import Derived.WalkKit
import Derived.ProofKit
import Derived.OpenShut
import Derived.SizedLaws
import Derived.Carry
import Derived.Deep.DeepHandedRow
import Derived.Deep.DeepWitnessRowRef
import Derived.LaidMore
import Derived.Lay
import Derived.Lib.LaidTab
import Derived.Stop.LaidErr
import Derived.Test.YtnbknhbboofiiaaDoorDrawGet
import Derived.Test.YtnbknhbboofiiaaDoorDecode
import Derived.Test.YtnbknhbboofiiaaDoorSame
import Derived.Test.YtnbknhbboofiiaaDoorText
import Derived.Test.YtnbknhbboofiiaaDoorArgs
import Derived.Deep.RegionHeld3

namespace Go.Proofs.YtnbknhbboofiiaaDoor.fnRunes
open Go.ChangeShapes Go.WideShapes Go.ChangeAt Go.RowKit
open Go.ChangeMaps (open_string shut_string)
set_option linter.unusedVariables false

theorem own : ownKnob Tryd.prog.godebug = none := by kernel_rfl
theorem laidOut : laidOutB Tryd.prog = true := by kernel_rfl

theorem walk_long (a : Option Addr) (len cap : Nat) (w : World) (h : 1048576 < len) (hm : len ≤ maxLen) : Calls Tryd.prog 3 #[.slice a len cap] w fun e w' => e = .returned (.bool true) ∧ Below w.heap.size w w' := by
  have hb := big_yes a len cap w h hm
  go_enter Tryd.func3, Tryd.ntmps3
  go_wp2_with (go_at_call 4; refine hb.mono ?_; rintro e w' ⟨rfl, rfl⟩)
  go_ret
  exact ⟨rfl, Below.refl _ _⟩
theorem wide_pos {n : Int} (h : okR n) : 1 ≤ wideR n := by rcases wideR_cases n with h' | h' | h' | h' | ⟨h', _⟩ <;> first | omega | exact absurd h h'
theorem wide_le (n : Int) : wideR n ≤ 4 := by rcases wideR_cases n with h' | h' | h' | h' | h' <;> omega
theorem wide_bad {m : Nat} (h : okR m) : ¬ (m = 65533 ∧ wideR m = 1) := by
  rintro ⟨g1, g2⟩
  rcases wideR_cases m with h' | h' | h' | h' | ⟨h', _⟩ <;> first | omega | exact absurd h h'
theorem decode_at_end (lb : List UInt8) (m : Nat) (h : okR m) : dec (lb ++ encR m) lb.length = (m, wideR m) := by
  rw [dec_drop, List.drop_left]
  have := decode_enc m [] h
  rw [List.append_nil] at this
  exact this
theorem getV_two (l : List UInt8) (a : Int) : getV l a = .tuple #[.int .i64 0, .int .i64 0, .bool false] ∨ ∃ j : Nat, a = j ∧ j < l.length ∧ dec l j ≠ (65533, 1) ∧ getV l a = .tuple #[.int .i64 (dec l j).1, .int .i64 (j + (dec l j).2), .bool true] := by
  by_cases h : 0 ≤ a ∧ a < l.length
  · obtain ⟨j, rfl⟩ : ∃ j : Nat, a = j := ⟨a.toNat, by omega⟩
    by_cases hb : dec l j = (65533, 1)
    · exact .inl (getV_bad hb)
    · exact .inr ⟨j, rfl, by omega, hb, getV_good (by omega) rfl (fun g => hb (Prod.ext g.1 g.2))⟩
  · exact .inl (getV_out h)
theorem sub_reads {w : World} {g n c off len c' j k : Nat} {l : List UInt8} (h : Reads w (.slice (some ⟨g, 0, none⟩) n c) (bv l)) (hjk : j + k ≤ l.length) (ho : off = j) (hl : len = k) : Reads w (.slice (some ⟨g, off, none⟩) len c') (bv ((l.drop j).take k)) := by
  subst ho hl
  refine ⟨_, c', by rw [bv_length, List.length_take, List.length_drop, Nat.min_eq_left (by omega)], fun i hi => ⟨g, off, rfl, ?_⟩⟩
  have hi' : i < len := by rw [bv_length, List.length_take, List.length_drop] at hi; omega
  obtain ⟨a, c2, e, hc⟩ := h
  obtain ⟨b, o, ha, hcl⟩ := hc (off + i) (by rw [bv_length]; omega)
  injection e with e1 e2 e3
  rw [ha] at e1
  injection e1 with e1
  injection e1 with e1 e4
  subst e1
  subst e4
  rw [Nat.zero_add] at hcl
  rw [hcl]
  simp [bv]
theorem put0 (W : World) (b : Nat) (r : Int) (k : Nat) (hk : (encR r).length = k) (hr : okR r) : Calls Tryd.prog 6 #[.slice (some ⟨b, 0, none⟩) 0 0, .int .i64 r] W fun e w' => ∃ g8 c8, e = .returned (.slice (some ⟨g8, 0, none⟩) k c8) ∧ Reads w' (.slice (some ⟨g8, 0, none⟩) k c8) (bv (encR r)) ∧ Below W.heap.size W w' := by
  refine (put_impl W b 0 0 [] r (by intro j u hu; simp [bv] at hu) (by simp)).mono ?_
  rintro e w' ⟨v, rfl, hn, o, hb⟩
  rw [List.nil_append, hk] at o
  obtain ⟨g, c, rfl, _⟩ := own_shape o hn
  exact ⟨g, c, rfl, own_reads o, hb⟩
set_option maxRecDepth 100000 in
set_option maxRecDepth 100000 in
set_option maxHeartbeats 8000000 in
theorem walk (a : Option Addr) (len cap : Nat) (w : World) (hT : Tabs w) (hC : CodeAt w a len) (hl : len ≤ 1048576) : Calls Tryd.prog 3 #[.slice a len cap] w fun e w' => e = .returned (.bool true) ∧ Below w.heap.size w w' := by
  have hb := big_no a len cap w hl
  have HC := Lib.hid hC
  have HT := Lib.hid hT
  clear hC hT
  go_enter Tryd.func3, Tryd.ntmps3
  go_wp2_with fail
  refine hb.mono ?_
  rintro e w' ⟨rfl, rfl⟩
  clear hb
  go_wp2_with fail
  refine (draw_put a len cap w HC.out hl).mono ?_
  rintro e w2 ⟨g2, c2, lb, n, hlb, hn, rfl, o2, b2⟩
  have hn' : -1 ≤ n ∧ n ≤ 1114112 := hn
  have B2 := Lib.hid b2
  have O2 := Lib.hid o2
  have hel : (lb ++ encR n).length ≤ 1099511627776 := by
    rw [List.length_append, encR_len]
    have := wide_le n
    omega
  have cp := put_impl w2 g2 0 c2 lb n (fun j u hu => by rw [Nat.zero_add, O2.out.cellAt j (by have := (List.getElem?_eq_some_iff.1 hu).1; simpa using this)]; exact hu) (by omega)
  clear b2 o2 hn
  go_wp2_with fail
  refine cp.mono ?_
  rintro e w3 ⟨v3, rfl, hn3, o3, b3⟩
  obtain ⟨X, hX⟩ : ∃ X, X = (lb ++ encR n).length := ⟨_, rfl⟩
  rw [← hX] at o3
  have HX := Lib.hid hX
  clear hX
  obtain ⟨gx, cx, rfl, hgx, hlx, hcx⟩ := own_shape o3 hn3
  have B3 := Lib.hid (B2.out.trans (b3.mono B2.out.size))
  have P2 := Lib.hid (own_below O2.out b3)
  have O3 := Lib.hid o3
  clear cp b3 o3 hn3
  go_wp2_with fail
  refine (draw_get a len cap w3 (HC.out.below B3.out) hl).mono ?_
  rintro e w4 ⟨g4, c4, l4, i, hl4, hlc4, hcm4, hi0, hi1, rfl, r4, b4⟩
  have B4 := Lib.hid (B3.out.trans (b4.mono B3.out.size))
  have Q2 := Lib.hid (own_below P2.out b4)
  have Q3 := Lib.hid (own_below O3.out b4)
  have cg := get_impl_any w4 _ l4 i (HT.out.below B4.out) r4 (fun q n c e => by injection e with _ e1 e2; omega) (by omega)
  have cs := fun w h => get_spec_any w (.slice (some ⟨g4, 0, none⟩) l4.length c4) l4 i h (by omega)
  have R4 := Lib.hid r4
  have hcz : (l4.length : Int) ≤ c4 := by omega
  have hcz2 : (c4 : Int) ≤ 9223372036854775807 := by unfold maxLen at hcm4; omega
  have hww : ((wideR n : Int) != wideR n) = false := by simp
  have CWI := Lib.hid (wide_impl n)
  have CWS := Lib.hid (wide_spec n)
  clear b4 r4
  by_cases hk : okR n
  · have CRI := Lib.hid (runeok_impl_yes hk)
    have CRS := Lib.hid (runeok_spec_yes hk)
    have HK := Lib.hid hk
    clear hk
    rcases getV_two l4 i with hg | hg
    · skip
      rw [hg] at cg cs
      clear hg
      go_wp2_with fail
      refine cg.mono ?_
      rintro e w5 ⟨rfl, b5⟩
      have B5 := Lib.hid (B4.out.trans (b5.mono B4.out.size))
      have S2 := Lib.hid (own_below Q2.out b5)
      have S3 := Lib.hid (own_below Q3.out b5)
      have R5 := Lib.hid (R4.out.below b5)
      have cs := cs w5 R5.out
      clear cg b5
      go_wp2_with fail
      refine cs.mono ?_
      rintro e w' ⟨rfl, rfl⟩
      clear cs
      go_wp2_with fail
      refine (put_spec w5 g2 0 c2 lb n (fun j u hu => by rw [Nat.zero_add, S2.out.cellAt j (by have := (List.getElem?_eq_some_iff.1 hu).1; simpa using this)]; exact hu) (by omega)).mono ?_
      rintro e w6 ⟨v6, rfl, _, o6, b6⟩
      have B6 := Lib.hid (B5.out.trans (b6.mono B5.out.size))
      have T2 := Lib.hid (own_below S2.out b6)
      have T3 := Lib.hid (own_below S3.out b6)
      have R6 := Lib.hid (R5.out.below b6)
      have ce := same_yes w6 _ _ _ (own_reads T3.out) (own_reads o6) hel
      clear o6 b6
      go_wp2_with fail
      refine ce.mono ?_
      rintro e w7 ⟨rfl, b7⟩
      have B7 := Lib.hid (B6.out.trans (b7.mono B6.out.size))
      have U2 := Lib.hid (own_below T2.out b7)
      have U3 := Lib.hid (own_below T3.out b7)
      have R7 := Lib.hid (R6.out.below b7)
      clear ce b7
      go_wp2_with fail
      refine (CRI.out w7).mono ?_
      rintro e w' ⟨rfl, rfl⟩
      go_wp2_with fail
      refine (CRS.out w7).mono ?_
      rintro e w' ⟨rfl, rfl⟩
      go_wp2_with fail
      refine (CWI.out w7).mono ?_
      rintro e w' ⟨rfl, rfl⟩
      go_wp2_with fail
      refine (CWS.out w7).mono ?_
      rintro e w' ⟨rfl, rfl⟩
      go_wp2_with fail
      go_quiet (fail)
      generalize hq : w7.drewN _ = W8
      have hb8 : Below w7.heap.size w7 W8 := by rw [← hq]; exact below_drewN (Below.refl _ _) _
      have WB := Lib.hid (B7.out.trans (hb8.mono B7.out.size))
      have WX := Lib.hid (own_below U3.out hb8)
      have WY := Lib.hid (own_below U2.out hb8)
      clear hb8 hq
      have hgv : getV (lb ++ encR n) lb.length = .tuple #[.int .i64 n, .int .i64 (lb.length + wideR n), .bool true] := by
        obtain ⟨m, rfl⟩ : ∃ m : Nat, n = m := ⟨n.toNat, by have := okR_un HK.out; omega⟩
        exact getV_good (by rw [List.length_append, encR_len]; have := wide_pos HK.out; omega) (decode_at_end lb m HK.out) (wide_bad HK.out)
      have hxl : X = lb.length + wideR n := by rw [HX.out, List.length_append, encR_len]
      have hw4 : (wideR n : Int) ≤ 4 := by have := wide_le n; omega
      have hlb2 : (lb.length : Int) ≤ 2 := by omega
      have cgx := fun w hT h => get_impl_any w (.slice (some ⟨gx, 0, none⟩) X cx) (lb ++ encR n) lb.length hT h (fun q n c e => by injection e with _ e1 e2; omega) hel
      rw [hgv] at cgx
      have CX := Lib.hid cgx
      have heq1 : (n == n) = true := by simp
      have heq2 : (((lb.length : Int) + wideR n) == (lb.length : Int) + wideR n) = true := by simp
      clear cgx hgv
      have hxz : (X : Int) = (lb.length : Int) + wideR n := by omega
      clear hxl
      go_wp2_with fail
      refine (CRI.out _).mono ?_
      rintro e w' ⟨rfl, rfl⟩
      go_wp2_with fail
      refine (CX.out _ (HT.out.below WB.out) (own_reads WX.out)).mono ?_
      rintro e w9 ⟨rfl, b9⟩
      have B9 := Lib.hid (WB.out.trans (b9.mono WB.out.size))
      clear b9
      go_wp2_with fail
      refine (CWI.out _).mono ?_
      rintro e w' ⟨rfl, rfl⟩
      go_wp2
      go_ret
      exact ⟨rfl, B9.out⟩
    · skip
      obtain ⟨j, rfl, hj, hb, e⟩ := hg
      have hdl := dec_shape l4 j hj
      have henc : encR (dec l4 j).1 = (l4.drop j).take (dec l4 j).2 := by
        rw [dec_drop] at hb ⊢
        have hne : l4.drop j ≠ [] := by intro e; have := congrArg List.length e; simp at this; omega
        have h1 := Lib.encode_decode (l4.drop j) hne (fun g => hb (Prod.ext g.1 g.2))
        rw [← h1]
        unfold encR
        rw [if_pos (decL_ok _ hne)]
      have hrk : okR ((dec l4 j).1 : Int) := by
        rw [dec_drop]
        exact decL_ok _ (by intro e; have := congrArg List.length e; simp at this; omega)
      rw [e] at cg cs
      clear hb e
      generalize (dec l4 j).1 = r at *
      generalize (dec l4 j).2 = k at *
      have HD := Lib.hid hdl
      have HE := Lib.hid henc
      have hr1 : ((r : Int) != r) = false := by simp
      have hr2 : (((j : Int) + k) != (j : Int) + k) = false := by simp
      have HRK := Lib.hid hrk
      have hjz : (j : Int) ≤ 1 := hi1
      have hkz : (k : Int) ≤ 10 := by omega
      have hjk : (j : Int) + k ≤ l4.length := by omega
      clear henc hrk hdl
      go_wp2_with fail
      refine cg.mono ?_
      rintro e w5 ⟨rfl, b5⟩
      have B5 := Lib.hid (B4.out.trans (b5.mono B4.out.size))
      have S2 := Lib.hid (own_below Q2.out b5)
      have S3 := Lib.hid (own_below Q3.out b5)
      have R5 := Lib.hid (R4.out.below b5)
      have cs := cs w5 R5.out
      clear cg b5
      go_wp2_with fail
      refine cs.mono ?_
      rintro e w' ⟨rfl, rfl⟩
      clear cs
      go_wp2_with fail
      refine (put_spec w5 g2 0 c2 lb n (fun j u hu => by rw [Nat.zero_add, S2.out.cellAt j (by have := (List.getElem?_eq_some_iff.1 hu).1; simpa using this)]; exact hu) (by omega)).mono ?_
      rintro e w6 ⟨v6, rfl, _, o6, b6⟩
      have B6 := Lib.hid (B5.out.trans (b6.mono B5.out.size))
      have T2 := Lib.hid (own_below S2.out b6)
      have T3 := Lib.hid (own_below S3.out b6)
      have R6 := Lib.hid (R5.out.below b6)
      have ce := same_yes w6 _ _ _ (own_reads T3.out) (own_reads o6) hel
      clear o6 b6
      go_wp2_with fail
      refine ce.mono ?_
      rintro e w7 ⟨rfl, b7⟩
      have B7 := Lib.hid (B6.out.trans (b7.mono B6.out.size))
      have U2 := Lib.hid (own_below T2.out b7)
      have U3 := Lib.hid (own_below T3.out b7)
      have R7 := Lib.hid (R6.out.below b7)
      clear ce b7
      go_wp2_with fail
      refine (CRI.out w7).mono ?_
      rintro e w' ⟨rfl, rfl⟩
      go_wp2_with fail
      refine (CRS.out w7).mono ?_
      rintro e w' ⟨rfl, rfl⟩
      go_wp2_with fail
      refine (CWI.out w7).mono ?_
      rintro e w' ⟨rfl, rfl⟩
      go_wp2_with fail
      refine (CWS.out w7).mono ?_
      rintro e w' ⟨rfl, rfl⟩
      have crk := fun w => runeok_impl_yes HRK.out w
      have CRK := Lib.hid crk
      clear crk
      go_wp2_with fail
      have hjc : (j : Int) + k ≤ c4 := by omega
      have hcj : ¬ c4 = j := by omega
      have HNN := Lib.hid (And.intro hl4 (And.intro hlb (And.intro hlc4 hj)))
      have HNM := Lib.hid (And.intro hel hcm4)
      have HLX := Lib.hid (And.intro hlx hcx)
      clear hl4 hlb hlc4 hj hel hcm4 hlx hcx hgx
      have hek : (encR (r : Int)).length = k := by
        have := HD.out
        rw [HE.out, List.length_take, List.length_drop]
        omega
      have HEK := Lib.hid hek
      have SUB := Lib.hid (fun (W : World) (h : Below w7.heap.size w7 W) (off len c' : Nat) (ho : off = j) (hl : len = k) => (by rw [HE.out]; exact sub_reads (R7.out.below h) HD.out.2.2 ho hl : Reads W (.slice (some ⟨g4, off, none⟩) len c') (bv (encR (r : Int)))))
      clear hek
      clear hl
      have hs0 : (0 : Int) ≤ j := by omega
      have hs1 : (j : Int) ≤ (j : Int) + k := by omega
      have hs2 : ((j : Int) + k).toNat = j + k := by omega
      have hs3 : j + k - j = k := by omega
      have hs4 : (0 : Int) ≤ (j : Int) + k := by omega
      go_region_held3 (fun _ => True) (trivial) ((first | (go_at_call 12; refine (CRK.out _).mono ?_; rintro e w' ⟨rfl, rfl⟩) | (go_at_call 6; refine (put0 _ _ _ k HEK.out HRK.out).mono ?_; rintro e w8 ⟨g8, c8, rfl, r8, b8⟩; have bb8 : Below w7.heap.size w7 w8 := (by first | exact (((Below.refl w7.heap.size w7).alloc (Nat.le_refl _) _).drew).trans (b8.mono (by show w7.heap.size ≤ (w7.alloc _).heap.size; simp)) | exact ((Below.refl w7.heap.size w7).alloc (Nat.le_refl _) _).trans (b8.mono (by show w7.heap.size ≤ (w7.alloc _).heap.size; simp))); have BB8 := Lib.hid bb8; have RR8 := Lib.hid r8; clear r8 b8 bb8) | (go_at_call 10; refine (same_yes _ _ _ (encR (r : Int)) (by first | exact RR8.out | exact RR8.out.below (below_drewN (Below.refl _ _) _)) (SUB.out _ (by first | exact BB8.out | exact below_drewN BB8.out _) _ _ _ (by first | rfl | omega | simp) (by first | rfl | omega | simp)) (by have := HEK.out; omega)).mono ?_; rintro e w9a ⟨rfl, b9a⟩; have BB9 := Lib.hid (show Below w7.heap.size w7 w9a from by first | exact BB8.out.trans (b9a.mono BB8.out.size) | exact (below_drewN BB8.out 1).trans (b9a.mono BB8.out.size)); clear b9a)))
      all_goals
        have WB := Lib.hid (B7.out.trans (BB9.out.mono B7.out.size))
        have WX := Lib.hid (own_below U3.out BB9.out)
        have WY := Lib.hid (own_below U2.out BB9.out)
        have hlb : lb.length ≤ 2 := HNN.out.2.1
        have hel := HNM.out.1
        have hlx := HLX.out.1
        have hcx := HLX.out.2
        clear BB9 BB8 RR8 hjc hcj hs0 hs1 hs2 hs3 hs4
        have hgv : getV (lb ++ encR n) lb.length = .tuple #[.int .i64 n, .int .i64 (lb.length + wideR n), .bool true] := by
          obtain ⟨m, rfl⟩ : ∃ m : Nat, n = m := ⟨n.toNat, by have := okR_un HK.out; omega⟩
          exact getV_good (by rw [List.length_append, encR_len]; have := wide_pos HK.out; omega) (decode_at_end lb m HK.out) (wide_bad HK.out)
        have hxl : X = lb.length + wideR n := by rw [HX.out, List.length_append, encR_len]
        have hw4 : (wideR n : Int) ≤ 4 := by have := wide_le n; omega
        have hlb2 : (lb.length : Int) ≤ 2 := by omega
        have cgx := fun w hT h => get_impl_any w (.slice (some ⟨gx, 0, none⟩) X cx) (lb ++ encR n) lb.length hT h (fun q n c e => by injection e with _ e1 e2; omega) hel
        rw [hgv] at cgx
        have CX := Lib.hid cgx
        have heq1 : (n == n) = true := by simp
        have heq2 : (((lb.length : Int) + wideR n) == (lb.length : Int) + wideR n) = true := by simp
        clear cgx hgv
        have hxz : (X : Int) = (lb.length : Int) + wideR n := by omega
        clear hxl
        go_wp2_with fail
        refine (CRI.out _).mono ?_
        rintro e w' ⟨rfl, rfl⟩
        go_wp2_with fail
        refine (CX.out _ (HT.out.below WB.out) (own_reads WX.out)).mono ?_
        rintro e w9 ⟨rfl, b9⟩
        have B9 := Lib.hid (WB.out.trans (b9.mono WB.out.size))
        clear b9
        go_wp2_with fail
        refine (CWI.out _).mono ?_
        rintro e w' ⟨rfl, rfl⟩
        go_wp2
        go_ret
        exact ⟨rfl, B9.out⟩
  · have CRI := Lib.hid (runeok_impl_no hk)
    have CRS := Lib.hid (runeok_spec_no hk)
    have HK := Lib.hid hk
    clear hk
    rcases getV_two l4 i with hg | hg
    · skip
      rw [hg] at cg cs
      clear hg
      go_wp2_with fail
      refine cg.mono ?_
      rintro e w5 ⟨rfl, b5⟩
      have B5 := Lib.hid (B4.out.trans (b5.mono B4.out.size))
      have S2 := Lib.hid (own_below Q2.out b5)
      have S3 := Lib.hid (own_below Q3.out b5)
      have R5 := Lib.hid (R4.out.below b5)
      have cs := cs w5 R5.out
      clear cg b5
      go_wp2_with fail
      refine cs.mono ?_
      rintro e w' ⟨rfl, rfl⟩
      clear cs
      go_wp2_with fail
      refine (put_spec w5 g2 0 c2 lb n (fun j u hu => by rw [Nat.zero_add, S2.out.cellAt j (by have := (List.getElem?_eq_some_iff.1 hu).1; simpa using this)]; exact hu) (by omega)).mono ?_
      rintro e w6 ⟨v6, rfl, _, o6, b6⟩
      have B6 := Lib.hid (B5.out.trans (b6.mono B5.out.size))
      have T2 := Lib.hid (own_below S2.out b6)
      have T3 := Lib.hid (own_below S3.out b6)
      have R6 := Lib.hid (R5.out.below b6)
      have ce := same_yes w6 _ _ _ (own_reads T3.out) (own_reads o6) hel
      clear o6 b6
      go_wp2_with fail
      refine ce.mono ?_
      rintro e w7 ⟨rfl, b7⟩
      have B7 := Lib.hid (B6.out.trans (b7.mono B6.out.size))
      have U2 := Lib.hid (own_below T2.out b7)
      have U3 := Lib.hid (own_below T3.out b7)
      have R7 := Lib.hid (R6.out.below b7)
      clear ce b7
      go_wp2_with fail
      refine (CRI.out w7).mono ?_
      rintro e w' ⟨rfl, rfl⟩
      go_wp2_with fail
      refine (CRS.out w7).mono ?_
      rintro e w' ⟨rfl, rfl⟩
      go_wp2_with fail
      refine (CWI.out w7).mono ?_
      rintro e w' ⟨rfl, rfl⟩
      go_wp2_with fail
      refine (CWS.out w7).mono ?_
      rintro e w' ⟨rfl, rfl⟩
      go_wp2_with fail
      go_quiet (fail)
      generalize hq : w7.drewN _ = W8
      have hb8 : Below w7.heap.size w7 W8 := by rw [← hq]; exact below_drewN (Below.refl _ _) _
      have WB := Lib.hid (B7.out.trans (hb8.mono B7.out.size))
      have WX := Lib.hid (own_below U3.out hb8)
      have WY := Lib.hid (own_below U2.out hb8)
      clear hb8 hq
      have hx0 : lb ++ encR n = lb := by rw [enc_bad' HK.out, List.append_nil]
      have hw0 : wideR n = 0 := wideR_bad HK.out
      have ce := same_yes W8 _ _ lb (by have := own_reads WX.out; rw [hx0] at this; exact this) (own_reads WY.out) (by omega)
      have cw0 : ∀ w, Calls Tryd.prog 14 #[.int .i64 n] w fun e w' => e = .returned (.int .i64 0) ∧ w = w' := fun w => by have := CWI.out w; rw [hw0] at this; exact this
      have CW0 := Lib.hid cw0
      clear hx0 hw0 cw0
      go_wp2_with fail
      refine (CRI.out _).mono ?_
      rintro e w' ⟨rfl, rfl⟩
      go_wp2_with fail
      refine ce.mono ?_
      rintro e w9 ⟨rfl, b9⟩
      have B9 := Lib.hid (WB.out.trans (b9.mono WB.out.size))
      clear b9 ce
      go_wp2_with fail
      refine (CW0.out _).mono ?_
      rintro e w' ⟨rfl, rfl⟩
      go_wp2
      go_ret
      exact ⟨rfl, B9.out⟩
    · skip
      obtain ⟨j, rfl, hj, hb, e⟩ := hg
      have hdl := dec_shape l4 j hj
      have henc : encR (dec l4 j).1 = (l4.drop j).take (dec l4 j).2 := by
        rw [dec_drop] at hb ⊢
        have hne : l4.drop j ≠ [] := by intro e; have := congrArg List.length e; simp at this; omega
        have h1 := Lib.encode_decode (l4.drop j) hne (fun g => hb (Prod.ext g.1 g.2))
        rw [← h1]
        unfold encR
        rw [if_pos (decL_ok _ hne)]
      have hrk : okR ((dec l4 j).1 : Int) := by
        rw [dec_drop]
        exact decL_ok _ (by intro e; have := congrArg List.length e; simp at this; omega)
      rw [e] at cg cs
      clear hb e
      generalize (dec l4 j).1 = r at *
      generalize (dec l4 j).2 = k at *
      have HD := Lib.hid hdl
      have HE := Lib.hid henc
      have hr1 : ((r : Int) != r) = false := by simp
      have hr2 : (((j : Int) + k) != (j : Int) + k) = false := by simp
      have HRK := Lib.hid hrk
      have hjz : (j : Int) ≤ 1 := hi1
      have hkz : (k : Int) ≤ 10 := by omega
      have hjk : (j : Int) + k ≤ l4.length := by omega
      clear henc hrk hdl
      go_wp2_with fail
      refine cg.mono ?_
      rintro e w5 ⟨rfl, b5⟩
      have B5 := Lib.hid (B4.out.trans (b5.mono B4.out.size))
      have S2 := Lib.hid (own_below Q2.out b5)
      have S3 := Lib.hid (own_below Q3.out b5)
      have R5 := Lib.hid (R4.out.below b5)
      have cs := cs w5 R5.out
      clear cg b5
      go_wp2_with fail
      refine cs.mono ?_
      rintro e w' ⟨rfl, rfl⟩
      clear cs
      go_wp2_with fail
      refine (put_spec w5 g2 0 c2 lb n (fun j u hu => by rw [Nat.zero_add, S2.out.cellAt j (by have := (List.getElem?_eq_some_iff.1 hu).1; simpa using this)]; exact hu) (by omega)).mono ?_
      rintro e w6 ⟨v6, rfl, _, o6, b6⟩
      have B6 := Lib.hid (B5.out.trans (b6.mono B5.out.size))
      have T2 := Lib.hid (own_below S2.out b6)
      have T3 := Lib.hid (own_below S3.out b6)
      have R6 := Lib.hid (R5.out.below b6)
      have ce := same_yes w6 _ _ _ (own_reads T3.out) (own_reads o6) hel
      clear o6 b6
      go_wp2_with fail
      refine ce.mono ?_
      rintro e w7 ⟨rfl, b7⟩
      have B7 := Lib.hid (B6.out.trans (b7.mono B6.out.size))
      have U2 := Lib.hid (own_below T2.out b7)
      have U3 := Lib.hid (own_below T3.out b7)
      have R7 := Lib.hid (R6.out.below b7)
      clear ce b7
      go_wp2_with fail
      refine (CRI.out w7).mono ?_
      rintro e w' ⟨rfl, rfl⟩
      go_wp2_with fail
      refine (CRS.out w7).mono ?_
      rintro e w' ⟨rfl, rfl⟩
      go_wp2_with fail
      refine (CWI.out w7).mono ?_
      rintro e w' ⟨rfl, rfl⟩
      go_wp2_with fail
      refine (CWS.out w7).mono ?_
      rintro e w' ⟨rfl, rfl⟩
      have crk := fun w => runeok_impl_yes HRK.out w
      have CRK := Lib.hid crk
      clear crk
      go_wp2_with fail
      have hjc : (j : Int) + k ≤ c4 := by omega
      have hcj : ¬ c4 = j := by omega
      have HNN := Lib.hid (And.intro hl4 (And.intro hlb (And.intro hlc4 hj)))
      have HNM := Lib.hid (And.intro hel hcm4)
      have HLX := Lib.hid (And.intro hlx hcx)
      clear hl4 hlb hlc4 hj hel hcm4 hlx hcx hgx
      have hek : (encR (r : Int)).length = k := by
        have := HD.out
        rw [HE.out, List.length_take, List.length_drop]
        omega
      have HEK := Lib.hid hek
      have SUB := Lib.hid (fun (W : World) (h : Below w7.heap.size w7 W) (off len c' : Nat) (ho : off = j) (hl : len = k) => (by rw [HE.out]; exact sub_reads (R7.out.below h) HD.out.2.2 ho hl : Reads W (.slice (some ⟨g4, off, none⟩) len c') (bv (encR (r : Int)))))
      clear hek
      clear hl
      have hs0 : (0 : Int) ≤ j := by omega
      have hs1 : (j : Int) ≤ (j : Int) + k := by omega
      have hs2 : ((j : Int) + k).toNat = j + k := by omega
      have hs3 : j + k - j = k := by omega
      have hs4 : (0 : Int) ≤ (j : Int) + k := by omega
      go_region_held3 (fun _ => True) (trivial) ((first | (go_at_call 12; refine (CRK.out _).mono ?_; rintro e w' ⟨rfl, rfl⟩) | (go_at_call 6; refine (put0 _ _ _ k HEK.out HRK.out).mono ?_; rintro e w8 ⟨g8, c8, rfl, r8, b8⟩; have bb8 : Below w7.heap.size w7 w8 := (by first | exact (((Below.refl w7.heap.size w7).alloc (Nat.le_refl _) _).drew).trans (b8.mono (by show w7.heap.size ≤ (w7.alloc _).heap.size; simp)) | exact ((Below.refl w7.heap.size w7).alloc (Nat.le_refl _) _).trans (b8.mono (by show w7.heap.size ≤ (w7.alloc _).heap.size; simp))); have BB8 := Lib.hid bb8; have RR8 := Lib.hid r8; clear r8 b8 bb8) | (go_at_call 10; refine (same_yes _ _ _ (encR (r : Int)) (by first | exact RR8.out | exact RR8.out.below (below_drewN (Below.refl _ _) _)) (SUB.out _ (by first | exact BB8.out | exact below_drewN BB8.out _) _ _ _ (by first | rfl | omega | simp) (by first | rfl | omega | simp)) (by have := HEK.out; omega)).mono ?_; rintro e w9a ⟨rfl, b9a⟩; have BB9 := Lib.hid (show Below w7.heap.size w7 w9a from by first | exact BB8.out.trans (b9a.mono BB8.out.size) | exact (below_drewN BB8.out 1).trans (b9a.mono BB8.out.size)); clear b9a)))
      all_goals
        have WB := Lib.hid (B7.out.trans (BB9.out.mono B7.out.size))
        have WX := Lib.hid (own_below U3.out BB9.out)
        have WY := Lib.hid (own_below U2.out BB9.out)
        have hlb : lb.length ≤ 2 := HNN.out.2.1
        have hel := HNM.out.1
        have hlx := HLX.out.1
        have hcx := HLX.out.2
        clear BB9 BB8 RR8 hjc hcj hs0 hs1 hs2 hs3 hs4
        have hx0 : lb ++ encR n = lb := by rw [enc_bad' HK.out, List.append_nil]
        have hw0 : wideR n = 0 := wideR_bad HK.out
        have ce := same_yes w9a _ _ lb (by have := own_reads WX.out; rw [hx0] at this; exact this) (own_reads WY.out) (by omega)
        have cw0 : ∀ w, Calls Tryd.prog 14 #[.int .i64 n] w fun e w' => e = .returned (.int .i64 0) ∧ w = w' := fun w => by have := CWI.out w; rw [hw0] at this; exact this
        have CW0 := Lib.hid cw0
        clear hx0 hw0 cw0
        go_wp2_with fail
        refine (CRI.out _).mono ?_
        rintro e w' ⟨rfl, rfl⟩
        go_wp2_with fail
        refine ce.mono ?_
        rintro e w9 ⟨rfl, b9⟩
        have B9 := Lib.hid (WB.out.trans (b9.mono WB.out.size))
        clear b9 ce
        go_wp2_with fail
        refine (CW0.out _).mono ?_
        rintro e w' ⟨rfl, rfl⟩
        go_wp2
        go_ret
        exact ⟨rfl, B9.out⟩

theorem contract (H : Type) (enc : TypeId × Value → H) (W : World) (base : Nat) (args : Array Value) (ds gs : List (DataW H)) (before : List MemPlace)
    (hval : ∀ (j : Nat) t v, Tryd.f3.params[j]? = some t → args[j]? = some v → Value.okWide Tryd.prog W .any base t v)
    (hW : DataW.Whole enc Tryd.prog Tryd.f3.params.toList Rows.fnRunesSpec.vars false W args.toList ds gs before)
    (hcond : ∀ k, (OpenSpec.ofChange Rows.fnRunesSpec).cond = some k → k H (ds ++ gs) = true)
    (hsz : (DataW.weightsEach Tryd.prog (Tryd.f3.params.toList ++ (OpenSpec.ofChange Rows.fnRunesSpec).bare.plain.varTypes Tryd.prog) (ds ++ gs)).all (· ≤ reachBytes) = true)
    (hL : laidMetH Tryd.prog Rows.fnRunesRow.laid W) :
    Calls Tryd.prog 3 args W fun e W' => ∃ v, e = .returned v ∧ Rows.fnRunesSpec.post enc Tryd.prog Tryd.f3 false true false false W args v W' := by
  have hW' := hW
  have hlt := hW'.lt
  obtain ⟨p, q, hA0, hV, rfl, hfz, hnd⟩ := hW
  have hA : DataW.TrodAll enc Tryd.prog W 0 (fun _ => true) true Tryd.f3.params.toList args.toList ds p := hA0
  rw [Tryd.params3] at hA hval hsz
  obtain ⟨v0, vs0, d0, ds0, p0, q0, hargs, rfl, rfl, h0, r0⟩ := trodAll_cons hA
  obtain ⟨rfl, rfl, rfl⟩ := trodAll_nil r0
  obtain rfl : args = #[v0] := by cases args; simp_all
  obtain ⟨rfl, rfl⟩ := trodVars_none hV
  simp only [List.append_nil] at hW' hlt
  have hlt0 : ∀ x ∈ p0, x.block < W.heap.size := fun x hx => hlt x (by simp [hx])
  have hk0 := h0
  clear hA0 hA
  have fin : ∀ W' : World, Below W.heap.size W W' → Rows.fnRunesSpec.post enc Tryd.prog Tryd.f3 false true false false W _ (.bool true) W' := fun W' hb =>
    ⟨_, _, _, [], _, [], hW', trodAll_mk1 (shut_bool Tryd.underlying4 _), (trodAll_cons_mk (Below.trod laidOut (by kernel_rfl) (of_decide_eq_true (by kernel_rfl)) hk0 hb hlt0) trodAll_mk0), rfl, hb.frame _, fun h => by cases h⟩
  refine Calls.mono (R := fun e w' => e = .returned (.bool true) ∧ Below W.heap.size W w') ?_ (fun e W' h => ⟨_, h.1, fin W' h.2⟩)
  clear fin
  rw [MakeChecks.laidMetH_plain _ _ _ (by kernel_rfl)] at hL
  have hT := tabs_utf8 hL
  obtain ⟨a, len, cap, rfl, hC, hm⟩ := open_code (hval 0 _ v0 rfl rfl) h0 hlt0
  by_cases hl : 1048576 < len
  · exact walk_long a len cap W hl hm
  · exact walk a len cap W hT hC (by omega)

theorem laid_met (os : Os) : laidMet Tryd.prog Rows.fnRunesRow.laid (((World.laidAll Tryd.prog os Rows.fnRunesRow.laid)).forCall (fun _ _ => 0) ⟨#[], #[.slice none 0 0], []⟩).memory :=
  laidMet_laidAll _ (by kernel_rfl) (by kernel_rfl)
theorem reads (os : Os) {H : Type} (enc : TypeId × Value → H) : ∃ places, DataW.whole enc Tryd.prog (((World.laidAll Tryd.prog os Rows.fnRunesRow.laid)).forCall (fun _ _ => 0) ⟨#[], #[.slice none 0 0], []⟩).memory Tryd.f3.params.toList Rows.fnRunesSpec.vars false (#[.slice none 0 0] : Array Value).toList 8 = some ([.nil], [], places) :=
  ⟨[], by kernel_rfl⟩

set_option maxRecDepth 100000 in
theorem lifted (os : Os) (started : os.Started) (H : Type) (enc : TypeId × Value → H) (F : Stop.Interp) :
    ReturnsInHanded {} Tryd.checked os 3 .any ((OpenSpec.ofChange Rows.fnRunesSpec).preRow enc Tryd.prog Tryd.f3 Rows.fnRunesRow.domain false Rows.fnRunesRow.laid) (((OpenSpec.ofChange Rows.fnRunesSpec).at F).post enc Tryd.prog Tryd.f3 false true false false) := by
  obtain ⟨places, hx⟩ := reads os enc
  refine returnsInHanded_of_row (C := Tryd.checked) (s := OpenSpec.ofChange Rows.fnRunesSpec) own started (by kernel_rfl) Tryd.func3
    (witness_row_atRef (enc := enc) (C := Tryd.checked) false (World.laidAll Tryd.prog os Rows.fnRunesRow.laid) #[.slice none 0 0] (World.laidAll_os _ _ _) (by kernel_rfl) (by kernel_rfl) (by kernel_rfl)
      (OpenSpec.preRow_of_cond 8 hx (by kernel_rfl) (fun k hk => by cases hk) (by kernel_rfl) (laid_met os))) ?_
  intro W base args ds gs before hval hW _ hcond hsz hL _ _
  exact contract H enc W base args ds gs before hval hW hcond hsz hL

theorem said : Rows.FnRunesSaid :=
  OpenClaim.holds_of_cond 3 Tryd.f3 rfl rfl rfl rfl rfl rfl rfl ⟨rfl, rfl, rfl, rfl, rfl⟩ rfl rfl rfl rfl rfl (by kernel_rfl) Tryd.func3 (by kernel_rfl)
    (of_decide_eq_true (by kernel_rfl)) (by unfold Func.isWrapper; first | (rw [if_pos (by decide +kernel)]; kernel_rfl) | (rw [if_neg (by decide +kernel)]; exact ⟨rfl, rfl⟩))
    (fun os started H enc _ F => by rw [OpenClaim.pre_eq_preRow]; exact lifted os started H enc F)

theorem plain (f : FuncId) (fn : Func) (hf : Tryd.pinned.checked.prog.funcNamed Rows.fnRunesRow.func = some f) (hfn : Tryd.pinned.checked.prog.funcs[f]? = some fn) :
    false = Tryd.pinned.checked.prog.looks [] ∧ ∀ (j : Nat) t, fn.params[j]? = some t → Tryd.pinned.checked.prog.wantsStandIn t = false := by
  obtain rfl : f = 3 := Option.some.inj ((show Tryd.prog.funcNamed Rows.fnRunesRow.func = some 3 by kernel_rfl).symm.trans hf) |>.symm
  obtain rfl : fn = Tryd.f3 := (Option.some.inj (Tryd.func3.symm.trans hfn)).symm
  refine ⟨by kernel_rfl, fun j t ht => ?_⟩
  rw [Tryd.params3] at ht
  have hm : t ∈ [22] := by simpa using Array.mem_of_getElem? ht
  have hall : ([22].all fun u => !Tryd.prog.wantsStandIn u) = true := by kernel_rfl
  exact (show Tryd.prog.wantsStandIn t = false by simpa using List.all_eq_true.1 hall t hm)

theorem proved : Rows.FnRunesCardSaid :=
  Claim7.holds_tied_plain_at .later [] _ _ _ _ said (fun _ h => by cases h) (by kernel_rfl) (fun _ h => by cases h) fnRunes_row_tie rfl ⟨rfl, rfl⟩ (by kernel_rfl) rfl plain (by kernel_rfl)
#print axioms proved
end Go.Proofs.YtnbknhbboofiiaaDoor.fnRunes
