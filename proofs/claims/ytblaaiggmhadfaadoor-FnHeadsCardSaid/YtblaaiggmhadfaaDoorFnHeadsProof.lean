/- For every input the law FnHeads returns true and its arguments read afterwards as they read before; beside what the row states there is no condition. -/
import Derived.Test.YtblaaiggmhadfaaDoorCards
import Derived.Test.YtblaaiggmhadfaaDoorTie
import Derived.WalkKit
import Derived.ProofKit
import Derived.OpenShut
import Derived.SizedLaws
import Derived.Carry
import Derived.Deep.DeepHandedRow
import Derived.Deep.DeepWitnessRowRef
import Derived.LaidMore
import Derived.Lib.LaidTab
import Derived.Stop.LaidErr
import Derived.Test.YtblaaiggmhadfaaDoorDrawHead
import Derived.Test.YtblaaiggmhadfaaDoorGetHead
import Derived.Test.YtblaaiggmhadfaaDoorHeadEq
import Derived.Test.YtblaaiggmhadfaaDoorSame
import Derived.Deep.RegionHeld3
import Derived.Deep.CutRange

namespace Go.Proofs.YtblaaiggmhadfaaDoor.fnHeads
open Go.ChangeShapes Go.WideShapes Go.ChangeAt Go.RowKit
open Go.ChangeMaps (open_string shut_string)
set_option linter.unusedVariables false

theorem own : ownKnob Tryd.prog.godebug = none := by kernel_rfl
theorem laidOut : laidOutB Tryd.prog = true := by kernel_rfl

theorem walk_long (a : Option Addr) (len cap : Nat) (w : World) (h : 1048576 < len) (hm : len ≤ maxLen) : Calls Tryd.prog 3 #[.slice a len cap] w fun e w' => e = .returned (.bool true) ∧ Below w.heap.size w w' := by
  have hb := big_yes a len cap w h hm
  go_enter Tryd.func3, Tryd.ntmps3
  go_wp2_with (go_at_call 5; refine hb.mono ?_; rintro e w' ⟨rfl, rfl⟩)
  go_ret
  exact ⟨rfl, Below.refl _ _⟩
theorem b_next {a w w' : World} (h : Below a.heap.size a w) (k : Below w.heap.size w w') : Below a.heap.size a w' := h.trans (k.mono h.size)
theorem b_box {a w : World} (h : Below a.heap.size a w) (o : Obj) : Below a.heap.size a (w.alloc o) := h.trans ((below_box w o).mono h.size)
theorem slice_bytes {w : World} {g c : Nat} {l : List UInt8} (h : ∃ B, w.ownsRow B 5 1 (.slice (some ⟨g, 0, none⟩) l.length c) l.length (bv l)) : Reads w (.slice (some ⟨g, 0, none⟩) l.length c) (bv l) := by
  obtain ⟨B, h⟩ := h; exact own_reads h
set_option maxRecDepth 100000 in
set_option maxHeartbeats 8000000 in
theorem walk (a : Option Addr) (len cap : Nat) (w : World) (hC : CodeAt w a len) (hl : len ≤ 1048576) (hT : Tz w) : Calls Tryd.prog 3 #[.slice a len cap] w fun e w' => e = .returned (.bool true) ∧ Below w.heap.size w w' := by
  have hb := big_no a len cap w hl
  have HC := Lib.hid hC
  have HT := Lib.hid hT
  clear hC hT
  go_enter Tryd.func3, Tryd.ntmps3
  go_wp2_with fail
  refine hb.mono ?_
  rintro e w' ⟨rfl, rfl⟩
  clear hb
  go_wp2_with fail
  refine (drawputhead_any a len cap w HC.out hl).mono ?_
  rintro e w1 ⟨g1, c1, l, ⟨k, n, x⟩, hl2, hlc1, hcm1, hn0, rfl, o1, b1⟩
  have hn : isInt n := hn0
  have B1 := Lib.hid (b_box b1 (.cells #[.int .i64 k, .int .i64 n, .int .i64 x] 25))
  have H1 := Lib.hid (hb_new w1 ⟨k, n, x⟩ 25)
  have O1 := Lib.hid (own_below o1 (below_box w1 (.cells #[.int .i64 k, .int .i64 n, .int .i64 x] 25)))
  clear b1 o1 hn0
  have cp := fun W hs ht => puthead_impl W (.slice (some ⟨g1, 0, none⟩) l.length c1) l ⟨k, n, x⟩ hs (by omega) hn.1 ht
  go_wp2_with fail
  refine (cp _ (own_sl O1.out (by intro e; cases e)) (HT.out.below B1.out)).mono ?_
  rintro e w2 ⟨v2, rfl, hn2, o2, b2⟩
  obtain ⟨XL, hXL⟩ : ∃ XL, XL = (l ++ hdB ⟨k, n, x⟩).length := ⟨_, rfl⟩
  rw [← hXL] at o2
  have HXL := Lib.hid hXL
  clear hXL
  obtain ⟨gx, cx, rfl, _, hlx, hcx⟩ := own_shape o2 hn2
  have B2 := Lib.hid (b_next B1.out b2)
  have H2 := Lib.hid (H1.out.below b2)
  have O2 := Lib.hid (own_below O1.out b2)
  have X2 := Lib.hid o2
  have HN2 := Lib.hid hn2
  have CP := Lib.hid cp
  clear b2 o2 cp hn2
  go_wp2_with fail
  refine (drawheadfor_any a len cap w2 (HC.out.below B2.out) hl).mono ?_
  rintro e w3 ⟨m, q, hq, rfl, b3⟩
  have B3 := Lib.hid (b_next B2.out b3)
  have H3 := Lib.hid (H2.out.below b3)
  have O3 := Lib.hid (own_below O2.out b3)
  have X3 := Lib.hid (own_below X2.out b3)
  have cfi := fun W => headfor_impl m q W hq.1
  have cfs := fun W => headfor_spec m q W
  generalize hdFor m q = F at *
  obtain ⟨fk, fn, fx⟩ := F
  have CFS := Lib.hid cfs
  clear b3 hq cfs
  go_wp2_with fail
  refine (cfi _).mono ?_
  rintro e w4 ⟨rfl, b4⟩
  have B4 := Lib.hid (b_box (b_next B3.out b4) (.cells #[.int .i64 fk, .int .i64 fn, .int .i64 fx] 25))
  have b4' := b_box b4 (.cells #[.int .i64 fk, .int .i64 fn, .int .i64 fx] 25)
  have H4 := Lib.hid (H3.out.below b4')
  have O4 := Lib.hid (own_below O3.out b4')
  have X4 := Lib.hid (own_below X3.out b4')
  have F4 := Lib.hid (hb_new w4 ⟨fk, fn, fx⟩ 25)
  clear b4 b4' cfi
  go_wp2_with fail
  refine (drawgethead_any a len cap _ (HC.out.below B4.out) hl).mono ?_
  rintro e w5 ⟨g5, c5, l5, i, hl5, hlc5, hcm5, hi0, hi1, rfl, o5, b5⟩
  have B5 := Lib.hid (b_next B4.out b5)
  have H5 := Lib.hid (H4.out.below b5)
  have O5 := Lib.hid (own_below O4.out b5)
  have X5 := Lib.hid (own_below X4.out b5)
  have F5 := Lib.hid (F4.out.below b5)
  have C5 := Lib.hid o5
  have CGI := gethead_impl w5 g5 0 c5 l5 i (fun j u hu => own_cells o5 j u hu) (o5.lt g5 rfl).2 hlc5 hcm5 (by omega) (by omega)
  have CGS := fun (W : World) (hb : Below w5.heap.size w5 W) => gethead_spec W g5 0 c5 l5 i (fun j u hu => own_cells (own_below o5 hb) j u hu) ((own_below o5 hb).lt g5 rfl).2 (by omega)
  have HGC := Lib.hid (getHI_cases l5 i)
  obtain ⟨R, hR⟩ : ∃ R, R = getHI l5 i := ⟨_, rfl⟩
  rw [← hR] at CGI CGS HGC
  have HR := Lib.hid hR
  clear b5 o5 hR
  obtain ⟨⟨rk, rn, rx⟩, nx, cd⟩ := R
  simp only [HdR.val, Hd.val] at CGI CGS
  have CGS2 := Lib.hid CGS
  clear CGS
  go_wp2_with fail
  refine CGI.mono ?_
  rintro e w6 ⟨rfl, b6⟩
  have b6' := b_box b6 (.cells #[.int .i64 rk, .int .i64 rn, .int .i64 rx] 25)
  have B6 := Lib.hid (b_next B5.out b6')
  have H6 := Lib.hid (H5.out.below b6')
  have O6 := Lib.hid (own_below O5.out b6')
  have X6 := Lib.hid (own_below X5.out b6')
  have F6 := Lib.hid (F5.out.below b6')
  have C6 := Lib.hid (own_below C5.out b6')
  have G6 := Lib.hid (hb_new w6 ⟨rk, rn, rx⟩ 25)
  have Z6 := Lib.hid b6'
  clear b6 b6' CGI
  go_wp2_with fail
  refine (CGS2.out _ Z6.out).mono ?_
  rintro e w7 ⟨rfl, b7⟩
  have b7' := b_box b7 (.cells #[.int .i64 rk, .int .i64 rn, .int .i64 rx] 25)
  have B7 := Lib.hid (b_next B6.out b7')
  have H7 := Lib.hid (H6.out.below b7')
  have O7 := Lib.hid (own_below O6.out b7')
  have X7 := Lib.hid (own_below X6.out b7')
  have F7 := Lib.hid (F6.out.below b7')
  have C7 := Lib.hid (own_below C6.out b7')
  have G7 := Lib.hid (G6.out.below b7')
  have K7 := Lib.hid (hb_new w7 ⟨rk, rn, rx⟩ 25)
  clear b7 b7'
  (go_upto_region 10 with fail)
  generalize (w7.alloc (.cells #[.int .i64 rk, .int .i64 rn, .int .i64 rx] 25)) = W8 at *
  have HSL := Lib.hid (fun (W : World) (hb : Below W8.heap.size W8 W) => own_sl (own_below O7.out hb) (by intro e; cases e))
  have HXR := Lib.hid (fun (W : World) (hb : Below W8.heap.size W8 W) => own_reads (own_below X7.out hb))
  have hel : (l ++ hdB ⟨k, n, x⟩).length ≤ 1099511627776 := by rw [List.length_append]; have := hdB_le ⟨k, n, x⟩; omega
  have COI := Lib.hid (fun W => headok_impl ⟨k, n, x⟩ W hn.1)
  have COS := Lib.hid (fun W => headok_spec ⟨k, n, x⟩ W)
  have HBB := Lib.hid (fun (h : decide (hdOk ⟨k, n, x⟩) = true) => of_decide_eq_true h)
  have HBN := Lib.hid (fun (h : decide (hdOk ⟨k, n, x⟩) = false) => of_decide_eq_false h)
  generalize decide (hdOk ⟨k, n, x⟩) = BB at *
  have hbb : (BB != BB) = false := by simp
  have hgn := fun x y xs ys w => run_eqGuard_agg (P := Tryd.prog) w .neq 25 x y xs ys (by kernel_rfl)
  have hge := fun x y xs ys w => run_eqGuard_agg (P := Tryd.prog) w .eql 25 x y xs ys (by kernel_rfl)
  have hq1 := fun w => hd_neq fk fn fx fk fn fx w
  have hq2 := fun w => hd_neq rk rn rx rk rn rx w
  have hq3 := fun w => hd_eql k n x k n x w
  rw [show (fk == fk && (fn == fn && fx == fx)) = true by simp] at hq1
  rw [show (rk == rk && (rn == rn && rx == rx)) = true by simp] at hq2
  rw [show (k == k && (n == n && x == x)) = true by simp] at hq3
  have hnx : ((nx : Int) != nx) = false := by simp
  have hcd : ((cd : Int) != cd) = false := by simp
  have HS := Lib.hid (fun (W : World) (hb : Below W8.heap.size W8 W) => (⟨hb, (H7.out.below hb).c0, (H7.out.below hb).c1, (H7.out.below hb).c2, (F7.out.below hb).c0, (F7.out.below hb).c1, (F7.out.below hb).c2, (G7.out.below hb).c0, (G7.out.below hb).c1, (G7.out.below hb).c2, (K7.out.below hb).c0, (K7.out.below hb).c1, (K7.out.below hb).c2⟩ : Below W8.heap.size W8 W ∧ W.cell? ⟨w1.heap.size, 0, none⟩ = some (.int .i64 k) ∧ W.cell? ⟨w1.heap.size, 1, none⟩ = some (.int .i64 n) ∧ W.cell? ⟨w1.heap.size, 2, none⟩ = some (.int .i64 x) ∧ W.cell? ⟨w4.heap.size, 0, none⟩ = some (.int .i64 fk) ∧ W.cell? ⟨w4.heap.size, 1, none⟩ = some (.int .i64 fn) ∧ W.cell? ⟨w4.heap.size, 2, none⟩ = some (.int .i64 fx) ∧ W.cell? ⟨w6.heap.size, 0, none⟩ = some (.int .i64 rk) ∧ W.cell? ⟨w6.heap.size, 1, none⟩ = some (.int .i64 rn) ∧ W.cell? ⟨w6.heap.size, 2, none⟩ = some (.int .i64 rx) ∧ W.cell? ⟨w7.heap.size, 0, none⟩ = some (.int .i64 rk) ∧ W.cell? ⟨w7.heap.size, 1, none⟩ = some (.int .i64 rn) ∧ W.cell? ⟨w7.heap.size, 2, none⟩ = some (.int .i64 rx)))
  go_cut [91] from 57 (fun v91 W => v91 = .bool false ∧ Below W8.heap.size W8 W)
  case first =>
    go_region_held3 (fun W => Below W8.heap.size W8 W ∧ W.cell? ⟨w1.heap.size, 0, none⟩ = some (.int .i64 k) ∧ W.cell? ⟨w1.heap.size, 1, none⟩ = some (.int .i64 n) ∧ W.cell? ⟨w1.heap.size, 2, none⟩ = some (.int .i64 x) ∧ W.cell? ⟨w4.heap.size, 0, none⟩ = some (.int .i64 fk) ∧ W.cell? ⟨w4.heap.size, 1, none⟩ = some (.int .i64 fn) ∧ W.cell? ⟨w4.heap.size, 2, none⟩ = some (.int .i64 fx) ∧ W.cell? ⟨w6.heap.size, 0, none⟩ = some (.int .i64 rk) ∧ W.cell? ⟨w6.heap.size, 1, none⟩ = some (.int .i64 rn) ∧ W.cell? ⟨w6.heap.size, 2, none⟩ = some (.int .i64 rx) ∧ W.cell? ⟨w7.heap.size, 0, none⟩ = some (.int .i64 rk) ∧ W.cell? ⟨w7.heap.size, 1, none⟩ = some (.int .i64 rn) ∧ W.cell? ⟨w7.heap.size, 2, none⟩ = some (.int .i64 rx)) ((refine HS.out _ ?_; first | with_reducible assumption | with_reducible exact (Below.refl _ _).drew)) ((first | (go_at_call 14; go_split_ands; refine (puthead_spec _ _ l ⟨k, n, x⟩ (HSL.out _ (by with_reducible assumption : Below W8.heap.size W8 _)) (by omega)).mono ?_; rintro e wa ⟨va, rfl, na, oa, ba⟩; have bba := b_next (by with_reducible assumption : Below W8.heap.size W8 _) ba; have ra := own_reads oa) | (go_at_call 13; go_split_ands; refine (same_yes _ _ _ (l ++ hdB ⟨k, n, x⟩) (HXR.out _ (by with_reducible assumption : Below W8.heap.size W8 _)) (by with_reducible assumption) hel).mono ?_; rintro e wb ⟨rfl, bb⟩; have bbb := b_next (by with_reducible assumption : Below W8.heap.size W8 _) bb) | (go_at_call 15; go_split_ands; refine (CFS.out _).mono ?_; rintro e wd ⟨rfl, bd⟩; have bbd := b_next (by with_reducible assumption : Below W8.heap.size W8 _) bd) | (go_at_call 16; go_split_ands; refine (COI.out _).mono ?_; rintro e wf ⟨rfl, bf⟩; have bbf := b_next (by with_reducible assumption : Below W8.heap.size W8 _) bf) | (go_at_call 17; go_split_ands; refine (COS.out _).mono ?_; rintro e wg ⟨rfl, bg⟩; have bbg := b_next (by with_reducible assumption : Below W8.heap.size W8 _) bg)))
    all_goals
      have bcz := Lib.hid (show Below W8.heap.size W8 _ from bbg)
      go_wp2_with fail
      go_meet
      exact ⟨rfl, bcz.out⟩
  case rest =>
    obtain ⟨rfl, bc⟩ := hcut
    have BC := Lib.hid (B7.out.trans (bc.mono B7.out.size))
    have HC8 := Lib.hid (H7.out.below bc)
    have OC := Lib.hid (own_below O7.out bc)
    have XC := Lib.hid (own_below X7.out bc)
    have CC := Lib.hid (own_below C7.out bc)
    have GC := Lib.hid (G7.out.below bc)
    clear bc HS H7 O7 X7 C7 G7 K7 F7 HSL HXR COS CFS hq1 hbb hcd hnx hq2
    (go_upto_region 12 with fail)
    go_cut [109] from 92 (fun v109 W => v109 = .bool false ∧ Below wc.heap.size wc W)
    case first =>
      rcases HGC.out with ⟨c, hbad, hc0⟩ | ⟨hc0, j, hij, hjl, hgj, hok, hnxt, hnle⟩
      · have hcd0 : cd = c := by injection hbad
        subst hcd0
        have hcb : ((cd : Int) == 0) = false := by rw [beq_eq_false_iff_ne]; omega
        clear hbad hc0
        go_quiet (fail)
        go_wp2_with fail
        go_meet
        exact ⟨rfl, below_drewN (Below.refl _ _) _⟩
      · have hcz : cd = 0 := hc0
        subst hcz
        subst hij
        obtain ⟨_, hlt, _, hby⟩ := get_ok (l := l5) (i := j) (by rw [← hgj])
        rw [← hgj] at hlt hby hok hnxt hnle
        simp only at hlt hby hok hnxt hnle
        have HOK := Lib.hid hok
        have hjn : (j : Int) < nx := by omega
        have HBY := Lib.hid hby
        have hkl : (hdB ⟨rk, rn, rx⟩).length = nx - j := by rw [hby, List.length_take, List.length_drop]; omega
        have HKL := Lib.hid hkl
        have COR := Lib.hid (fun W => by have q := headok_impl ⟨rk, rn, rx⟩ W (by have := hok.2.1.1; simp only at this ⊢; omega); rw [decide_eq_true hok] at q; exact q)
        have PZ := Lib.hid (fun (W : World) (g : Nat) (ht : Tz W) => puthead_impl W (.slice (some ⟨g, 0, none⟩) 0 0) [] ⟨rk, rn, rx⟩ ⟨g, 0, 0, rfl, by intro j u hu; simp [bv] at hu⟩ (by simp) (by have := hok.2.1.1; simp only at this ⊢; omega) ht)
        have HTC := Lib.hid (fun (W : World) (hb : Below wc.heap.size wc W) => HT.out.below (BC.out.trans (hb.mono BC.out.size)))
        have SUB := Lib.hid (fun (W : World) (h : Below wc.heap.size wc W) (off ln c' : Nat) (ho : off = j) (hl : ln = nx - j) => (by rw [HBY.out]; exact sub_reads (own_reads (own_below CC.out h)) (by omega) ho hl : Reads W (.slice (some ⟨g5, off, none⟩) ln c') (bv (hdB ⟨rk, rn, rx⟩))))
        have hjc : (nx : Int) ≤ c5 := by omega
        have hcj : ¬ c5 = j := by omega
        have hs0 : (0 : Int) ≤ j := by omega
        have hs1 : (j : Int) ≤ nx := by omega
        have HS := Lib.hid (fun (W : World) (hb : Below wc.heap.size wc W) => (⟨hb, (GC.out.below hb).c0, (GC.out.below hb).c1, (GC.out.below hb).c2⟩ : Below wc.heap.size wc W ∧ W.cell? ⟨w6.heap.size, 0, none⟩ = some (.int .i64 rk) ∧ W.cell? ⟨w6.heap.size, 1, none⟩ = some (.int .i64 rn) ∧ W.cell? ⟨w6.heap.size, 2, none⟩ = some (.int .i64 rx)))
        clear hok hnxt hnle hjl hgj hlt hby hkl hi0 hi1
        go_region_held3 (fun W => Below wc.heap.size wc W ∧ W.cell? ⟨w6.heap.size, 0, none⟩ = some (.int .i64 rk) ∧ W.cell? ⟨w6.heap.size, 1, none⟩ = some (.int .i64 rn) ∧ W.cell? ⟨w6.heap.size, 2, none⟩ = some (.int .i64 rx)) ((refine HS.out _ ?_; first | with_reducible assumption | with_reducible exact (Below.refl _ _).drew | with_reducible exact b_box (by with_reducible assumption) _)) ((first | (go_at_call 16; go_split_ands; refine (COR.out _).mono ?_; rintro e wf ⟨rfl, bf⟩; have bbf := b_next (by with_reducible assumption : Below wc.heap.size wc _) bf) | (go_at_call 7; go_split_ands; refine (PZ.out _ _ (HTC.out _ (by with_reducible assumption : Below wc.heap.size wc _))).mono ?_; rintro e wp ⟨vp, rfl, np, op, bp⟩; have bbp := b_next (by with_reducible assumption : Below wc.heap.size wc _) bp; have rp : Reads wp vp (bv (hdB ⟨rk, rn, rx⟩)) := (by have q := own_reads op; rwa [List.nil_append] at q)) | (go_at_call 13; go_split_ands; refine (same_yes _ _ _ (hdB ⟨rk, rn, rx⟩) (by with_reducible assumption) (SUB.out _ (by with_reducible assumption : Below wc.heap.size wc _) _ _ _ (by first | rfl | omega | simp) (by first | rfl | omega | simp)) (by have := hdB_le ⟨rk, rn, rx⟩; omega)).mono ?_; rintro e wq ⟨rfl, bq⟩; have bbq := b_next (by with_reducible assumption : Below wc.heap.size wc _) bq)))
        all_goals
          have bcz := Lib.hid (show Below wc.heap.size wc _ from bbq)
          go_wp2_with fail
          go_meet
          exact ⟨rfl, bcz.out⟩
    case rest =>
      obtain ⟨rfl, bc9⟩ := hcut
      have b9 := BC.out.trans (bc9.mono BC.out.size)
      have BD := Lib.hid b9
      have HD := Lib.hid (HC8.out.below bc9)
      have OD := Lib.hid (own_below OC.out bc9)
      have XD := Lib.hid (own_below XC.out bc9)
      clear bc9 b9 HC8 OC XC CC GC
      obtain ⟨d0, d1, d2, df⟩ := HD.out
      simp only at d0 d1 d2
      have hdl := HD.out.lt
      clear df
      go_wp2_with fail
      refine (COI.out _).mono ?_
      rintro e wz ⟨rfl, bz⟩
      have BZ := Lib.hid (BD.out.trans (bz.mono BD.out.size))
      have HZ := Lib.hid (HD.out.below bz)
      have OZ := Lib.hid (own_below OD.out bz)
      have XZ := Lib.hid (own_below XD.out bz)
      clear bz d0 d1 d2 hdl BD HD OD XD COI
      cases BB
      · have hno := HBN.out rfl
        have ce := same_yes wz (.slice (some ⟨gx, 0, none⟩) XL cx) (.slice (some ⟨g1, 0, none⟩) l.length c1) l (by have q := own_reads XZ.out; rwa [hdB_no hno, List.append_nil] at q) (own_reads OZ.out) (by omega)
        clear hno
        go_wp2_with fail
        refine ce.mono ?_
        rintro e wl ⟨rfl, bl⟩
        have BL := Lib.hid (BZ.out.trans (bl.mono BZ.out.size))
        clear bl ce
        go_wp2
        go_ret
        exact ⟨rfl, BL.out⟩
      · have hyes := HBB.out rfl
        have hget := head_get hyes l []
        rw [List.append_nil] at hget
        have hXL9 : l.length + (hdB ⟨k, n, x⟩).length = XL := by rw [HXL.out, List.length_append]
        rw [hXL9] at hget
        have cg := gethead_impl wz gx 0 cx (l ++ hdB ⟨k, n, x⟩) l.length (fun j u hu => own_cells XZ.out j u hu) (XZ.out.lt gx rfl).2 (by rw [← HXL.out]; exact hlx) hcx hel (by omega)
        rw [getHI_nat, hget, ← HXL.out] at cg
        simp only [HdR.val, Hd.val] at cg
        have HY := Lib.hid hyes
        clear hyes hget hXL9
        go_wp2_with fail
        refine cg.mono ?_
        rintro e wy ⟨rfl, by0⟩
        have by1 := b_box by0 (.cells #[.int .i64 k, .int .i64 n, .int .i64 x] 25)
        have B9 := Lib.hid (BZ.out.trans (by1.mono BZ.out.size))
        have HC9 := Lib.hid (HZ.out.below by1)
        have O9 := Lib.hid (own_below OZ.out by1)
        have Y9 := Lib.hid (hb_new wy ⟨k, n, x⟩ 25)
        clear by0 by1 cg
        (go_upto_region 17 with fail)
        generalize (wy.alloc (.cells #[.int .i64 k, .int .i64 n, .int .i64 x] 25)) = W9 at *
        have hxx : ((XL : Int) == XL) = true := by simp
        by_cases hx : x < 0
        · obtain ⟨d0, d1, d2, df⟩ := HC9.out
          obtain ⟨y0, y1, y2, yf⟩ := Y9.out
          simp only at d0 d1 d2 y0 y1 y2
          clear df yf
          have hdl := HC9.out.lt
          have hyl := Y9.out.lt
          go_wp2
          go_ret
          exact ⟨by simp, B9.out⟩
        · have hxb : decide (x < 0) = false := decide_eq_false hx
          have hfo := for_ok HY.out (show 0 ≤ x by omega)
          have cf := fun W => headfor_impl k n W hn.1
          simp only at hfo
          obtain ⟨E, hE⟩ : ∃ E, E = hdFor k n := ⟨_, rfl⟩
          rw [← hE] at hfo cf
          obtain ⟨PL, hPL⟩ : ∃ PL, PL = (l ++ hdB E).length := ⟨_, rfl⟩
          have hple : (PL : Int) ≤ XL := by
            have e1 := hfo.2
            have e2 := HXL.out
            rw [List.length_append] at e2 hPL
            omega
          have hpm : (PL : Int) ≤ 1099511627776 := by have := HXL.out; omega
          have CF := Lib.hid cf
          have PE := Lib.hid (fun (W : World) (hb : Below W9.heap.size W9 W) => (puthead_impl W (.slice (some ⟨g1, 0, none⟩) l.length c1) l E (own_sl (own_below O9.out hb) (by intro e; cases e)) (by omega) (by have := hfo.1.2.1.1; omega) (HT.out.below (B9.out.trans (hb.mono B9.out.size)))).mono (fun e w' (h : Fresh W (l ++ hdB E) e w') => (by
            obtain ⟨v', rfl, hnn, ho, hb'⟩ := h
            rw [← hPL] at ho
            obtain ⟨gp, cp, rfl, _⟩ := own_shape ho hnn
            exact ⟨gp, cp, rfl, hb'⟩ : ∃ gp cp : Nat, e = .returned (.slice (some ⟨gp, 0, none⟩) PL cp) ∧ Below W.heap.size W w')))
          clear hfo cf hE hPL
          obtain ⟨ek, en, ex⟩ := E
          obtain ⟨d0, d1, d2, df⟩ := HC9.out
          obtain ⟨y0, y1, y2, yf⟩ := Y9.out
          simp only at d0 d1 d2 y0 y1 y2
          have hdl := HC9.out.lt
          have hyl := Y9.out.lt
          clear df yf
          go_wp2_with fail
          refine (CF.out _).mono ?_
          rintro e wf ⟨rfl, bf⟩
          have BF := Lib.hid (b_next (Below.refl W9.heap.size W9) bf)
          clear bf
          go_wp2_with fail
          refine (PE.out _ BF.out).mono ?_
          rintro e wp ⟨gp, cp, rfl, bp⟩
          have BP := Lib.hid (b_next BF.out bp)
          clear bp
          go_wp2
          go_ret
          exact ⟨by simp, B9.out.trans (BP.out.mono B9.out.size)⟩

set_option maxRecDepth 100000 in
theorem contract (H : Type) (enc : TypeId × Value → H) (W : World) (base : Nat) (args : Array Value) (ds gs : List (DataW H)) (before : List MemPlace)
    (hval : ∀ (j : Nat) t v, Tryd.f3.params[j]? = some t → args[j]? = some v → Value.okWide Tryd.prog W .any base t v)
    (hW : DataW.Whole enc Tryd.prog Tryd.f3.params.toList Rows.fnHeadsSpec.vars false W args.toList ds gs before)
    (hcond : ∀ k, (OpenSpec.ofChange Rows.fnHeadsSpec).cond = some k → k H (ds ++ gs) = true)
    (hsz : (DataW.weightsEach Tryd.prog (Tryd.f3.params.toList ++ (OpenSpec.ofChange Rows.fnHeadsSpec).bare.plain.varTypes Tryd.prog) (ds ++ gs)).all (· ≤ reachBytes) = true)
    (hL : laidMetH Tryd.prog Rows.fnHeadsRow.laid W) :
    Calls Tryd.prog 3 args W fun e W' => ∃ v, e = .returned v ∧ Rows.fnHeadsSpec.post enc Tryd.prog Tryd.f3 false true false false W args v W' := by
  have hW' := hW
  have hlt := hW'.lt
  obtain ⟨p, q, hA0, hV, rfl, hfz, hnd⟩ := hW
  have hA : DataW.TrodAll enc Tryd.prog W 0 (fun _ => true) true Tryd.f3.params.toList args.toList ds p := hA0
  rw [Tryd.params3] at hA hval hsz
  obtain ⟨v0, vs0, d0, ds0, p0, q0, hargs, rfl, rfl, h0, r0⟩ := trodAll_cons hA
  obtain ⟨rfl, rfl, rfl⟩ := trodAll_nil r0
  obtain rfl : args = #[v0] := by cases args; simp_all
  obtain ⟨rfl, rfl⟩ := trodVars_none hV
  simp only [List.append_nil] at hW' hlt
  have hlt0 : ∀ x ∈ p0, x.block < W.heap.size := fun x hx => hlt x (by simp [hx])
  have hk0 := h0
  clear hA0 hA
  have fin : ∀ W' : World, Below W.heap.size W W' → Rows.fnHeadsSpec.post enc Tryd.prog Tryd.f3 false true false false W _ (.bool true) W' := fun W' hb =>
    ⟨_, _, _, [], _, [], hW', trodAll_mk1 (shut_bool Tryd.underlying4 _), (trodAll_cons_mk (Below.trod laidOut (by kernel_rfl) (of_decide_eq_true (by kernel_rfl)) hk0 hb hlt0) trodAll_mk0), rfl, hb.frame _, fun h => by cases h⟩
  refine Calls.mono (R := fun e w' => e = .returned (.bool true) ∧ Below W.heap.size W w') ?_ (fun e W' h => ⟨_, h.1, fin W' h.2⟩)
  clear fin
  obtain ⟨a, len, cap, rfl, hC, hm⟩ := open_code (hval 0 _ v0 rfl rfl) h0 hlt0
  by_cases hl : 1048576 < len
  · exact walk_long a len cap W hl hm
  · exact walk a len cap W hC (by omega) (tabs_tz hL)

theorem laid_met (os : Os) : laidMet Tryd.prog Rows.fnHeadsRow.laid (((World.doorLaid Tryd.prog 4000 os)).forCall (fun _ _ => 0) ⟨#[], #[.slice none 0 0], []⟩).memory :=
  (laidMet_of_run' 8 (by kernel_rfl) (by kernel_rfl))
theorem reads (os : Os) {H : Type} (enc : TypeId × Value → H) : ∃ places, DataW.whole enc Tryd.prog (((World.doorLaid Tryd.prog 4000 os)).forCall (fun _ _ => 0) ⟨#[], #[.slice none 0 0], []⟩).memory Tryd.f3.params.toList Rows.fnHeadsSpec.vars false (#[.slice none 0 0] : Array Value).toList 8 = some ([.nil], [], places) :=
  ⟨[], by kernel_rfl⟩

set_option maxRecDepth 100000 in
theorem lifted (os : Os) (started : os.Started) (H : Type) (enc : TypeId × Value → H) (F : Stop.Interp) :
    ReturnsInHanded {} Tryd.checked os 3 .any ((OpenSpec.ofChange Rows.fnHeadsSpec).preRow enc Tryd.prog Tryd.f3 Rows.fnHeadsRow.domain false Rows.fnHeadsRow.laid) (((OpenSpec.ofChange Rows.fnHeadsSpec).at F).post enc Tryd.prog Tryd.f3 false true false false) := by
  obtain ⟨places, hx⟩ := reads os enc
  refine returnsInHanded_of_row (C := Tryd.checked) (s := OpenSpec.ofChange Rows.fnHeadsSpec) own started (by kernel_rfl) Tryd.func3
    (witness_row_atRef (enc := enc) (C := Tryd.checked) false (World.doorLaid Tryd.prog 4000 os) #[.slice none 0 0] rfl (by kernel_rfl) (by kernel_rfl) (by kernel_rfl)
      (OpenSpec.preRow_of_cond 8 hx (by kernel_rfl) (fun k hk => by cases hk) (by kernel_rfl) (laid_met os))) ?_
  intro W base args ds gs before hval hW _ hcond hsz hL _ _
  exact contract H enc W base args ds gs before hval hW hcond hsz hL

theorem said : Rows.FnHeadsSaid :=
  OpenClaim.holds_of_cond 3 Tryd.f3 rfl rfl rfl rfl rfl rfl rfl ⟨rfl, rfl, rfl, rfl, rfl⟩ rfl rfl rfl rfl rfl (by kernel_rfl) Tryd.func3 (by kernel_rfl)
    (of_decide_eq_true (by kernel_rfl)) (by unfold Func.isWrapper; first | (rw [if_pos (by decide +kernel)]; kernel_rfl) | (rw [if_neg (by decide +kernel)]; exact ⟨rfl, rfl⟩))
    (fun os started H enc _ F => by rw [OpenClaim.pre_eq_preRow]; exact lifted os started H enc F)

theorem plain (f : FuncId) (fn : Func) (hf : Tryd.pinned.checked.prog.funcNamed Rows.fnHeadsRow.func = some f) (hfn : Tryd.pinned.checked.prog.funcs[f]? = some fn) :
    false = Tryd.pinned.checked.prog.looks [] ∧ ∀ (j : Nat) t, fn.params[j]? = some t → Tryd.pinned.checked.prog.wantsStandIn t = false := by
  obtain rfl : f = 3 := Option.some.inj ((show Tryd.prog.funcNamed Rows.fnHeadsRow.func = some 3 by kernel_rfl).symm.trans hf) |>.symm
  obtain rfl : fn = Tryd.f3 := (Option.some.inj (Tryd.func3.symm.trans hfn)).symm
  refine ⟨by kernel_rfl, fun j t ht => ?_⟩
  rw [Tryd.params3] at ht
  have hm : t ∈ [22] := by simpa using Array.mem_of_getElem? ht
  have hall : ([22].all fun u => !Tryd.prog.wantsStandIn u) = true := by kernel_rfl
  exact (show Tryd.prog.wantsStandIn t = false by simpa using List.all_eq_true.1 hall t hm)

theorem proved : Rows.FnHeadsCardSaid :=
  Claim7.holds_tied_plain_at .later [] _ _ _ _ said (fun _ h => by cases h) (by kernel_rfl) (fun _ h => by cases h) fnHeads_row_tie rfl ⟨rfl, rfl⟩ (by kernel_rfl) rfl plain (by kernel_rfl)
#print axioms proved
end Go.Proofs.YtblaaiggmhadfaaDoor.fnHeads
