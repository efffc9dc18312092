import Derived.Test.YtilgncebhgplaaaDoorG11
import Derived.Test.YtilgncebhgplaaaDoorG12
import Derived.Test.YtilgncebhgplaaaDoorG9
import Derived.Test.YtilgncebhgplaaaDoorG13
import Derived.Test.YtilgncebhgplaaaDoorG14
/- The writer's put functions, one a kind. By gen_twput.py. -/
namespace Go.Proofs.YtilgncebhgplaaaDoor
open Go.RowKit
set_option linter.unusedVariables false
set_option maxRecDepth 100000
/-- what begin hands on -/
def BP (N P : Nat) (w : World) (v u : Value) (T : AT) (out : List UInt8) (S : List GF) (d : Bool) (e : Ending) (w' : World) : Prop :=
  e = .returned (.tuple #[]) ∧ ∃ va vn vc ua un uc, TW w' N P (.slice va vn vc) (.slice ua un uc) (out ++ hd1 T.k T.n T.x T.s T.l.length) (if opn1 T.k T.n = true then S ++ [GF.new T] else S) d ∧ Stp P w v u w' (.slice va vn vc) (.slice ua un uc)
theorem bp_leaf {N P : Nat} {w w' : World} {v u : Value} {T : AT} {out E : List UInt8} {S : List GF} {d : Bool} {va ua : Option Addr} {vn vc un uc : Nat} (hE : hd1 T.k T.n T.x T.s T.l.length = E) (ho : opn1 T.k T.n = false) (h : TW w' N P (.slice va vn vc) (.slice ua un uc) (out ++ E) S d) (hs : Stp P w v u w' (.slice va vn vc) (.slice ua un uc)) : BP N P w v u T out S d (.returned (.tuple #[])) w' := by
  refine ⟨rfl, va, vn, vc, ua, un, uc, ?_, hs⟩
  rw [hE, ho]
  exact h
theorem bp_none {N P : Nat} {w w' : World} {v u : Value} {T : AT} {out : List UInt8} {S : List GF} {d : Bool} {va ua : Option Addr} {vn vc un uc : Nat} (hE : hd1 T.k T.n T.x T.s T.l.length = []) (ho : opn1 T.k T.n = false) (h : TW w' N P (.slice va vn vc) (.slice ua un uc) out S d) (hs : Stp P w v u w' (.slice va vn vc) (.slice ua un uc)) : BP N P w v u T out S d (.returned (.tuple #[])) w' := by
  refine bp_leaf hE ho ?_ hs
  rw [List.append_nil]
  exact h
theorem hdFor_low (k n : Int) (h : -9223372036854775808 ≤ n) : -9223372036854775808 ≤ (hdFor k n).n := by
  unfold hdFor
  by_cases o : hdOk ⟨k, n, if n > 23 then widR n else 0⟩
  · rw [if_pos o]; exact h
  · rw [if_neg o]; decide
theorem fltBits_low (m e : Int) : -9223372036854775808 ≤ fltBits m e := by
  cases h : fltOk m e
  · rw [fltBits_no h]; decide
  · have := (bits_back h).1; omega
theorem hdFor_7 {n : Int} (h0 : 0 ≤ n) (h : n ≤ 23) : hdFor 7 n = ⟨7, n, 0⟩ := by
  have ok : hdOk ⟨7, n, if n > 23 then widR n else 0⟩ := by rw [if_neg (by omega)]; exact hd_of (by omega) (by omega) (by omega)
  unfold hdFor
  rw [if_pos ok, if_neg (by omega)]
set_option maxHeartbeats 2000000 in
theorem tw_k1 {w : World} {N P vn vc un uc : Nat} {va ua : Option Addr} {out : List UInt8} {S : List GF} {d : Bool} (n x : Int) (s : List UInt8) (a : Option Addr) (cap : Nat) (l : List AT) (htw : TW w N P (.slice va vn vc) (.slice ua un uc) out S d) (hT : (AT.mk 1 n x s a cap l).In w N) (hz : Tz w) (hn : inW n) (hx : inW x) (hsz : out.length + s.length ≤ 1000000000) (hS : S.length ≤ 4194304) (hl : l.length ≤ 1048576) :
    Calls Tryd.prog 82 #[.pointer (some ⟨P, 0, none⟩), .agg #[.int .i64 1, .int .i64 n, .int .i64 x, .string ⟨s.toArray⟩, .slice a l.length cap]] w (BP N P w (.slice va vn vc) (.slice ua un uc) (.mk 1 n x s a cap l) out S d) := by
  have hb0 := vbox w (.cells #[.int .i64 1, .int .i64 n, .int .i64 x, .string ⟨s.toArray⟩, .slice a l.length cap] 29)
  have hTW := htw.blw hb0
  have hTz := hz.below hb0
  have hPl := htw.lt
  have HTI := Lib.hid (hT.blw hb0 (by have := htw.np; omega))
  have hbc : CellsAt (w.alloc (.cells #[.int .i64 1, .int .i64 n, .int .i64 x, .string ⟨s.toArray⟩, .slice a l.length cap] 29)) w.heap.size 0 (.mk 1 n x s a cap l) := by
    refine ⟨?_, ?_, ?_, ?_, ?_⟩ <;> simp [go_sem, AT.k, AT.n, AT.x, AT.s, AT.a, AT.l, AT.cap]
  have HTW0 := Lib.hid htw
  clear htw hT hz
  go_enter Tryd.func82, Tryd.ntmps82
  (go_upto_region 1 with fail)
  generalize hW1 : (w.alloc (.cells #[.int .i64 1, .int .i64 n, .int .i64 x, .string ⟨s.toArray⟩, .slice a l.length cap] 29)) = W1 at *
  have HB0 := Lib.hid hb0
  have hbx : w.heap.size < W1.heap.size := by rw [← hW1]; simp
  have HTW := Lib.hid hTW
  have HTZ := Lib.hid hTz
  have HBC := Lib.hid hbc
  obtain ⟨c0, c1, c2, c3, c4⟩ := hbc
  simp only [AT.k, AT.n, AT.x, AT.s, AT.a, AT.l, AT.cap, Nat.zero_add] at c0 c1 c2 c3 c4
  clear hb0 hW1 hTW hTz
  have CP := Lib.hid (fun (h : Hd) (h0 : -9223372036854775808 ≤ h.n) (W : World) (hb : Below W1.heap.size W1 W) => tw_puthead (HTW.out.blw hb) h h0 (HTZ.out.below hb) (by omega))
  have HBX := Below.refl W1.heap.size W1
  obtain ⟨hh, ehh⟩ : ∃ hh, hh = hdFor 7 22 := ⟨_, rfl⟩
  have hh0 : -9223372036854775808 ≤ hh.n := by rw [ehh]; exact hdFor_low _ _ (by decide)
  have ch := fun W => headfor_impl 7 22 W (by decide)
  rw [← ehh] at ch
  have EH := Lib.hid ehh
  clear ehh
  go_wp2_with fail
  refine (ch _).mono ?_
  rintro e w2 ⟨rfl, hb2⟩
  have HB2 := Lib.hid (HBX.trans (hb2.mono HBX.size))
  clear ch hb2
  go_wp2_with fail
  refine (CP.out hh hh0 _ HB2.out).mono ?_
  rintro e w3 ⟨rfl, va3, vn3, vc3, tw3, st3⟩
  have HQ := Lib.hid (bp_leaf (T := .mk 1 n x s a cap l) (by show hd1 1 n x s _ = hdB hh; rw [hd1_1, EH.out, hdFor_7 (by decide) (by decide)]) (by first | rfl | exact opn1_no (by decide) (by decide) (by decide)) tw3 (st3.pre (HB0.out.trans (Below.mono HB2.out (Nat.le_of_lt hbx)))))
  clear tw3 st3
  go_wp2
  go_end0
  exact HQ.out
set_option maxHeartbeats 2000000 in
theorem tw_k2 {w : World} {N P vn vc un uc : Nat} {va ua : Option Addr} {out : List UInt8} {S : List GF} {d : Bool} (n x : Int) (s : List UInt8) (a : Option Addr) (cap : Nat) (l : List AT) (htw : TW w N P (.slice va vn vc) (.slice ua un uc) out S d) (hT : (AT.mk 2 n x s a cap l).In w N) (hz : Tz w) (hn : inW n) (hx : inW x) (hsz : out.length + s.length ≤ 1000000000) (hS : S.length ≤ 4194304) (hl : l.length ≤ 1048576) :
    Calls Tryd.prog 83 #[.pointer (some ⟨P, 0, none⟩), .agg #[.int .i64 2, .int .i64 n, .int .i64 x, .string ⟨s.toArray⟩, .slice a l.length cap]] w (BP N P w (.slice va vn vc) (.slice ua un uc) (.mk 2 n x s a cap l) out S d) := by
  have hb0 := vbox w (.cells #[.int .i64 2, .int .i64 n, .int .i64 x, .string ⟨s.toArray⟩, .slice a l.length cap] 29)
  have hTW := htw.blw hb0
  have hTz := hz.below hb0
  have hPl := htw.lt
  have HTI := Lib.hid (hT.blw hb0 (by have := htw.np; omega))
  have hbc : CellsAt (w.alloc (.cells #[.int .i64 2, .int .i64 n, .int .i64 x, .string ⟨s.toArray⟩, .slice a l.length cap] 29)) w.heap.size 0 (.mk 2 n x s a cap l) := by
    refine ⟨?_, ?_, ?_, ?_, ?_⟩ <;> simp [go_sem, AT.k, AT.n, AT.x, AT.s, AT.a, AT.l, AT.cap]
  have HTW0 := Lib.hid htw
  clear htw hT hz
  go_enter Tryd.func83, Tryd.ntmps83
  (go_upto_region 1 with fail)
  generalize hW1 : (w.alloc (.cells #[.int .i64 2, .int .i64 n, .int .i64 x, .string ⟨s.toArray⟩, .slice a l.length cap] 29)) = W1 at *
  have HB0 := Lib.hid hb0
  have hbx : w.heap.size < W1.heap.size := by rw [← hW1]; simp
  have HTW := Lib.hid hTW
  have HTZ := Lib.hid hTz
  have HBC := Lib.hid hbc
  obtain ⟨c0, c1, c2, c3, c4⟩ := hbc
  simp only [AT.k, AT.n, AT.x, AT.s, AT.a, AT.l, AT.cap, Nat.zero_add] at c0 c1 c2 c3 c4
  clear hb0 hW1 hTW hTz
  have CP := Lib.hid (fun (h : Hd) (h0 : -9223372036854775808 ≤ h.n) (W : World) (hb : Below W1.heap.size W1 W) => tw_puthead (HTW.out.blw hb) h h0 (HTZ.out.below hb) (by omega))
  have HBX := Below.refl W1.heap.size W1
  by_cases hn1 : n = 1
  · subst hn1
    obtain ⟨hh, ehh⟩ : ∃ hh, hh = hdFor 7 21 := ⟨_, rfl⟩
    have hh0 : -9223372036854775808 ≤ hh.n := by rw [ehh]; exact hdFor_low _ _ (by decide)
    have ch := fun W => headfor_impl 7 21 W (by decide)
    rw [← ehh] at ch
    have EH := Lib.hid ehh
    clear ehh
    go_wp2_with fail
    refine (ch _).mono ?_
    rintro e w2 ⟨rfl, hb2⟩
    have HB2 := Lib.hid (HBX.trans (hb2.mono HBX.size))
    clear ch hb2
    go_wp2_with fail
    refine (CP.out hh hh0 _ HB2.out).mono ?_
    rintro e w3 ⟨rfl, va3, vn3, vc3, tw3, st3⟩
    have HQ := Lib.hid (bp_leaf (T := .mk 2 1 x s a cap l) (by show hd1 2 1 x s _ = hdB hh; rw [hd1_2, EH.out, hdFor_7 (by decide) (by decide)]; rfl) (by first | rfl | exact opn1_no (by decide) (by decide) (by decide)) tw3 (st3.pre (HB0.out.trans (Below.mono HB2.out (Nat.le_of_lt hbx)))))
    clear tw3 st3
    go_wp2
    go_end0
    exact HQ.out
  · have q : (n == 1) = false := by rw [beq_eq_false_iff_ne]; exact hn1
    have HN1 := Lib.hid hn1
    clear hn1
    obtain ⟨hh, ehh⟩ : ∃ hh, hh = hdFor 7 20 := ⟨_, rfl⟩
    have hh0 : -9223372036854775808 ≤ hh.n := by rw [ehh]; exact hdFor_low _ _ (by decide)
    have ch := fun W => headfor_impl 7 20 W (by decide)
    rw [← ehh] at ch
    have EH := Lib.hid ehh
    clear ehh
    go_wp2_with fail
    refine (ch _).mono ?_
    rintro e w2 ⟨rfl, hb2⟩
    have HB2 := Lib.hid (HBX.trans (hb2.mono HBX.size))
    clear ch hb2
    go_wp2_with fail
    refine (CP.out hh hh0 _ HB2.out).mono ?_
    rintro e w3 ⟨rfl, va3, vn3, vc3, tw3, st3⟩
    have HQ := Lib.hid (bp_leaf (T := .mk 2 n x s a cap l) (by show hd1 2 n x s _ = hdB hh; rw [hd1_2, if_neg HN1.out, EH.out, hdFor_7 (by decide) (by decide)]) (by first | rfl | exact opn1_no (by decide) (by decide) (by decide)) tw3 (st3.pre (HB0.out.trans (Below.mono HB2.out (Nat.le_of_lt hbx)))))
    clear tw3 st3
    go_wp2
    go_end0
    exact HQ.out
set_option maxHeartbeats 2000000 in
theorem tw_k3 {w : World} {N P vn vc un uc : Nat} {va ua : Option Addr} {out : List UInt8} {S : List GF} {d : Bool} (n x : Int) (s : List UInt8) (a : Option Addr) (cap : Nat) (l : List AT) (htw : TW w N P (.slice va vn vc) (.slice ua un uc) out S d) (hT : (AT.mk 3 n x s a cap l).In w N) (hz : Tz w) (hn : inW n) (hx : inW x) (hsz : out.length + s.length ≤ 1000000000) (hS : S.length ≤ 4194304) (hl : l.length ≤ 1048576) :
    Calls Tryd.prog 84 #[.pointer (some ⟨P, 0, none⟩), .agg #[.int .i64 3, .int .i64 n, .int .i64 x, .string ⟨s.toArray⟩, .slice a l.length cap]] w (BP N P w (.slice va vn vc) (.slice ua un uc) (.mk 3 n x s a cap l) out S d) := by
  have hb0 := vbox w (.cells #[.int .i64 3, .int .i64 n, .int .i64 x, .string ⟨s.toArray⟩, .slice a l.length cap] 29)
  have hTW := htw.blw hb0
  have hTz := hz.below hb0
  have hPl := htw.lt
  have HTI := Lib.hid (hT.blw hb0 (by have := htw.np; omega))
  have hbc : CellsAt (w.alloc (.cells #[.int .i64 3, .int .i64 n, .int .i64 x, .string ⟨s.toArray⟩, .slice a l.length cap] 29)) w.heap.size 0 (.mk 3 n x s a cap l) := by
    refine ⟨?_, ?_, ?_, ?_, ?_⟩ <;> simp [go_sem, AT.k, AT.n, AT.x, AT.s, AT.a, AT.l, AT.cap]
  have HTW0 := Lib.hid htw
  clear htw hT hz
  go_enter Tryd.func84, Tryd.ntmps84
  (go_upto_region 1 with fail)
  generalize hW1 : (w.alloc (.cells #[.int .i64 3, .int .i64 n, .int .i64 x, .string ⟨s.toArray⟩, .slice a l.length cap] 29)) = W1 at *
  have HB0 := Lib.hid hb0
  have hbx : w.heap.size < W1.heap.size := by rw [← hW1]; simp
  have HTW := Lib.hid hTW
  have HTZ := Lib.hid hTz
  have HBC := Lib.hid hbc
  obtain ⟨c0, c1, c2, c3, c4⟩ := hbc
  simp only [AT.k, AT.n, AT.x, AT.s, AT.a, AT.l, AT.cap, Nat.zero_add] at c0 c1 c2 c3 c4
  clear hb0 hW1 hTW hTz
  have CP := Lib.hid (fun (h : Hd) (h0 : -9223372036854775808 ≤ h.n) (W : World) (hb : Below W1.heap.size W1 W) => tw_puthead (HTW.out.blw hb) h h0 (HTZ.out.below hb) (by omega))
  by_cases hr : -1000000000000000 ≤ n ∧ n ≤ 1000000000000000
  · have ck := fun W => cok_int W n
    rw [decide_eq_true hr] at ck
    obtain ⟨r1, r2⟩ := hr
    go_wp2_with fail
    refine (ck _).mono ?_
    rintro e w1 ⟨rfl, hb1⟩
    have HBX := hb1
    have d1 := keep_below hb1 c1
    clear c0 c1 c2 c3 c4 ck
    by_cases hn0 : n < 0
    · have hw1 : IntKind.i64.wrap (-1 - n) = -1 - n := IntWalk.i64_in _ (by omega)
      obtain ⟨hh, ehh⟩ : ∃ hh, hh = hdFor 1 (-1 - n) := ⟨_, rfl⟩
      have hh0 : -9223372036854775808 ≤ hh.n := by rw [ehh]; exact hdFor_low _ _ (by omega)
      have ch := fun W => headfor_impl 1 (-1 - n) W (by omega)
      rw [← ehh] at ch
      have EH := Lib.hid ehh
      clear ehh
      go_wp2_with fail
      refine (ch _).mono ?_
      rintro e w2 ⟨rfl, hb2⟩
      have HB2 := Lib.hid (HBX.trans (hb2.mono HBX.size))
      clear ch hb2
      go_wp2_with fail
      refine (CP.out hh hh0 _ HB2.out).mono ?_
      rintro e w3 ⟨rfl, va3, vn3, vc3, tw3, st3⟩
      have HQ := Lib.hid (bp_leaf (T := .mk 3 n x s a cap l) (by show hd1 3 n x s _ = hdB hh; rw [hd1_3, if_pos ⟨r1, r2⟩, if_pos hn0, EH.out]) (by first | rfl | exact opn1_no (by decide) (by decide) (by decide)) tw3 (st3.pre (HB0.out.trans (Below.mono HB2.out (Nat.le_of_lt hbx)))))
      clear tw3 st3
      go_wp2
      go_end0
      exact HQ.out
    · have hn0' : 0 ≤ n := Int.not_lt.1 hn0
      obtain ⟨hh, ehh⟩ : ∃ hh, hh = hdFor 0 n := ⟨_, rfl⟩
      have hh0 : -9223372036854775808 ≤ hh.n := by rw [ehh]; exact hdFor_low _ _ (by omega)
      have ch := fun W => headfor_impl 0 n W (by omega)
      rw [← ehh] at ch
      have EH := Lib.hid ehh
      clear ehh
      go_wp2_with fail
      refine (ch _).mono ?_
      rintro e w2 ⟨rfl, hb2⟩
      have HB2 := Lib.hid (HBX.trans (hb2.mono HBX.size))
      clear ch hb2
      go_wp2_with fail
      refine (CP.out hh hh0 _ HB2.out).mono ?_
      rintro e w3 ⟨rfl, va3, vn3, vc3, tw3, st3⟩
      have HQ := Lib.hid (bp_leaf (T := .mk 3 n x s a cap l) (by show hd1 3 n x s _ = hdB hh; rw [hd1_3, if_pos ⟨r1, r2⟩, if_neg (Int.not_lt.2 hn0'), EH.out]) (by first | rfl | exact opn1_no (by decide) (by decide) (by decide)) tw3 (st3.pre (HB0.out.trans (Below.mono HB2.out (Nat.le_of_lt hbx)))))
      clear tw3 st3
      go_wp2
      go_end0
      exact HQ.out
  · have ck := fun W => cok_int W n
    rw [decide_eq_false hr] at ck
    have HR := Lib.hid hr
    clear hr
    go_wp2_with fail
    refine (ck _).mono ?_
    rintro e w1 ⟨rfl, hb1⟩
    have HQ := Lib.hid (bp_none (T := .mk 3 n x s a cap l) (by show hd1 3 n x s _ = []; rw [hd1_3, if_neg HR.out]) (by show opn1 3 n = false; exact opn1_no (by decide) (by decide) (by decide)) (HTW.out.blw hb1) (Stp.of_below (HB0.out.trans (hb1.mono (Nat.le_of_lt hbx)))))
    clear hb1 ck
    go_wp2
    go_end0
    exact HQ.out
set_option maxHeartbeats 2000000 in
theorem tw_k4 {w : World} {N P vn vc un uc : Nat} {va ua : Option Addr} {out : List UInt8} {S : List GF} {d : Bool} (n x : Int) (s : List UInt8) (a : Option Addr) (cap : Nat) (l : List AT) (htw : TW w N P (.slice va vn vc) (.slice ua un uc) out S d) (hT : (AT.mk 4 n x s a cap l).In w N) (hz : Tz w) (hn : inW n) (hx : inW x) (hsz : out.length + s.length ≤ 1000000000) (hS : S.length ≤ 4194304) (hl : l.length ≤ 1048576) :
    Calls Tryd.prog 85 #[.pointer (some ⟨P, 0, none⟩), .agg #[.int .i64 4, .int .i64 n, .int .i64 x, .string ⟨s.toArray⟩, .slice a l.length cap]] w (BP N P w (.slice va vn vc) (.slice ua un uc) (.mk 4 n x s a cap l) out S d) := by
  have hb0 := vbox w (.cells #[.int .i64 4, .int .i64 n, .int .i64 x, .string ⟨s.toArray⟩, .slice a l.length cap] 29)
  have hTW := htw.blw hb0
  have hTz := hz.below hb0
  have hPl := htw.lt
  have HTI := Lib.hid (hT.blw hb0 (by have := htw.np; omega))
  have hbc : CellsAt (w.alloc (.cells #[.int .i64 4, .int .i64 n, .int .i64 x, .string ⟨s.toArray⟩, .slice a l.length cap] 29)) w.heap.size 0 (.mk 4 n x s a cap l) := by
    refine ⟨?_, ?_, ?_, ?_, ?_⟩ <;> simp [go_sem, AT.k, AT.n, AT.x, AT.s, AT.a, AT.l, AT.cap]
  have HTW0 := Lib.hid htw
  clear htw hT hz
  go_enter Tryd.func85, Tryd.ntmps85
  (go_upto_region 1 with fail)
  generalize hW1 : (w.alloc (.cells #[.int .i64 4, .int .i64 n, .int .i64 x, .string ⟨s.toArray⟩, .slice a l.length cap] 29)) = W1 at *
  have HB0 := Lib.hid hb0
  have hbx : w.heap.size < W1.heap.size := by rw [← hW1]; simp
  have HTW := Lib.hid hTW
  have HTZ := Lib.hid hTz
  have HBC := Lib.hid hbc
  obtain ⟨c0, c1, c2, c3, c4⟩ := hbc
  simp only [AT.k, AT.n, AT.x, AT.s, AT.a, AT.l, AT.cap, Nat.zero_add] at c0 c1 c2 c3 c4
  clear hb0 hW1 hTW hTz
  have CP := Lib.hid (fun (h : Hd) (h0 : -9223372036854775808 ≤ h.n) (W : World) (hb : Below W1.heap.size W1 W) => tw_puthead (HTW.out.blw hb) h h0 (HTZ.out.below hb) (by omega))
  have cf := fun W => fltbits_impl n x W hn hx
  go_wp2_with fail
  refine (cf _).mono ?_
  rintro e w2 ⟨rfl, hb2⟩
  have HB2 := Lib.hid hb2
  have hh0 : -9223372036854775808 ≤ (Hd.mk 7 (fltBits n x) 4).n := fltBits_low n x
  clear cf hb2
  go_wp2_with fail
  refine (CP.out ⟨7, fltBits n x, 4⟩ hh0 _ HB2.out).mono ?_
  rintro e w3 ⟨rfl, va3, vn3, vc3, tw3, st3⟩
  have HQ := Lib.hid (bp_leaf (T := .mk 4 n x s a cap l) (by show hd1 4 n x s _ = _; rw [hd1_4]) (by first | rfl | exact opn1_no (by decide) (by decide) (by decide)) tw3 (st3.pre (HB0.out.trans (Below.mono HB2.out (Nat.le_of_lt hbx)))))
  clear tw3 st3
  go_wp2
  go_end0
  exact HQ.out
set_option maxHeartbeats 2000000 in
theorem tw_k5 {w : World} {N P vn vc un uc : Nat} {va ua : Option Addr} {out : List UInt8} {S : List GF} {d : Bool} (n x : Int) (s : List UInt8) (a : Option Addr) (cap : Nat) (l : List AT) (htw : TW w N P (.slice va vn vc) (.slice ua un uc) out S d) (hT : (AT.mk 5 n x s a cap l).In w N) (hz : Tz w) (hn : inW n) (hx : inW x) (hsz : out.length + s.length ≤ 1000000000) (hS : S.length ≤ 4194304) (hl : l.length ≤ 1048576) :
    Calls Tryd.prog 86 #[.pointer (some ⟨P, 0, none⟩), .agg #[.int .i64 5, .int .i64 n, .int .i64 x, .string ⟨s.toArray⟩, .slice a l.length cap]] w (BP N P w (.slice va vn vc) (.slice ua un uc) (.mk 5 n x s a cap l) out S d) := by
  have hb0 := vbox w (.cells #[.int .i64 5, .int .i64 n, .int .i64 x, .string ⟨s.toArray⟩, .slice a l.length cap] 29)
  have hTW := htw.blw hb0
  have hTz := hz.below hb0
  have hPl := htw.lt
  have HTI := Lib.hid (hT.blw hb0 (by have := htw.np; omega))
  have hbc : CellsAt (w.alloc (.cells #[.int .i64 5, .int .i64 n, .int .i64 x, .string ⟨s.toArray⟩, .slice a l.length cap] 29)) w.heap.size 0 (.mk 5 n x s a cap l) := by
    refine ⟨?_, ?_, ?_, ?_, ?_⟩ <;> simp [go_sem, AT.k, AT.n, AT.x, AT.s, AT.a, AT.l, AT.cap]
  have HTW0 := Lib.hid htw
  clear htw hT hz
  go_enter Tryd.func86, Tryd.ntmps86
  (go_upto_region 1 with fail)
  generalize hW1 : (w.alloc (.cells #[.int .i64 5, .int .i64 n, .int .i64 x, .string ⟨s.toArray⟩, .slice a l.length cap] 29)) = W1 at *
  have HB0 := Lib.hid hb0
  have hbx : w.heap.size < W1.heap.size := by rw [← hW1]; simp
  have HTW := Lib.hid hTW
  have HTZ := Lib.hid hTz
  have HBC := Lib.hid hbc
  obtain ⟨c0, c1, c2, c3, c4⟩ := hbc
  simp only [AT.k, AT.n, AT.x, AT.s, AT.a, AT.l, AT.cap, Nat.zero_add] at c0 c1 c2 c3 c4
  clear hb0 hW1 hTW hTz
  have CP := Lib.hid (fun (h : Hd) (h0 : -9223372036854775808 ≤ h.n) (W : World) (hb : Below W1.heap.size W1 W) => tw_puthead (HTW.out.blw hb) h h0 (HTZ.out.below hb) (by omega))
  by_cases hr : 0 ≤ n ∧ n ≤ 2
  · have ck := fun W => cok_odd W n
    rw [decide_eq_true hr] at ck
    obtain ⟨r1, r2⟩ := hr
    have hw1 : IntKind.i64.wrap (32 + n) = 32 + n := IntWalk.i64_in _ (by omega)
    go_wp2_with fail
    refine (ck _).mono ?_
    rintro e w2 ⟨rfl, hb2⟩
    have HB2 := Lib.hid hb2
    have d1 := keep_below hb2 c1
    have hh0 : -9223372036854775808 ≤ (Hd.mk 7 (32 + n) 1).n := by show -9223372036854775808 ≤ 32 + n; omega
    clear c0 c1 c2 c3 c4 ck hb2
    go_wp2_with fail
    refine (CP.out ⟨7, 32 + n, 1⟩ hh0 _ HB2.out).mono ?_
    rintro e w3 ⟨rfl, va3, vn3, vc3, tw3, st3⟩
    have HQ := Lib.hid (bp_leaf (T := .mk 5 n x s a cap l) (by show hd1 5 n x s _ = _; rw [hd1_5, if_pos ⟨r1, r2⟩]) (by first | rfl | exact opn1_no (by decide) (by decide) (by decide)) tw3 (st3.pre (HB0.out.trans (Below.mono HB2.out (Nat.le_of_lt hbx)))))
    clear tw3 st3
    go_wp2
    go_end0
    exact HQ.out
  · have ck := fun W => cok_odd W n
    rw [decide_eq_false hr] at ck
    have HR := Lib.hid hr
    clear hr
    go_wp2_with fail
    refine (ck _).mono ?_
    rintro e w1 ⟨rfl, hb1⟩
    have HQ := Lib.hid (bp_none (T := .mk 5 n x s a cap l) (by show hd1 5 n x s _ = []; rw [hd1_5, if_neg HR.out]) (by show opn1 5 n = false; exact opn1_no (by decide) (by decide) (by decide)) (HTW.out.blw hb1) (Stp.of_below (HB0.out.trans (hb1.mono (Nat.le_of_lt hbx)))))
    clear hb1 ck
    go_wp2
    go_end0
    exact HQ.out
set_option maxHeartbeats 2000000 in
theorem tw_k7 {w : World} {N P vn vc un uc : Nat} {va ua : Option Addr} {out : List UInt8} {S : List GF} {d : Bool} (n x : Int) (s : List UInt8) (a : Option Addr) (cap : Nat) (l : List AT) (htw : TW w N P (.slice va vn vc) (.slice ua un uc) out S d) (hT : (AT.mk 7 n x s a cap l).In w N) (hz : Tz w) (hn : inW n) (hx : inW x) (hsz : out.length + s.length ≤ 1000000000) (hS : S.length ≤ 4194304) (hl : l.length ≤ 1048576) :
    Calls Tryd.prog 87 #[.pointer (some ⟨P, 0, none⟩), .agg #[.int .i64 7, .int .i64 n, .int .i64 x, .string ⟨s.toArray⟩, .slice a l.length cap]] w (BP N P w (.slice va vn vc) (.slice ua un uc) (.mk 7 n x s a cap l) out S d) := by
  have hb0 := vbox w (.cells #[.int .i64 7, .int .i64 n, .int .i64 x, .string ⟨s.toArray⟩, .slice a l.length cap] 29)
  have hTW := htw.blw hb0
  have hTz := hz.below hb0
  have hPl := htw.lt
  have HTI := Lib.hid (hT.blw hb0 (by have := htw.np; omega))
  have hbc : CellsAt (w.alloc (.cells #[.int .i64 7, .int .i64 n, .int .i64 x, .string ⟨s.toArray⟩, .slice a l.length cap] 29)) w.heap.size 0 (.mk 7 n x s a cap l) := by
    refine ⟨?_, ?_, ?_, ?_, ?_⟩ <;> simp [go_sem, AT.k, AT.n, AT.x, AT.s, AT.a, AT.l, AT.cap]
  have HTW0 := Lib.hid htw
  clear htw hT hz
  go_enter Tryd.func87, Tryd.ntmps87
  (go_upto_region 1 with fail)
  generalize hW1 : (w.alloc (.cells #[.int .i64 7, .int .i64 n, .int .i64 x, .string ⟨s.toArray⟩, .slice a l.length cap] 29)) = W1 at *
  have HB0 := Lib.hid hb0
  have hbx : w.heap.size < W1.heap.size := by rw [← hW1]; simp
  have HTW := Lib.hid hTW
  have HTZ := Lib.hid hTz
  have HBC := Lib.hid hbc
  obtain ⟨c0, c1, c2, c3, c4⟩ := hbc
  simp only [AT.k, AT.n, AT.x, AT.s, AT.a, AT.l, AT.cap, Nat.zero_add] at c0 c1 c2 c3 c4
  clear hb0 hW1 hTW hTz
  have CP := Lib.hid (fun (h : Hd) (h0 : -9223372036854775808 ≤ h.n) (W : World) (hb : Below W1.heap.size W1 W) => tw_puthead (HTW.out.blw hb) h h0 (HTZ.out.below hb) (by omega))
  have hss : (ByteArray.mk s.toArray).size = s.length := by simp [ByteArray.size]
  have HBX := Below.refl W1.heap.size W1
  obtain ⟨hh, ehh⟩ : ∃ hh, hh = hdFor 3 (s.length : Int) := ⟨_, rfl⟩
  have hh0 : -9223372036854775808 ≤ hh.n := by rw [ehh]; exact hdFor_low _ _ (by omega)
  have ch := fun W => headfor_impl 3 (s.length : Int) W (by omega)
  rw [← ehh] at ch
  have EH := Lib.hid ehh
  clear ehh
  go_wp2_with fail
  refine (ch _).mono ?_
  rintro e w2 ⟨rfl, hb2⟩
  have HB2 := Lib.hid (HBX.trans (hb2.mono HBX.size))
  clear ch hb2
  go_wp2_with fail
  refine (CP.out hh hh0 _ HB2.out).mono ?_
  rintro e w3 ⟨rfl, va3, vn3, vc3, tw3, st3⟩
  have e3 := st3.box HTW0.out (Nat.le_refl _) (Nat.lt_of_lt_of_le hbx HB2.out.size)
  have d3 : w3.cell? ⟨w.heap.size, 3, none⟩ = some (.string ⟨s.toArray⟩) := by
    rw [World.cell?_of_block (w := w2) e3]
    exact keep_below HB2.out c3
  have p3 := tw3.c0
  have h9 : (hdB hh).length ≤ 9 := by rw [EH.out]; exact hdFor_le _ _
  have ST3 := Lib.hid (st3.pre (HB0.out.trans (Below.mono HB2.out (Nat.le_of_lt hbx))))
  obtain ⟨ne, hne⟩ : ∃ ne, ne = ((out ++ hdB hh) ++ s).length := ⟨_, rfl⟩
  have HNE := Lib.hid hne
  have hsz2 : (out ++ hdB hh).length + s.length ≤ 1099511627776 := by rw [List.length_append]; omega
  have HSZ := Lib.hid hsz2
  clear hne hsz2 c0 c1 c2 c3 c4 st3 e3 h9 hss
  go_wp2_with fail
  go_region_law ((first | (refine step_append_tw (N := N) (P := P) (v := .slice va3 vn3 vc3) (u := .slice ua un uc) (out := out ++ hdB hh) (S := S) (d := d) (by rfl) _ _ 9 (by rfl) _ s (by rfl) (by rfl) (TW.blw tw3 (by repeat (first | with_reducible exact Below.refl _ _ | with_reducible refine Below.drew ?_))) (.inr ⟨rfl, rfl⟩) HSZ.out ne HNE.out ?_; intro a9 c9 w9 q0 qf qt qb)))
  all_goals
    have HQ := Lib.hid (bp_leaf (T := .mk 7 n x s a cap l) (E := hdB hh ++ s) (by show hd1 7 n x s _ = _; rw [hd1_7, EH.out]) (by show opn1 7 n = false; exact opn1_no (by decide) (by decide) (by decide)) (by rw [← List.append_assoc]; exact qt) (ST3.out.trans (qb.pre (by repeat (first | with_reducible exact Below.refl _ _ | with_reducible refine Below.drew ?_)))))
    clear qt qb q0 qf
    go_end0
    exact HQ.out
set_option maxHeartbeats 2000000 in
theorem tw_k8 {w : World} {N P vn vc un uc : Nat} {va ua : Option Addr} {out : List UInt8} {S : List GF} {d : Bool} (n x : Int) (s : List UInt8) (a : Option Addr) (cap : Nat) (l : List AT) (htw : TW w N P (.slice va vn vc) (.slice ua un uc) out S d) (hT : (AT.mk 8 n x s a cap l).In w N) (hz : Tz w) (hn : inW n) (hx : inW x) (hsz : out.length + s.length ≤ 1000000000) (hS : S.length ≤ 4194304) (hl : l.length ≤ 1048576) :
    Calls Tryd.prog 88 #[.pointer (some ⟨P, 0, none⟩), .agg #[.int .i64 8, .int .i64 n, .int .i64 x, .string ⟨s.toArray⟩, .slice a l.length cap]] w (BP N P w (.slice va vn vc) (.slice ua un uc) (.mk 8 n x s a cap l) out S d) := by
  have hb0 := vbox w (.cells #[.int .i64 8, .int .i64 n, .int .i64 x, .string ⟨s.toArray⟩, .slice a l.length cap] 29)
  have hTW := htw.blw hb0
  have hTz := hz.below hb0
  have hPl := htw.lt
  have HTI := Lib.hid (hT.blw hb0 (by have := htw.np; omega))
  have hbc : CellsAt (w.alloc (.cells #[.int .i64 8, .int .i64 n, .int .i64 x, .string ⟨s.toArray⟩, .slice a l.length cap] 29)) w.heap.size 0 (.mk 8 n x s a cap l) := by
    refine ⟨?_, ?_, ?_, ?_, ?_⟩ <;> simp [go_sem, AT.k, AT.n, AT.x, AT.s, AT.a, AT.l, AT.cap]
  have HTW0 := Lib.hid htw
  clear htw hT hz
  go_enter Tryd.func88, Tryd.ntmps88
  (go_upto_region 1 with fail)
  generalize hW1 : (w.alloc (.cells #[.int .i64 8, .int .i64 n, .int .i64 x, .string ⟨s.toArray⟩, .slice a l.length cap] 29)) = W1 at *
  have HB0 := Lib.hid hb0
  have hbx : w.heap.size < W1.heap.size := by rw [← hW1]; simp
  have HTW := Lib.hid hTW
  have HTZ := Lib.hid hTz
  have HBC := Lib.hid hbc
  obtain ⟨c0, c1, c2, c3, c4⟩ := hbc
  simp only [AT.k, AT.n, AT.x, AT.s, AT.a, AT.l, AT.cap, Nat.zero_add] at c0 c1 c2 c3 c4
  clear hb0 hW1 hTW hTz
  have CP := Lib.hid (fun (h : Hd) (h0 : -9223372036854775808 ≤ h.n) (W : World) (hb : Below W1.heap.size W1 W) => tw_puthead (HTW.out.blw hb) h h0 (HTZ.out.below hb) (by omega))
  have hss : (ByteArray.mk s.toArray).size = s.length := by simp [ByteArray.size]
  have HBX := Below.refl W1.heap.size W1
  obtain ⟨hh, ehh⟩ : ∃ hh, hh = hdFor 2 (s.length : Int) := ⟨_, rfl⟩
  have hh0 : -9223372036854775808 ≤ hh.n := by rw [ehh]; exact hdFor_low _ _ (by omega)
  have ch := fun W => headfor_impl 2 (s.length : Int) W (by omega)
  rw [← ehh] at ch
  have EH := Lib.hid ehh
  clear ehh
  go_wp2_with fail
  refine (ch _).mono ?_
  rintro e w2 ⟨rfl, hb2⟩
  have HB2 := Lib.hid (HBX.trans (hb2.mono HBX.size))
  clear ch hb2
  go_wp2_with fail
  refine (CP.out hh hh0 _ HB2.out).mono ?_
  rintro e w3 ⟨rfl, va3, vn3, vc3, tw3, st3⟩
  have e3 := st3.box HTW0.out (Nat.le_refl _) (Nat.lt_of_lt_of_le hbx HB2.out.size)
  have d3 : w3.cell? ⟨w.heap.size, 3, none⟩ = some (.string ⟨s.toArray⟩) := by
    rw [World.cell?_of_block (w := w2) e3]
    exact keep_below HB2.out c3
  have p3 := tw3.c0
  have h9 : (hdB hh).length ≤ 9 := by rw [EH.out]; exact hdFor_le _ _
  have ST3 := Lib.hid (st3.pre (HB0.out.trans (Below.mono HB2.out (Nat.le_of_lt hbx))))
  obtain ⟨ne, hne⟩ : ∃ ne, ne = ((out ++ hdB hh) ++ s).length := ⟨_, rfl⟩
  have HNE := Lib.hid hne
  have hsz2 : (out ++ hdB hh).length + s.length ≤ 1099511627776 := by rw [List.length_append]; omega
  have HSZ := Lib.hid hsz2
  clear hne hsz2 c0 c1 c2 c3 c4 st3 e3 h9 hss
  go_wp2_with fail
  go_region_law ((first | (refine step_append_tw (N := N) (P := P) (v := .slice va3 vn3 vc3) (u := .slice ua un uc) (out := out ++ hdB hh) (S := S) (d := d) (by rfl) _ _ 9 (by rfl) _ s (by rfl) (by rfl) (TW.blw tw3 (by repeat (first | with_reducible exact Below.refl _ _ | with_reducible refine Below.drew ?_))) (.inr ⟨rfl, rfl⟩) HSZ.out ne HNE.out ?_; intro a9 c9 w9 q0 qf qt qb)))
  all_goals
    have HQ := Lib.hid (bp_leaf (T := .mk 8 n x s a cap l) (E := hdB hh ++ s) (by show hd1 8 n x s _ = _; rw [hd1_8, EH.out]) (by show opn1 8 n = false; exact opn1_no (by decide) (by decide) (by decide)) (by rw [← List.append_assoc]; exact qt) (ST3.out.trans (qb.pre (by repeat (first | with_reducible exact Below.refl _ _ | with_reducible refine Below.drew ?_)))))
    clear qt qb q0 qf
    go_end0
    exact HQ.out
set_option maxHeartbeats 2000000 in
theorem tw_k9 {w : World} {N P vn vc un uc : Nat} {va ua : Option Addr} {out : List UInt8} {S : List GF} {d : Bool} (n x : Int) (s : List UInt8) (a : Option Addr) (cap : Nat) (l : List AT) (htw : TW w N P (.slice va vn vc) (.slice ua un uc) out S d) (hT : (AT.mk 9 n x s a cap l).In w N) (hz : Tz w) (hn : inW n) (hx : inW x) (hsz : out.length + s.length ≤ 1000000000) (hS : S.length ≤ 4194304) (hl : l.length ≤ 1048576) :
    Calls Tryd.prog 89 #[.pointer (some ⟨P, 0, none⟩), .agg #[.int .i64 9, .int .i64 n, .int .i64 x, .string ⟨s.toArray⟩, .slice a l.length cap]] w (BP N P w (.slice va vn vc) (.slice ua un uc) (.mk 9 n x s a cap l) out S d) := by
  have hb0 := vbox w (.cells #[.int .i64 9, .int .i64 n, .int .i64 x, .string ⟨s.toArray⟩, .slice a l.length cap] 29)
  have hTW := htw.blw hb0
  have hTz := hz.below hb0
  have hPl := htw.lt
  have HTI := Lib.hid (hT.blw hb0 (by have := htw.np; omega))
  have hbc : CellsAt (w.alloc (.cells #[.int .i64 9, .int .i64 n, .int .i64 x, .string ⟨s.toArray⟩, .slice a l.length cap] 29)) w.heap.size 0 (.mk 9 n x s a cap l) := by
    refine ⟨?_, ?_, ?_, ?_, ?_⟩ <;> simp [go_sem, AT.k, AT.n, AT.x, AT.s, AT.a, AT.l, AT.cap]
  have HTW0 := Lib.hid htw
  clear htw hT hz
  go_enter Tryd.func89, Tryd.ntmps89
  (go_upto_region 1 with fail)
  generalize hW1 : (w.alloc (.cells #[.int .i64 9, .int .i64 n, .int .i64 x, .string ⟨s.toArray⟩, .slice a l.length cap] 29)) = W1 at *
  have HB0 := Lib.hid hb0
  have hbx : w.heap.size < W1.heap.size := by rw [← hW1]; simp
  have HTW := Lib.hid hTW
  have HTZ := Lib.hid hTz
  have HBC := Lib.hid hbc
  obtain ⟨c0, c1, c2, c3, c4⟩ := hbc
  simp only [AT.k, AT.n, AT.x, AT.s, AT.a, AT.l, AT.cap, Nat.zero_add] at c0 c1 c2 c3 c4
  clear hb0 hW1 hTW hTz
  have CP := Lib.hid (fun (h : Hd) (h0 : -9223372036854775808 ≤ h.n) (W : World) (hb : Below W1.heap.size W1 W) => tw_puthead (HTW.out.blw hb) h h0 (HTZ.out.below hb) (by omega))
  have HBX := Below.refl W1.heap.size W1
  obtain ⟨hh, ehh⟩ : ∃ hh, hh = hdFor 4 (l.length : Int) := ⟨_, rfl⟩
  have hh0 : -9223372036854775808 ≤ hh.n := by rw [ehh]; exact hdFor_low _ _ (by omega)
  have ch := fun W => headfor_impl 4 (l.length : Int) W (by omega)
  rw [← ehh] at ch
  have EH := Lib.hid ehh
  clear ehh
  go_wp2_with fail
  refine (ch _).mono ?_
  rintro e w2 ⟨rfl, hb2⟩
  have HB2 := Lib.hid (HBX.trans (hb2.mono HBX.size))
  clear ch hb2
  go_wp2_with fail
  refine (CP.out hh hh0 _ HB2.out).mono ?_
  rintro e w3 ⟨rfl, va3, vn3, vc3, tw3, st3⟩
  have e3 := st3.box HTW0.out (Nat.le_refl _) (Nat.lt_of_lt_of_le hbx HB2.out.size)
  have hbc3 : CellsAt w3 w.heap.size 0 (.mk 9 n x s a cap l) := (HBC.out.keep (HB2.out.block _ hbx)).keep e3
  obtain ⟨d0, d1, d2, d3, d4⟩ := hbc3
  simp only [AT.k, AT.n, AT.x, AT.s, AT.a, AT.l, AT.cap, Nat.zero_add] at d0 d1 d2 d3 d4
  have hi3 : (AT.mk 9 n x s a cap l).In w3 N := (HTI.out.blw HB2.out (by have := HTW.out.np; have := HTW.out.lt; omega)).blw (st3.below (HTW.out.blw HB2.out)) HTW.out.np
  have ST3 := Lib.hid (st3.pre (HB0.out.trans (Below.mono HB2.out (Nat.le_of_lt hbx))))
  have ce := tw_elements (.mk 9 n x s a cap l) tw3 hi3 (by omega)
  clear c0 c1 c2 c3 c4 st3 e3 hi3 tw3
  go_wp2_with fail
  refine Calls.mono (by exact ce) ?_
  rintro e w4 ⟨rfl, ua4, un4, uc4, tw4, st4⟩
  have HQ : Hid (BP N P w (.slice va vn vc) (.slice ua un uc) (.mk 9 n x s a cap l) out S d (.returned (.tuple #[])) w4) := Lib.hid ⟨rfl, va3, vn3, vc3, ua4, un4, uc4, by
    show TW w4 N P _ _ (out ++ hd1 9 n x s l.length) (if opn1 9 n = true then S ++ [GF.new (.mk 9 n x s a cap l)] else S) d
    rw [opn1_9, if_pos rfl, hd1_9, ← EH.out]
    exact tw4, ST3.out.trans st4⟩
  clear tw4 st4 ce
  go_wp2
  go_end0
  exact HQ.out
set_option maxHeartbeats 2000000 in
theorem tw_k10 {w : World} {N P vn vc un uc : Nat} {va ua : Option Addr} {out : List UInt8} {S : List GF} {d : Bool} (n x : Int) (s : List UInt8) (a : Option Addr) (cap : Nat) (l : List AT) (htw : TW w N P (.slice va vn vc) (.slice ua un uc) out S d) (hT : (AT.mk 10 n x s a cap l).In w N) (hz : Tz w) (hn : inW n) (hx : inW x) (hsz : out.length + s.length ≤ 1000000000) (hS : S.length ≤ 4194304) (hl : l.length ≤ 1048576) :
    Calls Tryd.prog 90 #[.pointer (some ⟨P, 0, none⟩), .agg #[.int .i64 10, .int .i64 n, .int .i64 x, .string ⟨s.toArray⟩, .slice a l.length cap]] w (BP N P w (.slice va vn vc) (.slice ua un uc) (.mk 10 n x s a cap l) out S d) := by
  have hb0 := vbox w (.cells #[.int .i64 10, .int .i64 n, .int .i64 x, .string ⟨s.toArray⟩, .slice a l.length cap] 29)
  have hTW := htw.blw hb0
  have hTz := hz.below hb0
  have hPl := htw.lt
  have HTI := Lib.hid (hT.blw hb0 (by have := htw.np; omega))
  have hbc : CellsAt (w.alloc (.cells #[.int .i64 10, .int .i64 n, .int .i64 x, .string ⟨s.toArray⟩, .slice a l.length cap] 29)) w.heap.size 0 (.mk 10 n x s a cap l) := by
    refine ⟨?_, ?_, ?_, ?_, ?_⟩ <;> simp [go_sem, AT.k, AT.n, AT.x, AT.s, AT.a, AT.l, AT.cap]
  have HTW0 := Lib.hid htw
  clear htw hT hz
  go_enter Tryd.func90, Tryd.ntmps90
  (go_upto_region 1 with fail)
  generalize hW1 : (w.alloc (.cells #[.int .i64 10, .int .i64 n, .int .i64 x, .string ⟨s.toArray⟩, .slice a l.length cap] 29)) = W1 at *
  have HB0 := Lib.hid hb0
  have hbx : w.heap.size < W1.heap.size := by rw [← hW1]; simp
  have HTW := Lib.hid hTW
  have HTZ := Lib.hid hTz
  have HBC := Lib.hid hbc
  obtain ⟨c0, c1, c2, c3, c4⟩ := hbc
  simp only [AT.k, AT.n, AT.x, AT.s, AT.a, AT.l, AT.cap, Nat.zero_add] at c0 c1 c2 c3 c4
  clear hb0 hW1 hTW hTz
  have CP := Lib.hid (fun (h : Hd) (h0 : -9223372036854775808 ≤ h.n) (W : World) (hb : Below W1.heap.size W1 W) => tw_puthead (HTW.out.blw hb) h h0 (HTZ.out.below hb) (by omega))
  obtain ⟨h2, eh2⟩ : ∃ h2, h2 = l.length / 2 := ⟨_, rfl⟩
  have w64 : wrap64 ((l.length : Int) / 2) = (h2 : Int) := by unfold wrap64; omega
  have w65 : IntKind.i64.wrap ((l.length : Int) / 2) = (h2 : Int) := by rw [IntKind.wrap_i64]; omega
  have EH2 := Lib.hid eh2
  clear eh2
  have HBX := Below.refl W1.heap.size W1
  obtain ⟨hh, ehh⟩ : ∃ hh, hh = hdFor 5 (h2 : Int) := ⟨_, rfl⟩
  have hh0 : -9223372036854775808 ≤ hh.n := by rw [ehh]; exact hdFor_low _ _ (by omega)
  have ch := fun W => headfor_impl 5 (h2 : Int) W (by omega)
  rw [← ehh] at ch
  have EH := Lib.hid ehh
  clear ehh
  go_wp2_with fail
  refine (ch _).mono ?_
  rintro e w2 ⟨rfl, hb2⟩
  have HB2 := Lib.hid (HBX.trans (hb2.mono HBX.size))
  clear ch hb2
  go_wp2_with fail
  refine (CP.out hh hh0 _ HB2.out).mono ?_
  rintro e w3 ⟨rfl, va3, vn3, vc3, tw3, st3⟩
  have e3 := st3.box HTW0.out (Nat.le_refl _) (Nat.lt_of_lt_of_le hbx HB2.out.size)
  have hbc3 : CellsAt w3 w.heap.size 0 (.mk 10 n x s a cap l) := (HBC.out.keep (HB2.out.block _ hbx)).keep e3
  obtain ⟨d0, d1, d2, d3, d4⟩ := hbc3
  simp only [AT.k, AT.n, AT.x, AT.s, AT.a, AT.l, AT.cap, Nat.zero_add] at d0 d1 d2 d3 d4
  have hi3 : (AT.mk 10 n x s a cap l).In w3 N := (HTI.out.blw HB2.out (by have := HTW.out.np; have := HTW.out.lt; omega)).blw (st3.below (HTW.out.blw HB2.out)) HTW.out.np
  have ST3 := Lib.hid (st3.pre (HB0.out.trans (Below.mono HB2.out (Nat.le_of_lt hbx))))
  have ce := tw_elements (.mk 10 n x s a cap l) tw3 hi3 (by omega)
  clear c0 c1 c2 c3 c4 st3 e3 hi3 tw3
  go_wp2_with fail
  refine Calls.mono (by exact ce) ?_
  rintro e w4 ⟨rfl, ua4, un4, uc4, tw4, st4⟩
  have HQ : Hid (BP N P w (.slice va vn vc) (.slice ua un uc) (.mk 10 n x s a cap l) out S d (.returned (.tuple #[])) w4) := Lib.hid ⟨rfl, va3, vn3, vc3, ua4, un4, uc4, by
    show TW w4 N P _ _ (out ++ hd1 10 n x s l.length) (if opn1 10 n = true then S ++ [GF.new (.mk 10 n x s a cap l)] else S) d
    rw [opn1_10, if_pos rfl, hd1_10, ← EH2.out, ← EH.out]
    exact tw4, ST3.out.trans st4⟩
  clear tw4 st4 ce
  go_wp2
  go_end0
  exact HQ.out
set_option maxHeartbeats 2000000 in
theorem tw_k11 {w : World} {N P vn vc un uc : Nat} {va ua : Option Addr} {out : List UInt8} {S : List GF} {d : Bool} (n x : Int) (s : List UInt8) (a : Option Addr) (cap : Nat) (l : List AT) (htw : TW w N P (.slice va vn vc) (.slice ua un uc) out S d) (hT : (AT.mk 11 n x s a cap l).In w N) (hz : Tz w) (hn : inW n) (hx : inW x) (hsz : out.length + s.length ≤ 1000000000) (hS : S.length ≤ 4194304) (hl : l.length ≤ 1048576) :
    Calls Tryd.prog 91 #[.pointer (some ⟨P, 0, none⟩), .agg #[.int .i64 11, .int .i64 n, .int .i64 x, .string ⟨s.toArray⟩, .slice a l.length cap]] w (BP N P w (.slice va vn vc) (.slice ua un uc) (.mk 11 n x s a cap l) out S d) := by
  have hb0 := vbox w (.cells #[.int .i64 11, .int .i64 n, .int .i64 x, .string ⟨s.toArray⟩, .slice a l.length cap] 29)
  have hTW := htw.blw hb0
  have hTz := hz.below hb0
  have hPl := htw.lt
  have HTI := Lib.hid (hT.blw hb0 (by have := htw.np; omega))
  have hbc : CellsAt (w.alloc (.cells #[.int .i64 11, .int .i64 n, .int .i64 x, .string ⟨s.toArray⟩, .slice a l.length cap] 29)) w.heap.size 0 (.mk 11 n x s a cap l) := by
    refine ⟨?_, ?_, ?_, ?_, ?_⟩ <;> simp [go_sem, AT.k, AT.n, AT.x, AT.s, AT.a, AT.l, AT.cap]
  have HTW0 := Lib.hid htw
  clear htw hT hz
  go_enter Tryd.func91, Tryd.ntmps91
  (go_upto_region 1 with fail)
  generalize hW1 : (w.alloc (.cells #[.int .i64 11, .int .i64 n, .int .i64 x, .string ⟨s.toArray⟩, .slice a l.length cap] 29)) = W1 at *
  have HB0 := Lib.hid hb0
  have hbx : w.heap.size < W1.heap.size := by rw [← hW1]; simp
  have HTW := Lib.hid hTW
  have HTZ := Lib.hid hTz
  have HBC := Lib.hid hbc
  obtain ⟨c0, c1, c2, c3, c4⟩ := hbc
  simp only [AT.k, AT.n, AT.x, AT.s, AT.a, AT.l, AT.cap, Nat.zero_add] at c0 c1 c2 c3 c4
  clear hb0 hW1 hTW hTz
  have CP := Lib.hid (fun (h : Hd) (h0 : -9223372036854775808 ≤ h.n) (W : World) (hb : Below W1.heap.size W1 W) => tw_puthead (HTW.out.blw hb) h h0 (HTZ.out.below hb) (by omega))
  by_cases hr : 0 ≤ n ∧ n ≤ 1000000000000000
  case neg =>
    have HR := Lib.hid hr
    have HQ := Lib.hid (bp_none (T := .mk 11 n x s a cap l) (by show hd1 11 n x s _ = []; rw [hd1_11, if_neg HR.out]) (by show opn1 11 n = false; rw [opn1_11, decide_eq_false HR.out]) HTW.out (Stp.of_below HB0.out))
    by_cases hn0 : n < 0
    · clear hr
      go_wp2
      go_end0
      exact HQ.out
    · have hn1 : (1000000000000000 : Int) < n := by omega
      clear hr
      go_wp2
      go_end0
      exact HQ.out
  have HR := Lib.hid hr
  obtain ⟨r1, r2⟩ := hr
  have r3 : ¬ n < 0 := by omega
  have r4 : ¬ (1000000000000000 : Int) < n := by omega
  have HBX := Below.refl W1.heap.size W1
  obtain ⟨hh, ehh⟩ : ∃ hh, hh = hdFor 6 n := ⟨_, rfl⟩
  have hh0 : -9223372036854775808 ≤ hh.n := by rw [ehh]; exact hdFor_low _ _ (by omega)
  have ch := fun W => headfor_impl 6 n W (by omega)
  rw [← ehh] at ch
  have EH := Lib.hid ehh
  clear ehh
  go_wp2_with fail
  refine (ch _).mono ?_
  rintro e w2 ⟨rfl, hb2⟩
  have HB2 := Lib.hid (HBX.trans (hb2.mono HBX.size))
  clear ch hb2
  go_wp2_with fail
  refine (CP.out hh hh0 _ HB2.out).mono ?_
  rintro e w3 ⟨rfl, va3, vn3, vc3, tw3, st3⟩
  have e3 := st3.box HTW0.out (Nat.le_refl _) (Nat.lt_of_lt_of_le hbx HB2.out.size)
  have hbc3 : CellsAt w3 w.heap.size 0 (.mk 11 n x s a cap l) := (HBC.out.keep (HB2.out.block _ hbx)).keep e3
  obtain ⟨d0, d1, d2, d3, d4⟩ := hbc3
  simp only [AT.k, AT.n, AT.x, AT.s, AT.a, AT.l, AT.cap, Nat.zero_add] at d0 d1 d2 d3 d4
  have hi3 : (AT.mk 11 n x s a cap l).In w3 N := (HTI.out.blw HB2.out (by have := HTW.out.np; have := HTW.out.lt; omega)).blw (st3.below (HTW.out.blw HB2.out)) HTW.out.np
  have ST3 := Lib.hid (st3.pre (HB0.out.trans (Below.mono HB2.out (Nat.le_of_lt hbx))))
  have ce := tw_elements (.mk 11 n x s a cap l) tw3 hi3 (by omega)
  clear c0 c1 c2 c3 c4 st3 e3 hi3 tw3
  go_wp2_with fail
  refine Calls.mono (by exact ce) ?_
  rintro e w4 ⟨rfl, ua4, un4, uc4, tw4, st4⟩
  have HQ : Hid (BP N P w (.slice va vn vc) (.slice ua un uc) (.mk 11 n x s a cap l) out S d (.returned (.tuple #[])) w4) := Lib.hid ⟨rfl, va3, vn3, vc3, ua4, un4, uc4, by
    show TW w4 N P _ _ (out ++ hd1 11 n x s l.length) (if opn1 11 n = true then S ++ [GF.new (.mk 11 n x s a cap l)] else S) d
    rw [opn1_11, decide_eq_true HR.out, if_pos rfl, hd1_11, if_pos HR.out, ← EH.out]
    exact tw4, ST3.out.trans st4⟩
  clear tw4 st4 ce
  go_wp2
  go_end0
  exact HQ.out
end Go.Proofs.YtilgncebhgplaaaDoor
