import Derived.Test.YtilgncebhgplaaaDoorG12
import Derived.Test.YtilgncebhgplaaaDoorG5
import Derived.Test.YtilgncebhgplaaaDoorG1
import Derived.Test.YtilgncebhgplaaaDoorG6
import Derived.Test.YtilgncebhgplaaaDoorG7
/- The bits of a number in binary: FltBits and BitsFlt of both sides. -/
namespace Go.Proofs.YtilgncebhgplaaaDoor
open Go.RowKit
set_option maxRecDepth 100000
theorem fltOk_neg (m e : Int) : fltOk (-m) e = fltOk m e := by
  have h : ∀ m, fltOk m e = true → fltOk (-m) e = true := fun m h => by
    by_cases hm : m = 0
    · subst hm; simpa using h
    · obtain ⟨h1, h2, h3, _, h5⟩ := fltOk_range h
      exact fltOk_of (by rw [Int.neg_tmod]; have := (h5 hm).1; omega) h1 (by rw [Int.natAbs_neg]; exact h3) (by rw [Int.natAbs_neg]; exact (h5 hm).2)
  rw [Bool.eq_iff_iff]
  exact ⟨fun k => by have := h _ k; rwa [Int.neg_neg] at this, h m⟩
theorem fltBits_pos {m e : Int} (h : fltOk m e = true) (hm : ¬ m < 0) : fltBits m e = 65536 * (e + 16) + m := by unfold fltBits; rw [if_pos h, if_neg hm]
theorem fltBits_neg {m e : Int} (h : fltOk m e = true) (hm : m < 0) : fltBits m e = 16777216 + 65536 * (e + 16) - m := by unfold fltBits; rw [if_pos h, if_pos hm]
def inW (n : Int) : Prop := -9223372036854775808 ≤ n ∧ n ≤ 9223372036854775807
set_option maxHeartbeats 1000000 in
theorem fltbits_pos (m e : Int) (w : World) (hm : ¬ m < 0) (hw : inW m) (he : inW e) : Calls Tryd.prog 97 #[.agg #[.int .i64 m, .int .i64 e]] w fun r w' => r = .returned (.int .i64 (fltBits m e)) ∧ Below w.heap.size w w' := by
  have ck := fun w1 => fltok_impl m e w1 hw.1 hw.2 he.1 he.2
  have hb0 := Lib.hid (fbox w (.cells #[.int .i64 m, .int .i64 e] 56))
  cases hok : fltOk m e
  · rw [fltBits_no hok]
    rw [hok] at ck
    clear hw he hok
    go_enter Tryd.func97, Tryd.ntmps97
    go_wp2_with fail
    refine (ck _).mono ?_
    rintro r w1 ⟨rfl, hb1⟩
    go_wp2
    go_ret
    exact ⟨rfl, hb0.out.trans (hb1.mono (by simp))⟩
  · rw [fltBits_pos hok hm]
    rw [hok] at ck
    obtain ⟨r0, r1, r2, _⟩ := fltOk_range hok
    have m1 : m ≤ 65535 := by omega
    have m0 : 0 ≤ m := by omega
    clear hw he hok r2
    go_enter Tryd.func97, Tryd.ntmps97
    go_wp2_with fail
    refine (ck _).mono ?_
    rintro r w1 ⟨rfl, hb1⟩
    have BB := Lib.hid (hb0.out.trans (hb1.mono (by simp)))
    obtain ⟨hcl, hfz⟩ := fcell hb1
    have d0 : w1.cell? ⟨w.heap.size, 0, none⟩ = some (.int .i64 m) := (hcl _ _ (by simp)).trans (by simp [go_sem])
    have d1 : w1.cell? ⟨w.heap.size, 1, none⟩ = some (.int .i64 e) := (hcl _ _ (by simp)).trans (by simp [go_sem])
    clear hcl hfz hb1
    go_wp2
    go_ret
    exact ⟨ret_int (by omega), BB.out⟩
set_option maxHeartbeats 1000000 in
theorem fltbits_impl (m e : Int) (w : World) (hw : inW m) (he : inW e) : Calls Tryd.prog 97 #[.agg #[.int .i64 m, .int .i64 e]] w fun r w' => r = .returned (.int .i64 (fltBits m e)) ∧ Below w.heap.size w w' := by
  by_cases hm : m < 0
  · have ck := fun w1 => fltok_impl m e w1 hw.1 hw.2 he.1 he.2
    have hb0 := Lib.hid (fbox w (.cells #[.int .i64 m, .int .i64 e] 56))
    cases hok : fltOk m e
    · rw [fltBits_no hok]
      rw [hok] at ck
      clear hw he hok
      go_enter Tryd.func97, Tryd.ntmps97
      go_wp2_with fail
      refine (ck _).mono ?_
      rintro r w1 ⟨rfl, hb1⟩
      go_wp2
      go_ret
      exact ⟨rfl, hb0.out.trans (hb1.mono (by simp))⟩
    · have cr := fun w1 => fltbits_pos (-m) e w1 (by omega) (by obtain ⟨_, _, r2, _⟩ := fltOk_range hok; unfold inW; omega) he
      have e1 : fltBits m e = 16777216 + fltBits (-m) e := by
        rw [fltBits_neg hok hm, fltBits_pos (by rw [fltOk_neg]; exact hok) (by omega)]; omega
      have hbd : 0 ≤ fltBits (-m) e ∧ fltBits (-m) e < 33554432 := by
        have := bits_back (m := -m) (e := e) (by rw [fltOk_neg]; exact hok)
        exact ⟨this.1, this.2.1⟩
      rw [e1]
      generalize fltBits (-m) e = N at *
      obtain ⟨n0, n1⟩ := hbd
      rw [hok] at ck
      obtain ⟨r0, r1, r2, _⟩ := fltOk_range hok
      have m1 : -65535 ≤ m := by omega
      clear hw he hok r2 e1
      go_enter Tryd.func97, Tryd.ntmps97
      go_wp2_with fail
      refine (ck _).mono ?_
      rintro r w1 ⟨rfl, hb1⟩
      have BB := Lib.hid (hb0.out.trans (hb1.mono (by simp)))
      obtain ⟨hcl, hfz⟩ := fcell hb1
      have d0 : w1.cell? ⟨w.heap.size, 0, none⟩ = some (.int .i64 m) := (hcl _ _ (by simp)).trans (by simp [go_sem])
      have d1 : w1.cell? ⟨w.heap.size, 1, none⟩ = some (.int .i64 e) := (hcl _ _ (by simp)).trans (by simp [go_sem])
      clear hcl hfz hb1
      go_wp2_with fail
      refine (cr _).mono ?_
      rintro r w3 ⟨rfl, hb3⟩
      go_wp2
      go_ret
      exact ⟨rfl, BB.out.trans (hb3.mono BB.out.size)⟩
  · exact fltbits_pos m e w hm hw he
set_option maxHeartbeats 1000000 in
theorem fltbits_spec (m e : Int) (w : World) (hw : inW m) (he : inW e) : Calls Tryd.prog 40 #[.agg #[.int .i64 m, .int .i64 e]] w fun r w' => r = .returned (.int .i64 (fltBits m e)) ∧ Below w.heap.size w w' := by
  have ck := fun w1 => fltok_spec m e w1 hw.1 hw.2 he.1 he.2
  have hb0 := Lib.hid (fbox w (.cells #[.int .i64 m, .int .i64 e] 56))
  cases hok : fltOk m e
  · rw [fltBits_no hok]
    rw [hok] at ck
    clear hw he hok
    go_enter Tryd.func40, Tryd.ntmps40
    go_wp2_with fail
    refine (ck _).mono ?_
    rintro r w1 ⟨rfl, hb1⟩
    go_wp2
    go_ret
    exact ⟨rfl, hb0.out.trans (hb1.mono (by simp))⟩
  · obtain ⟨r0, r1, r2, _⟩ := fltOk_range hok
    have m0 : -65535 ≤ m := by omega
    have m1 : m ≤ 65535 := by omega
    by_cases hm : m < 0
    · rw [fltBits_neg hok hm]
      rw [hok] at ck
      clear hw he hok r2
      go_enter Tryd.func40, Tryd.ntmps40
      go_wp2_with fail
      refine (ck _).mono ?_
      rintro r w1 ⟨rfl, hb1⟩
      have BB := Lib.hid (hb0.out.trans (hb1.mono (by simp)))
      obtain ⟨hcl, hfz⟩ := fcell hb1
      have d0 : w1.cell? ⟨w.heap.size, 0, none⟩ = some (.int .i64 m) := (hcl _ _ (by simp)).trans (by simp [go_sem])
      have d1 : w1.cell? ⟨w.heap.size, 1, none⟩ = some (.int .i64 e) := (hcl _ _ (by simp)).trans (by simp [go_sem])
      clear hcl hfz hb1
      go_wp2
      go_ret
      exact ⟨ret_int (by omega), BB.out⟩
    · rw [fltBits_pos hok hm]
      rw [hok] at ck
      clear hw he hok r2
      go_enter Tryd.func40, Tryd.ntmps40
      go_wp2_with fail
      refine (ck _).mono ?_
      rintro r w1 ⟨rfl, hb1⟩
      have BB := Lib.hid (hb0.out.trans (hb1.mono (by simp)))
      obtain ⟨hcl, hfz⟩ := fcell hb1
      have d0 : w1.cell? ⟨w.heap.size, 0, none⟩ = some (.int .i64 m) := (hcl _ _ (by simp)).trans (by simp [go_sem])
      have d1 : w1.cell? ⟨w.heap.size, 1, none⟩ = some (.int .i64 e) := (hcl _ _ (by simp)).trans (by simp [go_sem])
      clear hcl hfz hb1
      go_wp2
      go_ret
      exact ⟨ret_int (by omega), BB.out⟩
/-- what BitsFlt hands on -/
def IsBits (n M E : Int) (ok : Bool) : Prop := if 0 ≤ n ∧ n ≤ 33554431 then IsFlt (bitsM n) (bitsE n) M E ok else M = 0 ∧ E = 0 ∧ ok = false
theorem isBits_uniq {n M E M' E' : Int} {a b : Bool} (h : IsBits n M E a) (k : IsBits n M' E' b) : M' = M ∧ E' = E ∧ b = a := by
  unfold IsBits at h k
  split at h
  · rename_i g
    rw [if_pos g] at k
    exact isFlt_uniq h k
  · rename_i g
    rw [if_neg g] at k
    obtain ⟨rfl, rfl, rfl⟩ := h
    exact k
def BitsPost (n : Int) (w : World) (r : Ending) (w' : World) : Prop := ∃ (M E : Int) (ok : Bool), r = .returned (.tuple #[.agg #[.int .i64 M, .int .i64 E], .bool ok]) ∧ IsBits n M E ok ∧ Below w.heap.size w w'
end Go.Proofs.YtilgncebhgplaaaDoor
/- What stays of boxes while nothing elder turns; what a look-up hands on. -/
namespace Go.Proofs.YtilgncebhgplaaaDoor
open Go.RowKit
set_option maxRecDepth 100000
theorem CellsAt.blw {w w' : World} {b o : Nat} {T : AT} (h : CellsAt w b o T) (hb : Below w.heap.size w w') : CellsAt w' b o T := ⟨keep_below hb h.c0, keep_below hb h.c1, keep_below hb h.c2, keep_below hb h.c3, keep_below hb h.c4⟩
/-- nothing elder has turned -/
structure Rl (W0 W : World) : Prop where
  b : Below W0.heap.size W0 W
  z : W0.heap.size ≤ W.heap.size
theorem Rl.refl (W0 : World) : Rl W0 W0 := ⟨Below.refl _ _, Nat.le_refl _⟩
theorem Rl.drew {W0 W : World} (h : Rl W0 W) : Rl W0 W.drew := ⟨h.b.drew, h.z⟩
theorem Rl.alloc {W0 W : World} (h : Rl W0 W) (o : Obj) : Rl W0 (W.alloc o) := ⟨h.b.alloc h.z o, by have := h.z; simp; omega⟩
theorem Rl.set {W0 W : World} (h : Rl W0 W) {B o : Nat} (hB : W0.heap.size ≤ B) (u : Value) : Rl W0 (W.setCell ⟨B, o, none⟩ u) := ⟨h.b.setCell (p := ⟨B, o, none⟩) hB u, by have := h.z; simpa [World.setCell] using this⟩
theorem Rl.below {W0 W W' : World} (h : Rl W0 W) (hb : Below W.heap.size W W') : Rl W0 W' := ⟨h.b.trans (hb.mono h.z), Nat.le_trans h.z hb.size⟩
theorem CellsAt.blw0 {w w' : World} {b o : Nat} {T : AT} (h : CellsAt w b o T) (hb : Rl w w') : CellsAt w' b o T := h.blw hb.b
/-- a box of a value -/
structure VC (w : World) (b : Nat) (k n x : Int) (s : ByteArray) (a : Option Addr) (len cap : Nat) : Prop where
  c0 : w.cell? ⟨b, 0, none⟩ = some (.int .i64 k)
  c1 : w.cell? ⟨b, 1, none⟩ = some (.int .i64 n)
  c2 : w.cell? ⟨b, 2, none⟩ = some (.int .i64 x)
  c3 : w.cell? ⟨b, 3, none⟩ = some (.string s)
  c4 : w.cell? ⟨b, 4, none⟩ = some (.slice a len cap)
theorem VC.blw {w w' : World} {b : Nat} {k n x : Int} {s : ByteArray} {a : Option Addr} {len cap : Nat} (h : VC w b k n x s a len cap) (hb : Below w.heap.size w w') : VC w' b k n x s a len cap := ⟨keep_below hb h.c0, keep_below hb h.c1, keep_below hb h.c2, keep_below hb h.c3, keep_below hb h.c4⟩
theorem vcbox (w : World) (k n x : Int) (s : ByteArray) (a : Option Addr) (len cap : Nat) (k2 n2 x2 : Int) (s2 : ByteArray) (a2 : Option Addr) (len2 cap2 : Nat) (t : TypeId) : VC ((w.alloc (.cells #[.int .i64 k, .int .i64 n, .int .i64 x, .string s, .slice a len cap] t)).alloc (.cells #[.int .i64 k2, .int .i64 n2, .int .i64 x2, .string s2, .slice a2 len2 cap2] t)) w.heap.size k n x s a len cap ∧ VC ((w.alloc (.cells #[.int .i64 k, .int .i64 n, .int .i64 x, .string s, .slice a len cap] t)).alloc (.cells #[.int .i64 k2, .int .i64 n2, .int .i64 x2, .string s2, .slice a2 len2 cap2] t)) (w.heap.size + 1) k2 n2 x2 s2 a2 len2 cap2 := by
  refine ⟨⟨?_, ?_, ?_, ?_, ?_⟩, ⟨?_, ?_, ?_, ?_, ?_⟩⟩ <;> simp [go_sem]
theorem len_le_sz (T : AT) : T.l.length ≤ T.pt.sz := by obtain ⟨k, n, x, s, a, cap, l⟩ := T; simp [AT.pt, PT.sz, AT.l]; omega
def zeroPT : PT := .mk 0 0 0 [] []
/-- what Lookup hands on -/
def LookPost (w : World) (r : PT × Bool) (e : Ending) (w' : World) : Prop := ∃ X : AT, X.pt = r.1 ∧ e = .returned (.tuple #[X.val, .bool r.2]) ∧ X.Own w' w.heap.size ∧ X.blks.Nodup ∧ Below w.heap.size w w'
def zeroAT : AT := .mk 0 0 0 [] none 0 []
theorem zeroAT_pt : zeroAT.pt = zeroPT := by simp [zeroAT, zeroPT, AT.pt, AT.ptL]
theorem zbox_cells {w W : World} {z : Nat} (hz : VC w z 0 0 0 ⟨#[]⟩ none 0 0) (hf : ∀ o, w.frozen? ⟨z, o, none⟩ = false) (hb : Below w.heap.size w W) : VC W z 0 0 0 ⟨#[]⟩ none 0 0 ∧ ∀ o, W.frozen? ⟨z, o, none⟩ = false :=
  ⟨hz.blw hb, fun o => by rw [frozen_blk' (hb.block z (cell_lt hz.c0))]; exact hf o⟩
theorem Rl.five {W0 W : World} {B : Nat} {v0 v1 v2 v3 v4 : Value} (h : Rl W0 W) (hB : W0.heap.size ≤ B) : Rl W0 (((((W.setCell ⟨B, 0, none⟩ v0).setCell ⟨B, 1, none⟩ v1).setCell ⟨B, 2, none⟩ v2).setCell ⟨B, 3, none⟩ v3).setCell ⟨B, 4, none⟩ v4) := ((((h.set hB v0).set hB v1).set hB v2).set hB v3).set hB v4
theorem leaf_early {W0 W : World} {B N : Nat} {G : AT} (hR : Rl W0 W) (hB : W0.heap.size ≤ B) (hN : W0.heap.size ≤ N) (hBN : B < N) (hO : G.Own W N) (hnd : G.blks.Nodup) (z0 : W.cell? ⟨B, 0, none⟩ = some (.int .i64 0)) (z1 : W.cell? ⟨B, 1, none⟩ = some (.int .i64 0)) (z2 : W.cell? ⟨B, 2, none⟩ = some (.int .i64 0)) (z3 : W.cell? ⟨B, 3, none⟩ = some (.string ⟨#[]⟩)) (z4 : W.cell? ⟨B, 4, none⟩ = some (.slice none 0 0)) :
    G.Own (((((W.setCell ⟨B, 0, none⟩ (.int .i64 G.k)).setCell ⟨B, 1, none⟩ (.int .i64 G.n)).setCell ⟨B, 2, none⟩ (.int .i64 G.x)).setCell ⟨B, 3, none⟩ (.string ⟨G.s.toArray⟩)).setCell ⟨B, 4, none⟩ (.slice G.a G.l.length G.cap)) W0.heap.size ∧ G.blks.Nodup ∧ B ∉ G.blks ∧ W0.heap.size ≤ B ∧ Rl W0 (((((W.setCell ⟨B, 0, none⟩ (.int .i64 G.k)).setCell ⟨B, 1, none⟩ (.int .i64 G.n)).setCell ⟨B, 2, none⟩ (.int .i64 G.x)).setCell ⟨B, 3, none⟩ (.string ⟨G.s.toArray⟩)).setCell ⟨B, 4, none⟩ (.slice G.a G.l.length G.cap)) ∧ (((((W.setCell ⟨B, 0, none⟩ (.int .i64 G.k)).setCell ⟨B, 1, none⟩ (.int .i64 G.n)).setCell ⟨B, 2, none⟩ (.int .i64 G.x)).setCell ⟨B, 3, none⟩ (.string ⟨G.s.toArray⟩)).setCell ⟨B, 4, none⟩ (.slice G.a G.l.length G.cap)).cell? ⟨B, 0, none⟩ = some (.int .i64 G.k) ∧ (((((W.setCell ⟨B, 0, none⟩ (.int .i64 G.k)).setCell ⟨B, 1, none⟩ (.int .i64 G.n)).setCell ⟨B, 2, none⟩ (.int .i64 G.x)).setCell ⟨B, 3, none⟩ (.string ⟨G.s.toArray⟩)).setCell ⟨B, 4, none⟩ (.slice G.a G.l.length G.cap)).cell? ⟨B, 1, none⟩ = some (.int .i64 G.n) ∧ (((((W.setCell ⟨B, 0, none⟩ (.int .i64 G.k)).setCell ⟨B, 1, none⟩ (.int .i64 G.n)).setCell ⟨B, 2, none⟩ (.int .i64 G.x)).setCell ⟨B, 3, none⟩ (.string ⟨G.s.toArray⟩)).setCell ⟨B, 4, none⟩ (.slice G.a G.l.length G.cap)).cell? ⟨B, 2, none⟩ = some (.int .i64 G.x) ∧ (((((W.setCell ⟨B, 0, none⟩ (.int .i64 G.k)).setCell ⟨B, 1, none⟩ (.int .i64 G.n)).setCell ⟨B, 2, none⟩ (.int .i64 G.x)).setCell ⟨B, 3, none⟩ (.string ⟨G.s.toArray⟩)).setCell ⟨B, 4, none⟩ (.slice G.a G.l.length G.cap)).cell? ⟨B, 3, none⟩ = some (.string ⟨G.s.toArray⟩) ∧ (((((W.setCell ⟨B, 0, none⟩ (.int .i64 G.k)).setCell ⟨B, 1, none⟩ (.int .i64 G.n)).setCell ⟨B, 2, none⟩ (.int .i64 G.x)).setCell ⟨B, 3, none⟩ (.string ⟨G.s.toArray⟩)).setCell ⟨B, 4, none⟩ (.slice G.a G.l.length G.cap)).cell? ⟨B, 4, none⟩ = some (.slice G.a G.l.length G.cap) := by
  refine ⟨(AT.Own.set (AT.Own.set (AT.Own.set (AT.Own.set (AT.Own.set hO hBN) hBN) hBN) hBN) hBN).base hN, hnd, fun hm => by have := (hO.lt B hm).1; omega, hB, hR.five hB, ?_, ?_, ?_, ?_, ?_⟩ <;> simp [go_sem, z0, z1, z2, z3, z4]
theorem leaf_last {W0 W : World} {N : Nat} {G : AT} {ty : TypeId} (hR : Rl W0 W) (hN : W0.heap.size ≤ N) (hO : G.Own W N) (hnd : G.blks.Nodup) :
    G.Own (W.alloc (.cells #[.int .i64 G.k, .int .i64 G.n, .int .i64 G.x, .string ⟨G.s.toArray⟩, .slice G.a G.l.length G.cap] ty)) W0.heap.size ∧ G.blks.Nodup ∧ W.heap.size ∉ G.blks ∧ W0.heap.size ≤ W.heap.size ∧ Rl W0 (W.alloc (.cells #[.int .i64 G.k, .int .i64 G.n, .int .i64 G.x, .string ⟨G.s.toArray⟩, .slice G.a G.l.length G.cap] ty)) ∧ (W.alloc (.cells #[.int .i64 G.k, .int .i64 G.n, .int .i64 G.x, .string ⟨G.s.toArray⟩, .slice G.a G.l.length G.cap] ty)).cell? ⟨W.heap.size, 0, none⟩ = some (.int .i64 G.k) ∧ (W.alloc (.cells #[.int .i64 G.k, .int .i64 G.n, .int .i64 G.x, .string ⟨G.s.toArray⟩, .slice G.a G.l.length G.cap] ty)).cell? ⟨W.heap.size, 1, none⟩ = some (.int .i64 G.n) ∧ (W.alloc (.cells #[.int .i64 G.k, .int .i64 G.n, .int .i64 G.x, .string ⟨G.s.toArray⟩, .slice G.a G.l.length G.cap] ty)).cell? ⟨W.heap.size, 2, none⟩ = some (.int .i64 G.x) ∧ (W.alloc (.cells #[.int .i64 G.k, .int .i64 G.n, .int .i64 G.x, .string ⟨G.s.toArray⟩, .slice G.a G.l.length G.cap] ty)).cell? ⟨W.heap.size, 3, none⟩ = some (.string ⟨G.s.toArray⟩) ∧ (W.alloc (.cells #[.int .i64 G.k, .int .i64 G.n, .int .i64 G.x, .string ⟨G.s.toArray⟩, .slice G.a G.l.length G.cap] ty)).cell? ⟨W.heap.size, 4, none⟩ = some (.slice G.a G.l.length G.cap) :=
  ⟨(hO.blw (vbox W _)).base hN, hnd, fun hm => by have := (hO.lt _ hm).2; omega, hR.z, hR.alloc _, vcells5 W G ty⟩
theorem keep_alloc {w : World} {o : Obj} {p : Addr} {v : Value} (h : w.cell? p = some v) : (w.alloc o).cell? p = some v := keep_below (vbox w o) h
theorem below_alloc' {w0 w : World} {o : Obj} (h : Below w0.heap.size w0 w) : Below w0.heap.size w0 (w.alloc o) := h.alloc h.size o
theorem own_alloc {w : World} {o : Obj} {B : Nat} {T : AT} (h : T.Own w B) : T.Own (w.alloc o) B := h.blw (vbox w o)
theorem mbox {w w' : World} {ty : TypeId} (hb : Below (w.alloc (.cells #[.int .i64 0, .int .i64 0, .int .i64 0, .string ⟨#[]⟩, .slice none 0 0] ty)).heap.size (w.alloc (.cells #[.int .i64 0, .int .i64 0, .int .i64 0, .string ⟨#[]⟩, .slice none 0 0] ty)) w') : w'.cell? ⟨w.heap.size, 0, none⟩ = some (.int .i64 0) ∧ w'.cell? ⟨w.heap.size, 1, none⟩ = some (.int .i64 0) ∧ w'.cell? ⟨w.heap.size, 2, none⟩ = some (.int .i64 0) ∧ w'.cell? ⟨w.heap.size, 3, none⟩ = some (.string ⟨#[]⟩) ∧ w'.cell? ⟨w.heap.size, 4, none⟩ = some (.slice none 0 0) ∧ ∀ o, w'.frozen? ⟨w.heap.size, o, none⟩ = false := by
  refine ⟨?_, ?_, ?_, ?_, ?_, fun o => (hb.frozen (by simp)).trans (by simp [go_sem])⟩ <;> exact (hb.cell (by simp)).trans (by simp [go_sem])
theorem mboxD {w w' : World} {ty : TypeId} (hb : Below (w.alloc (.cells #[.int .i64 0, .int .i64 0, .int .i64 0, .string ⟨#[]⟩, .slice none 0 0] ty)).drew.heap.size (w.alloc (.cells #[.int .i64 0, .int .i64 0, .int .i64 0, .string ⟨#[]⟩, .slice none 0 0] ty)).drew w') : w'.cell? ⟨w.heap.size, 0, none⟩ = some (.int .i64 0) ∧ w'.cell? ⟨w.heap.size, 1, none⟩ = some (.int .i64 0) ∧ w'.cell? ⟨w.heap.size, 2, none⟩ = some (.int .i64 0) ∧ w'.cell? ⟨w.heap.size, 3, none⟩ = some (.string ⟨#[]⟩) ∧ w'.cell? ⟨w.heap.size, 4, none⟩ = some (.slice none 0 0) ∧ ∀ o, w'.frozen? ⟨w.heap.size, o, none⟩ = false := by
  refine ⟨?_, ?_, ?_, ?_, ?_, fun o => (hb.frozen (by simp)).trans (by simp [go_sem])⟩ <;> exact (hb.cell (by simp)).trans (by simp [go_sem])
theorem mboxK {w w' : World} {B : Nat} (hb : Below w.heap.size w w') (z0 : w.cell? ⟨B, 0, none⟩ = some (.int .i64 0)) (z1 : w.cell? ⟨B, 1, none⟩ = some (.int .i64 0)) (z2 : w.cell? ⟨B, 2, none⟩ = some (.int .i64 0)) (z3 : w.cell? ⟨B, 3, none⟩ = some (.string ⟨#[]⟩)) (z4 : w.cell? ⟨B, 4, none⟩ = some (.slice none 0 0)) (zf : ∀ o, w.frozen? ⟨B, o, none⟩ = false) : w'.cell? ⟨B, 0, none⟩ = some (.int .i64 0) ∧ w'.cell? ⟨B, 1, none⟩ = some (.int .i64 0) ∧ w'.cell? ⟨B, 2, none⟩ = some (.int .i64 0) ∧ w'.cell? ⟨B, 3, none⟩ = some (.string ⟨#[]⟩) ∧ w'.cell? ⟨B, 4, none⟩ = some (.slice none 0 0) ∧ ∀ o, w'.frozen? ⟨B, o, none⟩ = false :=
  ⟨keep_below hb z0, keep_below hb z1, keep_below hb z2, keep_below hb z3, keep_below hb z4, fun o => (hb.frozen (p := ⟨B, o, none⟩) (show B < w.heap.size from cell_lt z0)).trans (zf o)⟩
theorem keep_allocD {w : World} {o : Obj} {p : Addr} {v : Value} (h : w.cell? p = some v) : (w.alloc o).drew.cell? p = some v := keep_alloc h
theorem below_allocD {w0 w : World} {o : Obj} (h : Below w0.heap.size w0 w) : Below w0.heap.size w0 (w.alloc o).drew := (below_alloc' h).drew
end Go.Proofs.YtilgncebhgplaaaDoor
