import Derived.Test.YtilgncebhgplaaaG1
import Derived.Test.YtilgncebhgplaaaG2
import Derived.Test.YtilgncebhgplaaaRows
import Derived.Test.YtilgncebhgplaaaG0
import Derived.Laws.CopyRow
import Derived.Laws.IdiomCopy
import Derived.Tactics
import Derived.Deep.RegionLaw
/- What stays of boxes while nothing elder turns; what a look-up hands on. -/
namespace Go.Proofs.Ytilgncebhgplaaa
open Go.RowKit
set_option maxRecDepth 100000
theorem CellsAt.blw {w w' : World} {b o : Nat} {T : AT} (h : CellsAt w b o T) (hb : Below w.heap.size w w') : CellsAt w' b o T := ⟨keep_below hb h.c0, keep_below hb h.c1, keep_below hb h.c2, keep_below hb h.c3, keep_below hb h.c4⟩
/-- nothing elder has turned -/
structure Rl (W0 W : World) : Prop where
  b : Below W0.heap.size W0 W
  z : W0.heap.size ≤ W.heap.size
theorem Rl.refl (W0 : World) : Rl W0 W0 := ⟨Below.refl _ _, Nat.le_refl _⟩
theorem Rl.drew {W0 W : World} (h : Rl W0 W) : Rl W0 W.drew := ⟨h.b.drew, h.z⟩
theorem Rl.alloc {W0 W : World} (h : Rl W0 W) (o : Obj) : Rl W0 (W.alloc o) := ⟨h.b.alloc h.z o, by have := h.z; simp; omega⟩
theorem Rl.set {W0 W : World} (h : Rl W0 W) {B o : Nat} (hB : W0.heap.size ≤ B) (u : Value) : Rl W0 (W.setCell ⟨B, o, none⟩ u) := ⟨h.b.setCell (p := ⟨B, o, none⟩) hB u, by have := h.z; simpa [World.setCell] using this⟩
theorem Rl.below {W0 W W' : World} (h : Rl W0 W) (hb : Below W.heap.size W W') : Rl W0 W' := ⟨h.b.trans (hb.mono h.z), Nat.le_trans h.z hb.size⟩
theorem CellsAt.blw0 {w w' : World} {b o : Nat} {T : AT} (h : CellsAt w b o T) (hb : Rl w w') : CellsAt w' b o T := h.blw hb.b
/-- a box of a value -/
structure VC (w : World) (b : Nat) (k n x : Int) (s : ByteArray) (a : Option Addr) (len cap : Nat) : Prop where
  c0 : w.cell? ⟨b, 0, none⟩ = some (.int .i64 k)
  c1 : w.cell? ⟨b, 1, none⟩ = some (.int .i64 n)
  c2 : w.cell? ⟨b, 2, none⟩ = some (.int .i64 x)
  c3 : w.cell? ⟨b, 3, none⟩ = some (.string s)
  c4 : w.cell? ⟨b, 4, none⟩ = some (.slice a len cap)
theorem VC.blw {w w' : World} {b : Nat} {k n x : Int} {s : ByteArray} {a : Option Addr} {len cap : Nat} (h : VC w b k n x s a len cap) (hb : Below w.heap.size w w') : VC w' b k n x s a len cap := ⟨keep_below hb h.c0, keep_below hb h.c1, keep_below hb h.c2, keep_below hb h.c3, keep_below hb h.c4⟩
theorem vcbox (w : World) (k n x : Int) (s : ByteArray) (a : Option Addr) (len cap : Nat) (k2 n2 x2 : Int) (s2 : ByteArray) (a2 : Option Addr) (len2 cap2 : Nat) (t : TypeId) : VC ((w.alloc (.cells #[.int .i64 k, .int .i64 n, .int .i64 x, .string s, .slice a len cap] t)).alloc (.cells #[.int .i64 k2, .int .i64 n2, .int .i64 x2, .string s2, .slice a2 len2 cap2] t)) w.heap.size k n x s a len cap ∧ VC ((w.alloc (.cells #[.int .i64 k, .int .i64 n, .int .i64 x, .string s, .slice a len cap] t)).alloc (.cells #[.int .i64 k2, .int .i64 n2, .int .i64 x2, .string s2, .slice a2 len2 cap2] t)) (w.heap.size + 1) k2 n2 x2 s2 a2 len2 cap2 := by
  refine ⟨⟨?_, ?_, ?_, ?_, ?_⟩, ⟨?_, ?_, ?_, ?_, ?_⟩⟩ <;> simp [go_sem]
theorem len_le_sz (T : AT) : T.l.length ≤ T.pt.sz := by obtain ⟨k, n, x, s, a, cap, l⟩ := T; simp [AT.pt, PT.sz, AT.l]; omega
def zeroPT : PT := .mk 0 0 0 [] []
/-- what Lookup hands on -/
def LookPost (w : World) (r : PT × Bool) (e : Ending) (w' : World) : Prop := ∃ X : AT, X.pt = r.1 ∧ e = .returned (.tuple #[X.val, .bool r.2]) ∧ X.Own w' w.heap.size ∧ X.blks.Nodup ∧ Below w.heap.size w w'
def zeroAT : AT := .mk 0 0 0 [] none 0 []
theorem zeroAT_pt : zeroAT.pt = zeroPT := by simp [zeroAT, zeroPT, AT.pt, AT.ptL]
theorem zbox_cells {w W : World} {z : Nat} (hz : VC w z 0 0 0 ⟨#[]⟩ none 0 0) (hf : ∀ o, w.frozen? ⟨z, o, none⟩ = false) (hb : Below w.heap.size w W) : VC W z 0 0 0 ⟨#[]⟩ none 0 0 ∧ ∀ o, W.frozen? ⟨z, o, none⟩ = false :=
  ⟨hz.blw hb, fun o => by rw [frozen_blk' (hb.block z (cell_lt hz.c0))]; exact hf o⟩
theorem Rl.five {W0 W : World} {B : Nat} {v0 v1 v2 v3 v4 : Value} (h : Rl W0 W) (hB : W0.heap.size ≤ B) : Rl W0 (((((W.setCell ⟨B, 0, none⟩ v0).setCell ⟨B, 1, none⟩ v1).setCell ⟨B, 2, none⟩ v2).setCell ⟨B, 3, none⟩ v3).setCell ⟨B, 4, none⟩ v4) := ((((h.set hB v0).set hB v1).set hB v2).set hB v3).set hB v4
theorem leaf_early {W0 W : World} {B N : Nat} {G : AT} (hR : Rl W0 W) (hB : W0.heap.size ≤ B) (hN : W0.heap.size ≤ N) (hBN : B < N) (hO : G.Own W N) (hnd : G.blks.Nodup) (z0 : W.cell? ⟨B, 0, none⟩ = some (.int .i64 0)) (z1 : W.cell? ⟨B, 1, none⟩ = some (.int .i64 0)) (z2 : W.cell? ⟨B, 2, none⟩ = some (.int .i64 0)) (z3 : W.cell? ⟨B, 3, none⟩ = some (.string ⟨#[]⟩)) (z4 : W.cell? ⟨B, 4, none⟩ = some (.slice none 0 0)) :
    G.Own (((((W.setCell ⟨B, 0, none⟩ (.int .i64 G.k)).setCell ⟨B, 1, none⟩ (.int .i64 G.n)).setCell ⟨B, 2, none⟩ (.int .i64 G.x)).setCell ⟨B, 3, none⟩ (.string ⟨G.s.toArray⟩)).setCell ⟨B, 4, none⟩ (.slice G.a G.l.length G.cap)) W0.heap.size ∧ G.blks.Nodup ∧ B ∉ G.blks ∧ W0.heap.size ≤ B ∧ Rl W0 (((((W.setCell ⟨B, 0, none⟩ (.int .i64 G.k)).setCell ⟨B, 1, none⟩ (.int .i64 G.n)).setCell ⟨B, 2, none⟩ (.int .i64 G.x)).setCell ⟨B, 3, none⟩ (.string ⟨G.s.toArray⟩)).setCell ⟨B, 4, none⟩ (.slice G.a G.l.length G.cap)) ∧ (((((W.setCell ⟨B, 0, none⟩ (.int .i64 G.k)).setCell ⟨B, 1, none⟩ (.int .i64 G.n)).setCell ⟨B, 2, none⟩ (.int .i64 G.x)).setCell ⟨B, 3, none⟩ (.string ⟨G.s.toArray⟩)).setCell ⟨B, 4, none⟩ (.slice G.a G.l.length G.cap)).cell? ⟨B, 0, none⟩ = some (.int .i64 G.k) ∧ (((((W.setCell ⟨B, 0, none⟩ (.int .i64 G.k)).setCell ⟨B, 1, none⟩ (.int .i64 G.n)).setCell ⟨B, 2, none⟩ (.int .i64 G.x)).setCell ⟨B, 3, none⟩ (.string ⟨G.s.toArray⟩)).setCell ⟨B, 4, none⟩ (.slice G.a G.l.length G.cap)).cell? ⟨B, 1, none⟩ = some (.int .i64 G.n) ∧ (((((W.setCell ⟨B, 0, none⟩ (.int .i64 G.k)).setCell ⟨B, 1, none⟩ (.int .i64 G.n)).setCell ⟨B, 2, none⟩ (.int .i64 G.x)).setCell ⟨B, 3, none⟩ (.string ⟨G.s.toArray⟩)).setCell ⟨B, 4, none⟩ (.slice G.a G.l.length G.cap)).cell? ⟨B, 2, none⟩ = some (.int .i64 G.x) ∧ (((((W.setCell ⟨B, 0, none⟩ (.int .i64 G.k)).setCell ⟨B, 1, none⟩ (.int .i64 G.n)).setCell ⟨B, 2, none⟩ (.int .i64 G.x)).setCell ⟨B, 3, none⟩ (.string ⟨G.s.toArray⟩)).setCell ⟨B, 4, none⟩ (.slice G.a G.l.length G.cap)).cell? ⟨B, 3, none⟩ = some (.string ⟨G.s.toArray⟩) ∧ (((((W.setCell ⟨B, 0, none⟩ (.int .i64 G.k)).setCell ⟨B, 1, none⟩ (.int .i64 G.n)).setCell ⟨B, 2, none⟩ (.int .i64 G.x)).setCell ⟨B, 3, none⟩ (.string ⟨G.s.toArray⟩)).setCell ⟨B, 4, none⟩ (.slice G.a G.l.length G.cap)).cell? ⟨B, 4, none⟩ = some (.slice G.a G.l.length G.cap) := by
  refine ⟨(AT.Own.set (AT.Own.set (AT.Own.set (AT.Own.set (AT.Own.set hO hBN) hBN) hBN) hBN) hBN).base hN, hnd, fun hm => by have := (hO.lt B hm).1; omega, hB, hR.five hB, ?_, ?_, ?_, ?_, ?_⟩ <;> simp [go_sem, z0, z1, z2, z3, z4]
theorem leaf_last {W0 W : World} {N : Nat} {G : AT} {ty : TypeId} (hR : Rl W0 W) (hN : W0.heap.size ≤ N) (hO : G.Own W N) (hnd : G.blks.Nodup) :
    G.Own (W.alloc (.cells #[.int .i64 G.k, .int .i64 G.n, .int .i64 G.x, .string ⟨G.s.toArray⟩, .slice G.a G.l.length G.cap] ty)) W0.heap.size ∧ G.blks.Nodup ∧ W.heap.size ∉ G.blks ∧ W0.heap.size ≤ W.heap.size ∧ Rl W0 (W.alloc (.cells #[.int .i64 G.k, .int .i64 G.n, .int .i64 G.x, .string ⟨G.s.toArray⟩, .slice G.a G.l.length G.cap] ty)) ∧ (W.alloc (.cells #[.int .i64 G.k, .int .i64 G.n, .int .i64 G.x, .string ⟨G.s.toArray⟩, .slice G.a G.l.length G.cap] ty)).cell? ⟨W.heap.size, 0, none⟩ = some (.int .i64 G.k) ∧ (W.alloc (.cells #[.int .i64 G.k, .int .i64 G.n, .int .i64 G.x, .string ⟨G.s.toArray⟩, .slice G.a G.l.length G.cap] ty)).cell? ⟨W.heap.size, 1, none⟩ = some (.int .i64 G.n) ∧ (W.alloc (.cells #[.int .i64 G.k, .int .i64 G.n, .int .i64 G.x, .string ⟨G.s.toArray⟩, .slice G.a G.l.length G.cap] ty)).cell? ⟨W.heap.size, 2, none⟩ = some (.int .i64 G.x) ∧ (W.alloc (.cells #[.int .i64 G.k, .int .i64 G.n, .int .i64 G.x, .string ⟨G.s.toArray⟩, .slice G.a G.l.length G.cap] ty)).cell? ⟨W.heap.size, 3, none⟩ = some (.string ⟨G.s.toArray⟩) ∧ (W.alloc (.cells #[.int .i64 G.k, .int .i64 G.n, .int .i64 G.x, .string ⟨G.s.toArray⟩, .slice G.a G.l.length G.cap] ty)).cell? ⟨W.heap.size, 4, none⟩ = some (.slice G.a G.l.length G.cap) :=
  ⟨(hO.blw (vbox W _)).base hN, hnd, fun hm => by have := (hO.lt _ hm).2; omega, hR.z, hR.alloc _, vcells5 W G ty⟩
theorem keep_alloc {w : World} {o : Obj} {p : Addr} {v : Value} (h : w.cell? p = some v) : (w.alloc o).cell? p = some v := keep_below (vbox w o) h
theorem below_alloc' {w0 w : World} {o : Obj} (h : Below w0.heap.size w0 w) : Below w0.heap.size w0 (w.alloc o) := h.alloc h.size o
theorem own_alloc {w : World} {o : Obj} {B : Nat} {T : AT} (h : T.Own w B) : T.Own (w.alloc o) B := h.blw (vbox w o)
theorem mbox {w w' : World} {ty : TypeId} (hb : Below (w.alloc (.cells #[.int .i64 0, .int .i64 0, .int .i64 0, .string ⟨#[]⟩, .slice none 0 0] ty)).heap.size (w.alloc (.cells #[.int .i64 0, .int .i64 0, .int .i64 0, .string ⟨#[]⟩, .slice none 0 0] ty)) w') : w'.cell? ⟨w.heap.size, 0, none⟩ = some (.int .i64 0) ∧ w'.cell? ⟨w.heap.size, 1, none⟩ = some (.int .i64 0) ∧ w'.cell? ⟨w.heap.size, 2, none⟩ = some (.int .i64 0) ∧ w'.cell? ⟨w.heap.size, 3, none⟩ = some (.string ⟨#[]⟩) ∧ w'.cell? ⟨w.heap.size, 4, none⟩ = some (.slice none 0 0) ∧ ∀ o, w'.frozen? ⟨w.heap.size, o, none⟩ = false := by
  refine ⟨?_, ?_, ?_, ?_, ?_, fun o => (hb.frozen (by simp)).trans (by simp [go_sem])⟩ <;> exact (hb.cell (by simp)).trans (by simp [go_sem])
theorem mboxD {w w' : World} {ty : TypeId} (hb : Below (w.alloc (.cells #[.int .i64 0, .int .i64 0, .int .i64 0, .string ⟨#[]⟩, .slice none 0 0] ty)).drew.heap.size (w.alloc (.cells #[.int .i64 0, .int .i64 0, .int .i64 0, .string ⟨#[]⟩, .slice none 0 0] ty)).drew w') : w'.cell? ⟨w.heap.size, 0, none⟩ = some (.int .i64 0) ∧ w'.cell? ⟨w.heap.size, 1, none⟩ = some (.int .i64 0) ∧ w'.cell? ⟨w.heap.size, 2, none⟩ = some (.int .i64 0) ∧ w'.cell? ⟨w.heap.size, 3, none⟩ = some (.string ⟨#[]⟩) ∧ w'.cell? ⟨w.heap.size, 4, none⟩ = some (.slice none 0 0) ∧ ∀ o, w'.frozen? ⟨w.heap.size, o, none⟩ = false := by
  refine ⟨?_, ?_, ?_, ?_, ?_, fun o => (hb.frozen (by simp)).trans (by simp [go_sem])⟩ <;> exact (hb.cell (by simp)).trans (by simp [go_sem])
theorem mboxK {w w' : World} {B : Nat} (hb : Below w.heap.size w w') (z0 : w.cell? ⟨B, 0, none⟩ = some (.int .i64 0)) (z1 : w.cell? ⟨B, 1, none⟩ = some (.int .i64 0)) (z2 : w.cell? ⟨B, 2, none⟩ = some (.int .i64 0)) (z3 : w.cell? ⟨B, 3, none⟩ = some (.string ⟨#[]⟩)) (z4 : w.cell? ⟨B, 4, none⟩ = some (.slice none 0 0)) (zf : ∀ o, w.frozen? ⟨B, o, none⟩ = false) : w'.cell? ⟨B, 0, none⟩ = some (.int .i64 0) ∧ w'.cell? ⟨B, 1, none⟩ = some (.int .i64 0) ∧ w'.cell? ⟨B, 2, none⟩ = some (.int .i64 0) ∧ w'.cell? ⟨B, 3, none⟩ = some (.string ⟨#[]⟩) ∧ w'.cell? ⟨B, 4, none⟩ = some (.slice none 0 0) ∧ ∀ o, w'.frozen? ⟨B, o, none⟩ = false :=
  ⟨keep_below hb z0, keep_below hb z1, keep_below hb z2, keep_below hb z3, keep_below hb z4, fun o => (hb.frozen (p := ⟨B, o, none⟩) (show B < w.heap.size from cell_lt z0)).trans (zf o)⟩
theorem keep_allocD {w : World} {o : Obj} {p : Addr} {v : Value} (h : w.cell? p = some v) : (w.alloc o).drew.cell? p = some v := keep_alloc h
theorem below_allocD {w0 w : World} {o : Obj} (h : Below w0.heap.size w0 w) : Below w0.heap.size w0 (w.alloc o).drew := (below_alloc' h).drew
end Go.Proofs.Ytilgncebhgplaaa
/- Marks on results that are slices. -/
namespace Go.Proofs.Ytilgncebhgplaaa
open Go.RowKit
/-- a slice of trees in rows of its own, as a tree -/
def FreshS (w : World) (p : List PT) (e : Ending) (w' : World) : Prop := ∃ X : AT, X.pt = lst p ∧ e = .returned (.slice X.a X.l.length X.cap) ∧ X.Own w' w.heap.size ∧ X.blks.Nodup ∧ Below w.heap.size w w'
theorem FreshL.s {w w' : World} {p : List PT} {e : Ending} (h : FreshL w p e w') : FreshS w p e w' := by
  obtain ⟨a', cap', l', h1, h2, h3, h4, h5⟩ := h
  exact ⟨.mk 0 0 0 [] a' cap' l', by simp [AT.pt, h1, lst], h2, h3.own, h4, h5⟩
theorem markS_keep (X : AT) (w : World) (B : Nat) (h : X.Own w B) (hnd : X.blks.Nodup) (hb : PT.cntL (AT.ptL X.l) ≤ 2097152) :
    Calls Try.prog 27 #[.slice X.a X.l.length X.cap, .int .i64 1] w fun e w' => (e = .returned (.int .i64 (1 + 4 * PT.cntL (AT.ptL X.l) : Nat)) ∧ OwnL w' B X.a X.cap (AT.markL 1 X.l)) ∧ OnlyBs X.blks w w' := by
  refine (markValS_any X w B 1 h.l' (by rw [← AT.blks_eq]; exact hnd) (Nat.le_refl _) (by omega)).mono fun e w' hp => ?_
  exact ⟨⟨hp.1, hp.2.1⟩, by rw [AT.blks_eq]; exact hp.2.2⟩
theorem heldS_tree (X : AT) (w : World) (B : Nat) (h : OwnL w B X.a X.cap (AT.markL 1 X.l)) (hb : PT.cntL (AT.ptL X.l) ≤ 2097152) :
    Calls Try.prog 28 #[.slice X.a X.l.length X.cap, .int .i64 1] w fun e w' => e = .returned (.int .i64 (1 + 4 * PT.cntL (AT.ptL X.l) : Nat)) ∧ Below w.heap.size w w' :=
  heldValS_any X w w.heap.size 1 h.lv (Nat.le_refl _) (Nat.le_refl _) (by omega)
theorem mark_from (X : AT) (w : World) (B c : Nat) (h : X.Own w B) (hnd : X.blks.Nodup) (hb : X.pt.cnt ≤ 2097152) (h1 : 1 ≤ c) (hc : c ≤ 4194310) :
    Calls Try.prog 10 #[X.val, .int .i64 (c : Nat)] w fun e w' => (e = .returned (.int .i64 (c + 4 * PT.cntL (AT.ptL X.l) : Nat)) ∧ OwnL w' B X.a X.cap (AT.markL c X.l)) ∧ OnlyBs X.blks w w' := by
  refine (markVal_any X w B c h hnd h1 (by omega)).mono fun e w' hp => ?_
  exact ⟨⟨hp.1, hp.2.1⟩, hp.2.2⟩
theorem ownl_drew {w : World} {B : Nat} {a : Option Addr} {cap : Nat} {l : List AT} (h : OwnL w B a cap l) : OwnL w.drew B a cap l := (AT.Own.kept (T := .mk 0 0 0 [] a cap l) h.own (w' := w.drew) (fun _ _ => rfl)).l
theorem ownl_blw {w w' : World} {B : Nat} {a : Option Addr} {cap : Nat} {l : List AT} (hb : Below w.heap.size w w') (h : OwnL w B a cap l) : OwnL w' B a cap l := h.blw hb
theorem ownl_alloc {w : World} {o : Obj} {B : Nat} {a : Option Addr} {cap : Nat} {l : List AT} (h : OwnL w B a cap l) : OwnL (w.alloc o) B a cap l := h.blw (vbox w o)
theorem cntL_le_sz (p : PT) : p.cnt ≤ p.sz + 1 := cnt_le_sz p
end Go.Proofs.Ytilgncebhgplaaa
/- Insertion from the right, as plain functions on lists; lists of pairs. No program. -/
namespace Go.Proofs.Ytilgncebhgplaaa
open Go
section
variable {α : Type} (less : α → α → Bool)
/-- where x goes among the first k of l: left of all that it is less than, from the right on -/
def posR (x : α) (l : List α) : Nat → Nat
  | 0 => 0
  | k + 1 => match l[k]? with
    | some y => if less x y = true then posR x l k else k + 1
    | none => k + 1
theorem posR_zero (x : α) (l : List α) : posR less x l 0 = 0 := rfl
theorem posR_less {x y : α} {l : List α} {k : Nat} (h : l[k]? = some y) (hl : less x y = true) : posR less x l (k + 1) = posR less x l k := by
  show (match l[k]? with | some y => if less x y = true then posR less x l k else k + 1 | none => k + 1) = _
  rw [h]; simp [hl]
theorem posR_stop {x y : α} {l : List α} {k : Nat} (h : l[k]? = some y) (hl : less x y = false) : posR less x l (k + 1) = k + 1 := by
  show (match l[k]? with | some y => if less x y = true then posR less x l k else k + 1 | none => k + 1) = _
  rw [h]; simp [hl]
theorem posR_le (x : α) (l : List α) : ∀ k, posR less x l k ≤ k
  | 0 => Nat.le_refl _
  | k + 1 => by
    show (match l[k]? with | some y => if less x y = true then posR less x l k else k + 1 | none => k + 1) ≤ k + 1
    have := posR_le x l k
    split
    · split
      · exact Nat.le_succ_of_le this
      · exact Nat.le_refl _
    · exact Nat.le_refl _
theorem posR_app (x : α) (l m : List α) : ∀ k, k ≤ l.length → posR less x (l ++ m) k = posR less x l k
  | 0, _ => rfl
  | k + 1, h => by
    have ih := posR_app x l m k (by omega)
    show (match (l ++ m)[k]? with | some y => if less x y = true then posR less x (l ++ m) k else k + 1 | none => k + 1) = (match l[k]? with | some y => if less x y = true then posR less x l k else k + 1 | none => k + 1)
    rw [List.getElem?_append_left (by omega), ih]
/-- l with x in its place -/
def insR (l : List α) (x : α) : List α := l.take (posR less x l l.length) ++ x :: l.drop (posR less x l l.length)
def sortR (l : List α) : List α := l.foldl (insR less) []
theorem insR_length (l : List α) (x : α) : (insR less l x).length = l.length + 1 := by
  unfold insR
  have := posR_le less x l l.length
  simp; omega
theorem foldl_length : ∀ (l acc : List α), (l.foldl (insR less) acc).length = acc.length + l.length
  | [], acc => by simp
  | x :: r, acc => by rw [List.foldl_cons, foldl_length r, insR_length, List.length_cons]; omega
theorem sortR_length (l : List α) : (sortR less l).length = l.length := by unfold sortR; rw [foldl_length]; simp
theorem sortR_take_succ {l : List α} {i : Nat} (h : i < l.length) : sortR less (l.take (i + 1)) = insR less (sortR less (l.take i)) l[i] := by
  unfold sortR
  rw [List.take_succ_eq_append_getElem h, List.foldl_append]; rfl
theorem insR_perm (l : List α) (x : α) : List.Perm (insR less l x) (x :: l) := by
  unfold insR
  have h := List.perm_middle (a := x) (l₁ := l.take (posR less x l l.length)) (l₂ := l.drop (posR less x l l.length))
  rw [List.take_append_drop] at h
  exact h
theorem foldl_perm : ∀ (l acc : List α), List.Perm (l.foldl (insR less) acc) (acc ++ l)
  | [], acc => by simp
  | x :: r, acc => by
    rw [List.foldl_cons]
    refine (foldl_perm r _).trans ?_
    refine ((insR_perm less acc x).append_right r).trans ?_
    rw [List.cons_append]
    exact (List.perm_middle (a := x) (l₁ := acc) (l₂ := r)).symm
theorem sortR_perm (l : List α) : List.Perm (sortR less l) l := by
  have := foldl_perm less l []
  simpa [sortR] using this
end
/-- the pairs of a list of even length, and back -/
def pairsOf {α : Type} : List α → List (α × α)
  | x :: y :: r => (x, y) :: pairsOf r
  | _ => []
def flatOf {α : Type} (l : List (α × α)) : List α := l.flatMap fun p => [p.1, p.2]
theorem flatOf_nil {α : Type} : flatOf ([] : List (α × α)) = [] := rfl
theorem flatOf_cons {α : Type} (p : α × α) (l : List (α × α)) : flatOf (p :: l) = p.1 :: p.2 :: flatOf l := rfl
theorem flatOf_append {α : Type} (l m : List (α × α)) : flatOf (l ++ m) = flatOf l ++ flatOf m := by simp [flatOf]
theorem flatOf_length {α : Type} (l : List (α × α)) : (flatOf l).length = 2 * l.length := by
  induction l with
  | nil => rfl
  | cons p l ih => rw [flatOf_cons]; simp only [List.length_cons, ih]; omega
theorem flatOf_take {α : Type} (l : List (α × α)) (k : Nat) : flatOf (l.take k) = (flatOf l).take (2 * k) := by
  induction l generalizing k with
  | nil => simp [flatOf]
  | cons p l ih =>
    cases k with
    | zero => rfl
    | succ k => rw [List.take_succ_cons, flatOf_cons, flatOf_cons, ih, show 2 * (k + 1) = 2 * k + 1 + 1 by omega, List.take_succ_cons, List.take_succ_cons]
theorem flatOf_drop {α : Type} (l : List (α × α)) (k : Nat) : flatOf (l.drop k) = (flatOf l).drop (2 * k) := by
  induction l generalizing k with
  | nil => simp [flatOf]
  | cons p l ih =>
    cases k with
    | zero => rfl
    | succ k => rw [List.drop_succ_cons, flatOf_cons, ih, show 2 * (k + 1) = 2 * k + 1 + 1 by omega, List.drop_succ_cons, List.drop_succ_cons]
theorem flatOf_get {α : Type} (l : List (α × α)) (j : Nat) (h : j < l.length) : (flatOf l)[2 * j]? = some (l[j]).1 ∧ (flatOf l)[2 * j + 1]? = some (l[j]).2 := by
  induction l generalizing j with
  | nil => simp at h
  | cons p l ih =>
    cases j with
    | zero => exact ⟨rfl, rfl⟩
    | succ j => rw [flatOf_cons, show 2 * (j + 1) = 2 * j + 1 + 1 by omega]; simpa using ih j (by simpa using h)
theorem flat_pairs {α : Type} : ∀ (n : Nat) (l : List α), l.length = 2 * n → flatOf (pairsOf l) = l ∧ (pairsOf l).length = n
  | 0, [], _ => ⟨rfl, rfl⟩
  | n + 1, x :: y :: r, h => by
    have ih := flat_pairs n r (by simp at h; omega)
    exact ⟨by show x :: y :: flatOf (pairsOf r) = _; rw [ih.1], by show (pairsOf r).length + 1 = _; rw [ih.2]⟩
  | n + 1, [x], h => by simp at h; omega
  | n + 1, [], h => by simp at h
  | 0, x :: r, h => by simp at h
end Go.Proofs.Ytilgncebhgplaaa
/- The builtin 'copy' inside one row of one's own whose elements have several cells. No program of its own. -/
namespace Go.Proofs.Ytilgncebhgplaaa
open Go.RowKit
/-- 'copy' as one step of a region that draws, its run known by an equation -/
theorem step_copy_run {P : Program} {ops : Array Oper} {o : Oper} {a : Act} {w : World} {K : Act → World → Prop} {Q : Exit → Act → World → Prop} {E : Prop}
    (hg : o.guard = none) (d x : Operand) (dT sT : TypeId) (hop : o.op = Op.call { callee := Callee.builtin Builtin.copy, args := #[d, x], argTypes := #[dT, sT] })
    (v u : Value) (hd : a.eval d = v) (hx : a.eval x = u) {v' : Value} {w' : World} (hr : (Builtin.copy_ #[dT, sT] o.type #[v, u]).run P w = .ok v' w') (hK : K (a.put o.dst v') w') :
    if Region.wanted o (yielded ops a.tmps) = true then Oper.wp P o a w K Q else E := by
  have hw : Region.wanted o (yielded ops a.tmps) = true := by simp [Region.wanted, hg]
  rw [if_pos hw]
  unfold Oper.wp
  simp [execOp, hop, resolve, invoke, builtin, hd, hx, hr, Result.andThen]
  exact hK
section
variable {P : Program} {w : World}
theorem run_copy_k (w : World) (dT sT ty elem : TypeId) (g o dLen dCap : Nat) (a : Addr) (sLen sCap k : Nat) (cur : Array Value) (t : TypeId) (cs : List Value) (N : Nat) (hN : Nat.min sLen dLen = N)
    (hu : P.underlying dT = some (.slice elem)) (hs : (P.info? elem).map (·.size) = some k)
    (hg : w.heap[g]? = some (.cells cur t (0, 0))) (hn : cs.length = N * k)
    (hsrc : ∀ j v, cs[j]? = some v → w.cell? (a.add j) = some v) (hfit : o + cs.length ≤ cur.size) (h1 : ∀ v ∈ cs, v.oneCell' = true) :
    (Builtin.copy_ #[dT, sT] ty #[.slice (some ⟨g, o, none⟩) dLen dCap, .slice (some a) sLen sCap]).run P w =
      .ok (goInt N) (w.setRow g (cur.toList.take o ++ cs ++ cur.toList.drop (o + cs.length)).toArray) := by
  subst hN
  have hl := run_loadCells_list (P := P) w a cs hsrc
  have hst := run_storeCells_at P g o t cs 0 cur w hg (by simpa using hfit) h1
  cases hq : P.info? elem with
  | none => simp [hq] at hs
  | some i =>
    have hi : i.size = k := by simpa [hq] using hs
    subst hi
    simp [Builtin.copy_, run_underlying hu, Builtin.lenOf, Builtin.firstCells, sizeOf, typeInfo, hq, ← hn, hl, hst]
theorem run_copy_0 (w : World) (dT sT ty elem : TypeId) (d a : Option Addr) (dCap sCap : Nat) (hu : P.underlying dT = some (.slice elem)) (hs : ((P.info? elem).map (·.size)).isSome = true) :
    (Builtin.copy_ #[dT, sT] ty #[.slice d 0 dCap, .slice a 0 sCap]).run P w = .ok (goInt 0) w := by
  cases hq : P.info? elem with
  | none => simp [hq] at hs
  | some i =>
    have hl : ∀ a : Addr, (loadCells a 0).run P w = .ok #[] w := fun a => run_loadCells_list (P := P) w a [] (by intro j v h; simp at h)
    cases a <;> cases d <;> simp [Builtin.copy_, run_underlying hu, Builtin.lenOf, Builtin.firstCells, sizeOf, typeInfo, hq, storeCells, hl]
theorem take_mid {α : Type} (c cs : List α) (a m N b : Nat) (hb : b = a + m) (hc : cs.length = m) (h1 : b ≤ N) (h2 : N ≤ c.length) : (c.take a ++ (cs ++ c.drop b)).take N = c.take a ++ (cs ++ (c.take N).drop b) := by
  subst hb hc
  have l1 : (c.take a).length = a := by rw [List.length_take]; omega
  have e1 : (c.take a ++ (cs ++ c.drop (a + cs.length))).take N = (c.take a).take N ++ (cs ++ c.drop (a + cs.length)).take (N - a) := by
    have := List.take_append (l₁ := c.take a) (l₂ := cs ++ c.drop (a + cs.length)) (i := N)
    rw [l1] at this
    exact this
  have e2 : (cs ++ c.drop (a + cs.length)).take (N - a) = cs.take (N - a) ++ (c.drop (a + cs.length)).take (N - a - cs.length) := List.take_append
  have e3 : (c.take a).take N = c.take a := List.take_of_length_le (by rw [l1]; omega)
  have e4 : cs.take (N - a) = cs := List.take_of_length_le (by omega)
  rw [e1, e2, e3, e4, List.drop_take, show N - a - cs.length = N - (a + cs.length) by omega]
theorem setRow_only (w : World) (g : Nat) (cs : Array Value) : Only g w (w.setRow g cs) :=
  ⟨rfl, rfl, rfl, by simp [World.setRow], fun j _ hj => setRow_other w g j cs hj⟩
/-- m elements of a row go over to another place of it -/
theorem own_copy {B E n cap g k d s m : Nat} {xs : List Value} (dT ty : TypeId) (dc sc : Nat) (h : w.ownsRow B E k (.slice (some ⟨g, 0, none⟩) n cap) n xs) (hu : P.underlying dT = some (.slice E)) (hs : (P.info? E).map (·.size) = some k)
    (h1 : ∀ v ∈ xs, v.oneCell' = true) (hd : d + m ≤ n) (hsm : s + m ≤ n) : ∃ w', (Builtin.copy_ #[dT, dT] ty #[.slice (some ⟨g, d * k, none⟩) m dc, .slice (some ⟨g, s * k, none⟩) m sc]).run P w = .ok (goInt m) w' ∧
      w'.ownsRow B E k (.slice (some ⟨g, 0, none⟩) n cap) n (xs.take (d * k) ++ ((xs.drop (s * k)).take (m * k) ++ xs.drop ((d + m) * k))) ∧ Only g w w' := by
  have hl := h.1
  have hcell := fun j hj => h.cellAt j hj
  rcases h.2 with ⟨h, _⟩ | ⟨g', cap', cur, h, hb, hg, hnc, hcm, hcs, htake⟩
  · cases h
  · injection h with e1 e2 e3
    injection e1 with e1
    injection e1 with e1
    subst e1 e3
    have q1 : (d + m) * k = d * k + m * k := Nat.add_mul _ _ _
    have q2 : (s + m) * k = s * k + m * k := Nat.add_mul _ _ _
    have q3 : (d + m) * k ≤ n * k := Nat.mul_le_mul_right k hd
    have q4 : (s + m) * k ≤ n * k := Nat.mul_le_mul_right k hsm
    have q5 : n * k ≤ cap * k := Nat.mul_le_mul_right k hnc
    obtain ⟨cs, hcs2⟩ : ∃ cs, cs = (xs.drop (s * k)).take (m * k) := ⟨_, rfl⟩
    have hcl : cs.length = m * k := by rw [hcs2, List.length_take, List.length_drop, hl]; omega
    have hcur : cur.toList.length = cap * k := by simpa using hcs
    refine ⟨_, run_copy_k w dT dT ty E g (d * k) m dc ⟨g, s * k, none⟩ m sc k cur E cs m (Nat.min_self m) hu hs hg hcl (fun j v hv => ?_) (by rw [hcl]; omega) (fun v hv => ?_), ?_, setRow_only _ _ _⟩
    · have hj := (List.getElem?_eq_some_iff.1 hv).1
      have ha : (⟨g, s * k, none⟩ : Addr).add j = ⟨g, s * k + j, none⟩ := by unfold Addr.add; split <;> simp_all
      rw [ha, hcell (s * k + j) (by omega), ← hv, hcs2, List.getElem?_take, if_pos (by omega), List.getElem?_drop]
    · rw [hcs2] at hv
      exact h1 v (List.mem_of_mem_drop (List.mem_of_mem_take hv))
    · refine ⟨by simp only [List.length_append, List.length_take, List.length_drop, hl]; omega, .inr ⟨g, cap, _, rfl, hb, setRow_heap w g cur _ E (0, 0) hg, hnc, hcm, ?_, ?_⟩⟩
      · simp only [List.size_toArray, List.length_append, List.length_take, List.length_drop, hcur, hcl]; omega
      · show List.take (n * k) (cur.toList.take (d * k) ++ cs ++ cur.toList.drop (d * k + cs.length)) = _
        rw [← hcs2, hcl, ← q1, List.append_assoc, take_mid cur.toList cs (d * k) (m * k) (n * k) ((d + m) * k) q1 hcl (by omega) (by omega), htake, ← htake, List.take_take, Nat.min_eq_left (by omega)]
end
end Go.Proofs.Ytilgncebhgplaaa
