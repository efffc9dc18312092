/- Marks on results that are slices. -/
import Derived.Test.YtgfebmnlcihpnaaListLaw
import Derived.Test.YtgfebmnlcihpnaaHeldVal
import Derived.Test.YtgfebmnlcihpnaaCopySpec
import Derived.Test.YtgfebmnlcihpnaaKeepVal
namespace Go.Proofs.Ytgfebmnlcihpnaa
open Go.RowKit
/-- a slice of trees in rows of its own, as a tree -/
def FreshS (w : World) (p : List PT) (e : Ending) (w' : World) : Prop := ∃ X : AT, X.pt = lst p ∧ e = .returned (.slice X.a X.l.length X.cap) ∧ X.Own w' w.heap.size ∧ X.blks.Nodup ∧ Below w.heap.size w w'
theorem FreshL.s {w w' : World} {p : List PT} {e : Ending} (h : FreshL w p e w') : FreshS w p e w' := by
  obtain ⟨a', cap', l', h1, h2, h3, h4, h5⟩ := h
  exact ⟨.mk 0 0 0 [] a' cap' l', by simp [AT.pt, h1, lst], h2, h3.own, h4, h5⟩
theorem markS_keep (X : AT) (w : World) (B : Nat) (h : X.Own w B) (hnd : X.blks.Nodup) (hb : PT.cntL (AT.ptL X.l) ≤ 2097152) :
    Calls Try.prog 131 #[.slice X.a X.l.length X.cap, .int .i64 1] w fun e w' => (e = .returned (.int .i64 (1 + 4 * PT.cntL (AT.ptL X.l) : Nat)) ∧ OwnL w' B X.a X.cap (AT.markL 1 X.l)) ∧ OnlyBs X.blks w w' := by
  refine (markValS_any X w B 1 h.l' (by rw [← AT.blks_eq]; exact hnd) (Nat.le_refl _) (by omega)).mono fun e w' hp => ?_
  exact ⟨⟨hp.1, hp.2.1⟩, by rw [AT.blks_eq]; exact hp.2.2⟩
theorem heldS_tree (X : AT) (w : World) (B : Nat) (h : OwnL w B X.a X.cap (AT.markL 1 X.l)) (hb : PT.cntL (AT.ptL X.l) ≤ 2097152) :
    Calls Try.prog 132 #[.slice X.a X.l.length X.cap, .int .i64 1] w fun e w' => e = .returned (.int .i64 (1 + 4 * PT.cntL (AT.ptL X.l) : Nat)) ∧ Below w.heap.size w w' :=
  heldValS_any X w w.heap.size 1 h.lv (Nat.le_refl _) (Nat.le_refl _) (by omega)
theorem mark_from (X : AT) (w : World) (B c : Nat) (h : X.Own w B) (hnd : X.blks.Nodup) (hb : X.pt.cnt ≤ 2097152) (h1 : 1 ≤ c) (hc : c ≤ 4194310) :
    Calls Try.prog 66 #[X.val, .int .i64 (c : Nat)] w fun e w' => (e = .returned (.int .i64 (c + 4 * PT.cntL (AT.ptL X.l) : Nat)) ∧ OwnL w' B X.a X.cap (AT.markL c X.l)) ∧ OnlyBs X.blks w w' := by
  refine (markVal_any X w B c h hnd h1 (by omega)).mono fun e w' hp => ?_
  exact ⟨⟨hp.1, hp.2.1⟩, hp.2.2⟩
theorem ownl_drew {w : World} {B : Nat} {a : Option Addr} {cap : Nat} {l : List AT} (h : OwnL w B a cap l) : OwnL w.drew B a cap l := (AT.Own.kept (T := .mk 0 0 0 [] a cap l) h.own (w' := w.drew) (fun _ _ => rfl)).l
theorem ownl_blw {w w' : World} {B : Nat} {a : Option Addr} {cap : Nat} {l : List AT} (hb : Below w.heap.size w w') (h : OwnL w B a cap l) : OwnL w' B a cap l := h.blw hb
theorem keep_alloc {w : World} {o : Obj} {p : Addr} {v : Value} (h : w.cell? p = some v) : (w.alloc o).cell? p = some v := keep_below (vbox w o) h
theorem below_alloc' {w0 w : World} {o : Obj} (h : Below w0.heap.size w0 w) : Below w0.heap.size w0 (w.alloc o) := h.alloc h.size o
theorem own_alloc {w : World} {o : Obj} {B : Nat} {T : AT} (h : T.Own w B) : T.Own (w.alloc o) B := h.blw (vbox w o)
theorem ownl_alloc {w : World} {o : Obj} {B : Nat} {a : Option Addr} {cap : Nat} {l : List AT} (h : OwnL w B a cap l) : OwnL (w.alloc o) B a cap l := h.blw (vbox w o)
theorem mbox {w w' : World} {ty : TypeId} (hb : Below (w.alloc (.cells #[.int .i64 0, .int .i64 0, .int .i64 0, .string ⟨#[]⟩, .slice none 0 0] ty)).heap.size (w.alloc (.cells #[.int .i64 0, .int .i64 0, .int .i64 0, .string ⟨#[]⟩, .slice none 0 0] ty)) w') : w'.cell? ⟨w.heap.size, 0, none⟩ = some (.int .i64 0) ∧ w'.cell? ⟨w.heap.size, 1, none⟩ = some (.int .i64 0) ∧ w'.cell? ⟨w.heap.size, 2, none⟩ = some (.int .i64 0) ∧ w'.cell? ⟨w.heap.size, 3, none⟩ = some (.string ⟨#[]⟩) ∧ w'.cell? ⟨w.heap.size, 4, none⟩ = some (.slice none 0 0) ∧ ∀ o, w'.frozen? ⟨w.heap.size, o, none⟩ = false := by
  refine ⟨?_, ?_, ?_, ?_, ?_, fun o => (hb.frozen (by simp)).trans (by simp [go_sem])⟩ <;> exact (hb.cell (by simp)).trans (by simp [go_sem])
theorem mboxD {w w' : World} {ty : TypeId} (hb : Below (w.alloc (.cells #[.int .i64 0, .int .i64 0, .int .i64 0, .string ⟨#[]⟩, .slice none 0 0] ty)).drew.heap.size (w.alloc (.cells #[.int .i64 0, .int .i64 0, .int .i64 0, .string ⟨#[]⟩, .slice none 0 0] ty)).drew w') : w'.cell? ⟨w.heap.size, 0, none⟩ = some (.int .i64 0) ∧ w'.cell? ⟨w.heap.size, 1, none⟩ = some (.int .i64 0) ∧ w'.cell? ⟨w.heap.size, 2, none⟩ = some (.int .i64 0) ∧ w'.cell? ⟨w.heap.size, 3, none⟩ = some (.string ⟨#[]⟩) ∧ w'.cell? ⟨w.heap.size, 4, none⟩ = some (.slice none 0 0) ∧ ∀ o, w'.frozen? ⟨w.heap.size, o, none⟩ = false := by
  refine ⟨?_, ?_, ?_, ?_, ?_, fun o => (hb.frozen (by simp)).trans (by simp [go_sem])⟩ <;> exact (hb.cell (by simp)).trans (by simp [go_sem])
theorem mboxK {w w' : World} {B : Nat} (hb : Below w.heap.size w w') (z0 : w.cell? ⟨B, 0, none⟩ = some (.int .i64 0)) (z1 : w.cell? ⟨B, 1, none⟩ = some (.int .i64 0)) (z2 : w.cell? ⟨B, 2, none⟩ = some (.int .i64 0)) (z3 : w.cell? ⟨B, 3, none⟩ = some (.string ⟨#[]⟩)) (z4 : w.cell? ⟨B, 4, none⟩ = some (.slice none 0 0)) (zf : ∀ o, w.frozen? ⟨B, o, none⟩ = false) : w'.cell? ⟨B, 0, none⟩ = some (.int .i64 0) ∧ w'.cell? ⟨B, 1, none⟩ = some (.int .i64 0) ∧ w'.cell? ⟨B, 2, none⟩ = some (.int .i64 0) ∧ w'.cell? ⟨B, 3, none⟩ = some (.string ⟨#[]⟩) ∧ w'.cell? ⟨B, 4, none⟩ = some (.slice none 0 0) ∧ ∀ o, w'.frozen? ⟨B, o, none⟩ = false :=
  ⟨keep_below hb z0, keep_below hb z1, keep_below hb z2, keep_below hb z3, keep_below hb z4, fun o => (hb.frozen (p := ⟨B, o, none⟩) (show B < w.heap.size from cell_lt z0)).trans (zf o)⟩
theorem keep_allocD {w : World} {o : Obj} {p : Addr} {v : Value} (h : w.cell? p = some v) : (w.alloc o).drew.cell? p = some v := keep_alloc h
theorem below_allocD {w0 w : World} {o : Obj} (h : Below w0.heap.size w0 w) : Below w0.heap.size w0 (w.alloc o).drew := (below_alloc' h).drew
theorem cntL_le_sz (p : PT) : p.cnt ≤ p.sz + 1 := cnt_le_sz p
end Go.Proofs.Ytgfebmnlcihpnaa
