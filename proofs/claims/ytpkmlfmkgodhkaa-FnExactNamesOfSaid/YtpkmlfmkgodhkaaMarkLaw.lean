/- Marks on results that are slices. -/
import Derived.Test.YtpkmlfmkgodhkaaListLaw
import Derived.Test.YtpkmlfmkgodhkaaHeldVal
namespace Go.Proofs.Ytpkmlfmkgodhkaa
open Go.RowKit
/-- a slice of trees in rows of its own, as a tree -/
def FreshS (w : World) (p : List PT) (e : Ending) (w' : World) : Prop := ∃ X : AT, X.pt = lst p ∧ e = .returned (.slice X.a X.l.length X.cap) ∧ X.Own w' w.heap.size ∧ X.blks.Nodup ∧ Below w.heap.size w w'
theorem FreshL.s {w w' : World} {p : List PT} {e : Ending} (h : FreshL w p e w') : FreshS w p e w' := by
  obtain ⟨a', cap', l', h1, h2, h3, h4, h5⟩ := h
  exact ⟨.mk 0 0 0 [] a' cap' l', by simp [AT.pt, h1, lst], h2, h3.own, h4, h5⟩
theorem markS_keep (X : AT) (w : World) (B : Nat) (h : X.Own w B) (hnd : X.blks.Nodup) (hb : PT.cntL (AT.ptL X.l) ≤ 2097152) :
    Calls Try.prog 63 #[.slice X.a X.l.length X.cap, .int .i64 1] w fun e w' => (e = .returned (.int .i64 (1 + 4 * PT.cntL (AT.ptL X.l) : Nat)) ∧ OwnL w' B X.a X.cap (AT.markL 1 X.l)) ∧ OnlyBs X.blks w w' := by
  refine (markValS_any X w B 1 h.l' (by rw [← AT.blks_eq]; exact hnd) (Nat.le_refl _) (by omega)).mono fun e w' hp => ?_
  exact ⟨⟨hp.1, hp.2.1⟩, by rw [AT.blks_eq]; exact hp.2.2⟩
theorem heldS_tree (X : AT) (w : World) (B : Nat) (h : OwnL w B X.a X.cap (AT.markL 1 X.l)) (hb : PT.cntL (AT.ptL X.l) ≤ 2097152) :
    Calls Try.prog 64 #[.slice X.a X.l.length X.cap, .int .i64 1] w fun e w' => e = .returned (.int .i64 (1 + 4 * PT.cntL (AT.ptL X.l) : Nat)) ∧ Below w.heap.size w w' :=
  heldValS_any X w w.heap.size 1 h.lv (Nat.le_refl _) (Nat.le_refl _) (by omega)
theorem cntL_le_sz (p : PT) : p.cnt ≤ p.sz + 1 := cnt_le_sz p
end Go.Proofs.Ytpkmlfmkgodhkaa
