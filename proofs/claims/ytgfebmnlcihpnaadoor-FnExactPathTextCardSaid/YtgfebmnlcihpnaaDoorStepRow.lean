/- Rows of steps of one's own, as what a law keeps track of; their marks. -/
import Derived.Test.YtgfebmnlcihpnaaDoorStepLaw
namespace Go.Proofs.YtgfebmnlcihpnaaDoor
open Go.RowKit
set_option maxRecDepth 100000
/-- a row of steps -/
structure SR where
  a : Option Addr
  cap : Nat
  l : List St
@[reducible] def SR.val (P : SR) : Value := .slice P.a P.l.length P.cap
def SR.blks (P : SR) : List Nat := (P.a.map (·.block)).toList
def SR.Own (P : SR) (w : World) (B : Nat) : Prop := OwnS w B P.a P.cap P.l
theorem SR.Own.lt {w : World} {B : Nat} {P : SR} (h : P.Own w B) : ∀ k ∈ P.blks, B ≤ k ∧ k < w.heap.size := fun k hk => OwnS.lt h k (by simpa [SR.blks] using hk)
theorem SR.Own.kept {w w' : World} {B : Nat} {P : SR} (h : P.Own w B) (hk : ∀ k ∈ P.blks, w'.heap[k]? = w.heap[k]?) : P.Own w' B :=
  own_heap h fun g hg => hk g (by
    cases ha : P.a with
    | none => rw [ha] at hg; simp [Value.ownBlock] at hg
    | some a => rw [ha] at hg; simp [Value.ownBlock] at hg; simp [SR.blks, ha, hg])
theorem SR.Own.blw {w w' : World} {B : Nat} {P : SR} (h : P.Own w B) (hb : Below w.heap.size w w') : P.Own w' B := h.kept fun k hk => hb.block k (h.lt k hk).2
theorem SR.Own.base {w : World} {B B' : Nat} {P : SR} (h : P.Own w B) (hB : B' ≤ B) : P.Own w B' := OwnS.base h hB
theorem SR.Own.drew {w : World} {B : Nat} {P : SR} (h : P.Own w B) : P.Own w.drew B := h.kept (w' := w.drew) (fun _ _ => rfl)
theorem SR.Own.sat {w : World} {B : Nat} {P : SR} (h : P.Own w B) : SAt w w.heap.size P.a P.cap P.l := OwnS.sat h
theorem sown_blw {w w' : World} {B : Nat} {P : SR} (hb : Below w.heap.size w w') (h : P.Own w B) : P.Own w' B := h.blw hb
theorem sown_alloc {w : World} {o : Obj} {B : Nat} {P : SR} (h : P.Own w B) : P.Own (w.alloc o) B := h.blw (vbox w o)
theorem toSteps_row (w : World) (N : Nat) (a : Option Addr) (cap : Nat) (l : List St) (h : SAt w N a cap l) (hN : N ≤ w.heap.size) (hl : l.length ≤ 1048576) :
    Calls Tryd.prog 27 #[.slice a l.length cap] w fun e w' => ∃ P : SR, P.l = l ∧ e = .returned P.val ∧ P.Own w' w.heap.size ∧ P.blks.Nodup ∧ Below w.heap.size w w' := by
  refine (toStepS_any w N a cap l h hN hl).mono ?_
  rintro e w' ⟨a', cap', rfl, ho, hb⟩
  refine ⟨⟨a', cap', l⟩, rfl, rfl, ho, ?_, hb⟩
  cases a' <;> simp [SR.blks]
theorem eqsteps_row (P Q : SR) (l : List St) (hP : P.l = l) (hQ : Q.l = l) (hl : l.length ≤ 9223372036854775807) (w : World) (h : SAt w w.heap.size P.a P.cap P.l) (h2 : SAt w w.heap.size Q.a Q.cap Q.l) :
    Calls Tryd.prog 29 #[P.val, Q.val] w fun e w' => e = .returned (.bool true) ∧ Below w.heap.size w w' := by
  obtain ⟨a, cap, l'⟩ := P
  obtain ⟨b, cap2, m'⟩ := Q
  simp only at hP hQ h h2
  subst hP hQ
  exact eqStepS_yes _ w w.heap.size a b cap cap2 h h2 (Nat.le_refl _) hl
end Go.Proofs.YtgfebmnlcihpnaaDoor
