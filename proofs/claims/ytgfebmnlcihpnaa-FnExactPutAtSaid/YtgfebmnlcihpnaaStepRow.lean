/- Rows of steps of one's own, as what a law keeps track of; their marks. -/
import Derived.Test.YtgfebmnlcihpnaaStepLaw
import Derived.Test.YtgfebmnlcihpnaaMarkMath
namespace Go.Proofs.Ytgfebmnlcihpnaa
open Go.RowKit
set_option maxRecDepth 100000
/-- a row of steps -/
structure SR where
  a : Option Addr
  cap : Nat
  l : List St
@[reducible] def SR.val (P : SR) : Value := .slice P.a P.l.length P.cap
def SR.blks (P : SR) : List Nat := (P.a.map (·.block)).toList
def SR.Own (P : SR) (w : World) (B : Nat) : Prop := OwnS w B P.a P.cap P.l
theorem SR.Own.lt {w : World} {B : Nat} {P : SR} (h : P.Own w B) : ∀ k ∈ P.blks, B ≤ k ∧ k < w.heap.size := fun k hk => OwnS.lt h k (by simpa [SR.blks] using hk)
theorem SR.Own.kept {w w' : World} {B : Nat} {P : SR} (h : P.Own w B) (hk : ∀ k ∈ P.blks, w'.heap[k]? = w.heap[k]?) : P.Own w' B :=
  own_heap h fun g hg => hk g (by
    cases ha : P.a with
    | none => rw [ha] at hg; simp [Value.ownBlock] at hg
    | some a => rw [ha] at hg; simp [Value.ownBlock] at hg; simp [SR.blks, ha, hg])
theorem SR.Own.blw {w w' : World} {B : Nat} {P : SR} (h : P.Own w B) (hb : Below w.heap.size w w') : P.Own w' B := h.kept fun k hk => hb.block k (h.lt k hk).2
theorem SR.Own.base {w : World} {B B' : Nat} {P : SR} (h : P.Own w B) (hB : B' ≤ B) : P.Own w B' := OwnS.base h hB
theorem SR.Own.drew {w : World} {B : Nat} {P : SR} (h : P.Own w B) : P.Own w.drew B := h.kept (w' := w.drew) (fun _ _ => rfl)
theorem SR.Own.onlyBs {w w' : World} {B : Nat} {P : SR} {bs : List Nat} (h : P.Own w B) (ho : OnlyBs bs w w') (hd : ∀ k ∈ P.blks, k ∉ bs) : P.Own w' B := h.kept fun k hk => ho.block k (h.lt k hk).2 (hd k hk)
theorem SR.Own.sat {w : World} {B : Nat} {P : SR} (h : P.Own w B) : SAt w w.heap.size P.a P.cap P.l := OwnS.sat h
theorem sown_blw {w w' : World} {B : Nat} {P : SR} (hb : Below w.heap.size w w') (h : P.Own w B) : P.Own w' B := h.blw hb
theorem sown_alloc {w : World} {o : Obj} {B : Nat} {P : SR} (h : P.Own w B) : P.Own (w.alloc o) B := h.blw (vbox w o)
theorem toSteps_row (w : World) (N : Nat) (a : Option Addr) (cap : Nat) (l : List St) (h : SAt w N a cap l) (hN : N ≤ w.heap.size) (hl : l.length ≤ 1048576) :
    Calls Try.prog 73 #[.slice a l.length cap] w fun e w' => ∃ P : SR, P.l = l ∧ e = .returned P.val ∧ P.Own w' w.heap.size ∧ P.blks.Nodup ∧ Below w.heap.size w w' := by
  refine (toStepS_any w N a cap l h hN hl).mono ?_
  rintro e w' ⟨a', cap', rfl, ho, hb⟩
  refine ⟨⟨a', cap', l⟩, rfl, rfl, ho, ?_, hb⟩
  cases a' <;> simp [SR.blks]
theorem eqsteps_row (P Q : SR) (l : List St) (hP : P.l = l) (hQ : Q.l = l) (hl : l.length ≤ 9223372036854775807) (w : World) (h : SAt w w.heap.size P.a P.cap P.l) (h2 : SAt w w.heap.size Q.a Q.cap Q.l) :
    Calls Try.prog 74 #[P.val, Q.val] w fun e w' => e = .returned (.bool true) ∧ Below w.heap.size w w' := by
  obtain ⟨a, cap, l'⟩ := P
  obtain ⟨b, cap2, m'⟩ := Q
  simp only at hP hQ h h2
  subst hP hQ
  exact eqStepS_yes _ w w.heap.size a b cap cap2 h h2 (Nat.le_refl _) hl
theorem mark_steps (P : SR) (w : World) (B c : Nat) (h : P.Own w B) (hl : P.l.length ≤ 1048576) (hc : c ≤ 100000000) :
    Calls Try.prog 75 #[P.val, .int .i64 (c : Nat)] w fun e w' => (e = .returned (.int .i64 (c + 2 * P.l.length : Nat)) ∧ True) ∧ OnlyBs P.blks w w' := by
  obtain ⟨a, cap, l⟩ := P
  have H0 := Lib.hid (show w.ownsRow B 65 2 (.slice a l.length cap) l.length (sv l) from h)
  have hw : ∀ i : Nat, i < l.length → IntKind.i64.wrap ((c : Int) + 2 * i + 1) = (c : Int) + 2 * i + 1 ∧ IntKind.i64.wrap ((c : Int) + 2 * i + 1 + 1) = (c : Int) + 2 * i + 1 + 1 := fun i hi => by
    replace hl : l.length ≤ 1048576 := hl
    exact ⟨IntWalk.i64_in _ (by omega), IntWalk.i64_in _ (by omega)⟩
  replace hl : l.length ≤ 1048576 := hl
  show Calls Try.prog 75 #[.slice a l.length cap, .int .i64 (c : Nat)] w fun e w' => (e = .returned (.int .i64 (c + 2 * l.length : Nat)) ∧ True) ∧ OnlyBs ((a.map (·.block)).toList) w w'
  rcases h.2 with ⟨hn, h0⟩ | ⟨g, cap', cur, hv, hb, hg, hnc, hcm, hcs, htake⟩
  · replace h0 : l.length = 0 := h0
    obtain rfl : l = [] := List.eq_nil_of_length_eq_zero h0
    clear hn h0 h hw
    go_enter Try.func75, Try.ntmps75
    go_wp2
    go_loopw [1, 5] (fun k i wr => k = .int .i64 c ∧ i = .int .i64 0 ∧ wr = w) (fun _ _ _ => 0)
    case atStart => exact ⟨rfl, rfl, rfl⟩
    case round =>
      obtain ⟨rfl, rfl, rfl⟩ := hrel
      go_wp2
      go_ret
      exact ⟨⟨by simp, trivial⟩, OnlyBs.refl _ _⟩
  · injection hv with h1 h2 h3
    replace h1 : a = some ⟨g, 0, none⟩ := h1
    subst h1
    clear hb hg hnc hcm hcs htake h h2 h3
    have HW := Lib.hid hw
    clear hw
    go_enter Try.func75, Try.ntmps75
    go_wp2
    go_loopw [1, 5] (fun k i wr => ∃ (i' : Nat) (xs : List Value), k = .int .i64 ((c : Int) + 2 * i') ∧ i = .int .i64 i' ∧ i' ≤ l.length ∧ Hid (wr.ownsRow B 65 2 (.slice (some ⟨g, 0, none⟩) l.length cap) l.length xs) ∧ Hid (OnlyBs [g] w wr)) (fun _ i _ => l.length - (intOf i).toNat)
    case atStart => exact ⟨0, sv l, by simp, rfl, Nat.zero_le _, H0, Lib.hid (OnlyBs.refl _ _)⟩
    case round =>
      obtain ⟨i', xs, rfl, rfl, hi', HO, HB⟩ := hrel
      by_cases hlt : i' < l.length
      · obtain ⟨hw1, hw2⟩ := HW.out i' hlt
        have hfr := HO.out.frozenAt
        have hcell : ∀ c, c < 2 → ∃ u, wr.cell? ⟨g, i' * 2 + c, none⟩ = some u := fun c hc => by
          have h1 : i' * 2 + c < l.length * 2 := by omega
          exact ⟨_, (HO.out.cellAt (i' * 2 + c) h1).trans (List.getElem?_eq_getElem (by rw [HO.out.1]; exact h1))⟩
        obtain ⟨u0, k0⟩ := hcell 0 (by omega)
        obtain ⟨u1, k1⟩ := hcell 1 (by omega)
        rw [Nat.add_zero] at k0
        clear hcell
        go_wp2
        refine ⟨⟨i' + 1, _, by first | (congr 1; omega) | congr 1, by go_num, by omega, Lib.hid ((HO.out.stored (i' * 2) _).1.stored (i' * 2 + 1) _).1, Lib.hid ((HB.out.set (by simp)).set (by simp))⟩, ?_⟩
        simp [intOf]; omega
      · obtain heq : i' = l.length := by omega
        go_wp2
        go_ret
        exact ⟨⟨ret_int (by rw [heq]; omega), trivial⟩, HB.out⟩
end Go.Proofs.Ytgfebmnlcihpnaa
