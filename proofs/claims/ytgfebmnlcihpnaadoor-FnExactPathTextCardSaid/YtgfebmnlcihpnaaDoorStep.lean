/- Steps: plain, as cells, in slices that are read and in rows of one's own. -/
import Derived.Test.YtgfebmnlcihpnaaDoorOwn
import Derived.Test.YtgfebmnlcihpnaaDoorKeepVal
import Derived.Test.YtgfebmnlcihpnaaDoorSz
import Derived.Lib.Hide
import Derived.Outline
import Derived.ProofKit
namespace Go.Proofs.YtgfebmnlcihpnaaDoor
open Go.RowKit
/-- a step: the index, whether it leads to a name -/
abbrev St := Int × Bool
@[reducible] def St.val (s : St) : Value := .agg #[.int .i64 s.1, .bool s.2]
def sv (l : List St) : List Value := l.flatMap fun s => [.int .i64 s.1, .bool s.2]
@[simp] theorem sv_nil : sv [] = [] := rfl
theorem sv_cons (s : St) (l : List St) : sv (s :: l) = .int .i64 s.1 :: .bool s.2 :: sv l := rfl
theorem sv_append (l m : List St) : sv (l ++ m) = sv l ++ sv m := by simp [sv]
@[simp] theorem sv_length (l : List St) : (sv l).length = l.length * 2 := by
  induction l with
  | nil => rfl
  | cons s l ih => rw [sv_cons]; simp only [List.length_cons, ih]; omega
theorem sv_get0 (l : List St) (j : Nat) (h : j < l.length) : (sv l)[j * 2]? = some (.int .i64 (l[j]).1) := by
  induction l generalizing j with
  | nil => simp at h
  | cons s l ih =>
    cases j with
    | zero => rfl
    | succ j => rw [sv_cons, show (j + 1) * 2 = j * 2 + 1 + 1 by omega]; simpa using ih j (by simpa using h)
theorem sv_get1 (l : List St) (j : Nat) (h : j < l.length) : (sv l)[j * 2 + 1]? = some (.bool (l[j]).2) := by
  induction l generalizing j with
  | nil => simp at h
  | cons s l ih =>
    cases j with
    | zero => rfl
    | succ j => rw [sv_cons, show (j + 1) * 2 + 1 = j * 2 + 1 + 1 + 1 by omega]; simpa using ih j (by simpa using h)
theorem sv_one' (l : List St) : ∀ u ∈ sv l, u.oneCell' = true := by
  intro u hu
  obtain ⟨s, _, hs⟩ := List.mem_flatMap.1 hu
  simp only [List.mem_cons, List.not_mem_nil, or_false] at hs
  rcases hs with rfl | rfl <;> rfl
theorem sv_take (l : List St) (k : Nat) : sv (l.take k) = (sv l).take (k * 2) := by
  induction l generalizing k with
  | nil => simp
  | cons s l ih =>
    cases k with
    | zero => simp
    | succ k => rw [List.take_succ_cons, sv_cons, sv_cons, ih, show (k + 1) * 2 = k * 2 + 1 + 1 by omega, List.take_succ_cons, List.take_succ_cons]
theorem sv_inj : ∀ (l m : List St), sv l = sv m → l = m
  | [], [], _ => rfl
  | [], _ :: _, h => by simp [sv_cons] at h
  | _ :: _, [], h => by simp [sv_cons] at h
  | s :: l, t :: m, h => by
    rw [sv_cons, sv_cons] at h
    simp only [List.cons.injEq, Value.int.injEq, Value.bool.injEq, true_and] at h
    rw [Prod.ext h.1 h.2.1, sv_inj l m h.2.2]
/-- a slice of steps reads as l, in a block below N -/
structure SAt (w : World) (N : Nat) (a : Option Addr) (cap : Nat) (l : List St) : Prop where
  hc : l.length ≤ cap
  cell : ∀ j (h : j < l.length), ∃ b o, a = some ⟨b, o, none⟩ ∧ b < N ∧ w.cell? ⟨b, o + j * 2, none⟩ = some (.int .i64 (l[j]).1) ∧ w.cell? ⟨b, o + j * 2 + 1, none⟩ = some (.bool (l[j]).2)
theorem SAt.below {w w' : World} {N M : Nat} {a : Option Addr} {cap : Nat} {l : List St} (h : SAt w N a cap l) (hb : Below M w w') (hN : N ≤ M) : SAt w' N a cap l :=
  ⟨h.hc, fun j hj => by
    obtain ⟨b, o, ha, hbN, h0, h1⟩ := h.cell j hj
    exact ⟨b, o, ha, hbN, (hb.cell (p := ⟨b, o + j * 2, none⟩) (by show b < M; omega)).trans h0, (hb.cell (p := ⟨b, o + j * 2 + 1, none⟩) (by show b < M; omega)).trans h1⟩⟩
theorem SAt.mono {w : World} {N M : Nat} {a : Option Addr} {cap : Nat} {l : List St} (h : SAt w N a cap l) (hN : N ≤ M) : SAt w M a cap l :=
  ⟨h.hc, fun j hj => by
    obtain ⟨b, o, ha, hbN, h0, h1⟩ := h.cell j hj
    exact ⟨b, o, ha, by omega, h0, h1⟩⟩
theorem SAt.nil (w : World) (N : Nat) (a : Option Addr) (cap : Nat) : SAt w N a cap [] := ⟨Nat.zero_le _, fun j hj => absurd hj (by simp)⟩
/-- without the first -/
theorem SAt.tail {w : World} {N : Nat} {b o cap : Nat} {s : St} {l : List St} (h : SAt w N (some ⟨b, o, none⟩) cap (s :: l)) : SAt w N (some ⟨b, o + 2, none⟩) (cap - 1) l :=
  ⟨by have := h.hc; simp at this; omega, fun j hj => by
    obtain ⟨b', o', ha, hbN, h0, h1⟩ := h.cell (j + 1) (by simpa using hj)
    injection ha with ha
    injection ha with e1 e2
    subst e1 e2
    refine ⟨b, o + 2, rfl, hbN, ?_, ?_⟩
    · rw [show o + 2 + j * 2 = o + (j + 1) * 2 by omega]; simpa using h0
    · rw [show o + 2 + j * 2 = o + (j + 1) * 2 by omega]; simpa using h1⟩
/-- steps in a row of one's own -/
def OwnS (w : World) (B : Nat) (a : Option Addr) (cap : Nat) (l : List St) : Prop := w.ownsRow B 34 2 (.slice a l.length cap) l.length (sv l)
theorem OwnS.lt {w : World} {B : Nat} {a : Option Addr} {cap : Nat} {l : List St} (h : OwnS w B a cap l) : ∀ g, a.map (·.block) = some g → B ≤ g ∧ g < w.heap.size := fun g hg => by
  cases a with
  | none => simp at hg
  | some a => exact World.ownsRow.lt h g (by simpa [Value.ownBlock] using hg)
theorem OwnS.blw {w w' : World} {B : Nat} {a : Option Addr} {cap : Nat} {l : List St} (h : OwnS w B a cap l) (hb : Below w.heap.size w w') : OwnS w' B a cap l :=
  own_heap h fun g hg => hb.block g (World.ownsRow.lt h g hg).2
theorem OwnS.base {w : World} {B B' : Nat} {a : Option Addr} {cap : Nat} {l : List St} (h : OwnS w B a cap l) (hB : B' ≤ B) : OwnS w B' a cap l := own_base' h hB
theorem OwnS.sat {w : World} {B : Nat} {a : Option Addr} {cap : Nat} {l : List St} (h : OwnS w B a cap l) : SAt w w.heap.size a cap l :=
  ⟨(own_cap h).2.1, fun j hj => by
    rcases h.2 with ⟨_, h0⟩ | ⟨g, cap', cur, hv, hb, _⟩
    · omega
    · injection hv with h1 h2 h3
      subst h1
      have hlt := (World.ownsRow.lt h g rfl).2
      refine ⟨g, 0, rfl, hlt, ?_, ?_⟩
      · rw [Nat.zero_add, World.ownsRow.cellAt h (j * 2) (by omega)]; exact sv_get0 l j hj
      · rw [Nat.zero_add, World.ownsRow.cellAt h (j * 2 + 1) (by omega)]; exact sv_get1 l j hj⟩
theorem stepInfo : (Tryd.prog.info? 34).map (fun i => (i.zero, i.size, i.bytes)) = some (some (.agg #[.int .i64 0, .bool false]), 2, 16) := by kernel_rfl
end Go.Proofs.YtgfebmnlcihpnaaDoor
