import Derived.Test.YtdjnkcoepmackaaG0
import Derived.Lib.Hide
import Derived.Test.YtdjnkcoepmackaaG7
import Derived.Test.YtdjnkcoepmackaaG20
import Derived.Outline
import Derived.ProofKit
/- KindName of the program and of the model. -/
namespace Go.Proofs.Ytdjnkcoepmackaa
open Go.RowKit
/-- the kinds' names -/
def kname (n : Int) : ByteArray :=
  if n = 1 then ⟨#[110, 117, 108, 108]⟩ else if n = 2 then ⟨#[98, 111, 111, 108]⟩ else if n = 3 then ⟨#[105, 110, 116]⟩ else if n = 4 then ⟨#[102, 108, 116]⟩ else if n = 5 then ⟨#[111, 100, 100]⟩ else if n = 6 then ⟨#[100, 101, 99]⟩ else if n = 7 then ⟨#[116, 101, 120, 116]⟩ else if n = 8 then ⟨#[98, 121, 116, 101, 115]⟩ else if n = 9 then ⟨#[108, 105, 115, 116]⟩ else if n = 10 then ⟨#[109, 97, 112]⟩ else if n = 11 then ⟨#[116, 97, 103]⟩ else ⟨#[]⟩
theorem kind_cases (n : Int) : (n < 0 ∨ 11 < n) ∨ n = 0 ∨ n = 1 ∨ n = 2 ∨ n = 3 ∨ n = 4 ∨ n = 5 ∨ n = 6 ∨ n = 7 ∨ n = 8 ∨ n = 9 ∨ n = 10 ∨ n = 11 := by omega
theorem kname_out (n : Int) (h : n < 0 ∨ 11 < n) : kname n = ⟨#[]⟩ := by
  unfold kname
  rw [if_neg (by omega)]
  rw [if_neg (by omega)]
  rw [if_neg (by omega)]
  rw [if_neg (by omega)]
  rw [if_neg (by omega)]
  rw [if_neg (by omega)]
  rw [if_neg (by omega)]
  rw [if_neg (by omega)]
  rw [if_neg (by omega)]
  rw [if_neg (by omega)]
  rw [if_neg (by omega)]
set_option maxHeartbeats 4000000 in
theorem kind_impl (n : Int) (w : World) : Calls Try.prog 58 #[.int .i64 n] w fun e w' => e = .returned (.string (kname n)) ∧ Below w.heap.size w w' := by
  rcases kind_cases n with hc | rfl | rfl | rfl | rfl | rfl | rfl | rfl | rfl | rfl | rfl | rfl | rfl
  · rw [kname_out n hc]
    by_cases h0 : n < 0
    · go_enter Try.func58, Try.ntmps58
      go_wp2
      go_ret
      exact ⟨rfl, (Below.refl _ _).alloc (Nat.le_refl _) _⟩
    · have h1 : 12 ≤ n := by omega
      have h2 : 0 ≤ n := by omega
      clear hc h0
      go_enter Try.func58, Try.ntmps58
      go_wp2
      go_ret
      exact ⟨rfl, (Below.refl _ _).alloc (Nat.le_refl _) _⟩
  all_goals
    go_enter Try.func58, Try.ntmps58
    go_wp2
    go_ret
    exact ⟨rfl, (Below.refl _ _).alloc (Nat.le_refl _) _⟩
set_option maxHeartbeats 4000000 in
theorem kind_spec (n : Int) (w : World) : Calls Try.prog 59 #[.int .i64 n] w fun e w' => e = .returned (.string (kname n)) ∧ Below w.heap.size w w' := by
  rcases kind_cases n with hc | rfl | rfl | rfl | rfl | rfl | rfl | rfl | rfl | rfl | rfl | rfl | rfl
  · rw [kname_out n hc]
    have c := fun w1 => in_no n 0 11 w1 hc
    have C := Lib.hid c
    clear hc c
    go_enter Try.func59, Try.ntmps59
    go_wp2_with fail
    refine (C.out _).mono ?_
    rintro e w1 ⟨rfl, rfl⟩
    go_wp2
    go_ret
    exact ⟨rfl, (Below.refl _ _).alloc (Nat.le_refl _) _⟩
  all_goals
    go_enter Try.func59, Try.ntmps59
    go_wp2_with fail
    refine (in_yes _ 0 11 _ (by decide) (by decide)).mono ?_
    rintro e w1 ⟨rfl, rfl⟩
    go_wp2
    go_ret
    exact ⟨rfl, (Below.refl _ _).alloc (Nat.le_refl _) _⟩
end Go.Proofs.Ytdjnkcoepmackaa
/- Steps: plain, as cells, in slices that are read and in rows of one's own. -/
namespace Go.Proofs.Ytdjnkcoepmackaa
open Go.RowKit
/-- a step: the index, whether it leads to a name -/
abbrev St := Int × Bool
@[reducible] def St.val (s : St) : Value := .agg #[.int .i64 s.1, .bool s.2]
def stv (l : List St) : List Value := l.flatMap fun s => [.int .i64 s.1, .bool s.2]
@[simp] theorem sv_nil : stv [] = [] := rfl
theorem sv_cons (s : St) (l : List St) : stv (s :: l) = .int .i64 s.1 :: .bool s.2 :: stv l := rfl
theorem sv_append (l m : List St) : stv (l ++ m) = stv l ++ stv m := by simp [stv]
@[simp] theorem sv_length (l : List St) : (stv l).length = l.length * 2 := by
  induction l with
  | nil => rfl
  | cons s l ih => rw [sv_cons]; simp only [List.length_cons, ih]; omega
theorem sv_get0 (l : List St) (j : Nat) (h : j < l.length) : (stv l)[j * 2]? = some (.int .i64 (l[j]).1) := by
  induction l generalizing j with
  | nil => simp at h
  | cons s l ih =>
    cases j with
    | zero => rfl
    | succ j => rw [sv_cons, show (j + 1) * 2 = j * 2 + 1 + 1 by omega]; simpa using ih j (by simpa using h)
theorem sv_get1 (l : List St) (j : Nat) (h : j < l.length) : (stv l)[j * 2 + 1]? = some (.bool (l[j]).2) := by
  induction l generalizing j with
  | nil => simp at h
  | cons s l ih =>
    cases j with
    | zero => rfl
    | succ j => rw [sv_cons, show (j + 1) * 2 + 1 = j * 2 + 1 + 1 + 1 by omega]; simpa using ih j (by simpa using h)
theorem sv_one' (l : List St) : ∀ u ∈ stv l, u.oneCell' = true := by
  intro u hu
  obtain ⟨s, _, hs⟩ := List.mem_flatMap.1 hu
  simp only [List.mem_cons, List.not_mem_nil, or_false] at hs
  rcases hs with rfl | rfl <;> rfl
theorem sv_take (l : List St) (k : Nat) : stv (l.take k) = (stv l).take (k * 2) := by
  induction l generalizing k with
  | nil => simp
  | cons s l ih =>
    cases k with
    | zero => simp
    | succ k => rw [List.take_succ_cons, sv_cons, sv_cons, ih, show (k + 1) * 2 = k * 2 + 1 + 1 by omega, List.take_succ_cons, List.take_succ_cons]
theorem sv_inj : ∀ (l m : List St), stv l = stv m → l = m
  | [], [], _ => rfl
  | [], _ :: _, h => by simp [sv_cons] at h
  | _ :: _, [], h => by simp [sv_cons] at h
  | s :: l, t :: m, h => by
    rw [sv_cons, sv_cons] at h
    simp only [List.cons.injEq, Value.int.injEq, Value.bool.injEq, true_and] at h
    rw [Prod.ext h.1 h.2.1, sv_inj l m h.2.2]
/-- a slice of steps reads as l, in a block below N -/
structure SAt (w : World) (N : Nat) (a : Option Addr) (cap : Nat) (l : List St) : Prop where
  hc : l.length ≤ cap
  cell : ∀ j (h : j < l.length), ∃ b o, a = some ⟨b, o, none⟩ ∧ b < N ∧ w.cell? ⟨b, o + j * 2, none⟩ = some (.int .i64 (l[j]).1) ∧ w.cell? ⟨b, o + j * 2 + 1, none⟩ = some (.bool (l[j]).2)
theorem SAt.below {w w' : World} {N M : Nat} {a : Option Addr} {cap : Nat} {l : List St} (h : SAt w N a cap l) (hb : Below M w w') (hN : N ≤ M) : SAt w' N a cap l :=
  ⟨h.hc, fun j hj => by
    obtain ⟨b, o, ha, hbN, h0, h1⟩ := h.cell j hj
    exact ⟨b, o, ha, hbN, (hb.cell (p := ⟨b, o + j * 2, none⟩) (by show b < M; omega)).trans h0, (hb.cell (p := ⟨b, o + j * 2 + 1, none⟩) (by show b < M; omega)).trans h1⟩⟩
theorem SAt.mono {w : World} {N M : Nat} {a : Option Addr} {cap : Nat} {l : List St} (h : SAt w N a cap l) (hN : N ≤ M) : SAt w M a cap l :=
  ⟨h.hc, fun j hj => by
    obtain ⟨b, o, ha, hbN, h0, h1⟩ := h.cell j hj
    exact ⟨b, o, ha, by omega, h0, h1⟩⟩
theorem SAt.nil (w : World) (N : Nat) (a : Option Addr) (cap : Nat) : SAt w N a cap [] := ⟨Nat.zero_le _, fun j hj => absurd hj (by simp)⟩
/-- without the first -/
theorem SAt.tail {w : World} {N : Nat} {b o cap : Nat} {s : St} {l : List St} (h : SAt w N (some ⟨b, o, none⟩) cap (s :: l)) : SAt w N (some ⟨b, o + 2, none⟩) (cap - 1) l :=
  ⟨by have := h.hc; simp at this; omega, fun j hj => by
    obtain ⟨b', o', ha, hbN, h0, h1⟩ := h.cell (j + 1) (by simpa using hj)
    injection ha with ha
    injection ha with e1 e2
    subst e1 e2
    refine ⟨b, o + 2, rfl, hbN, ?_, ?_⟩
    · rw [show o + 2 + j * 2 = o + (j + 1) * 2 by omega]; simpa using h0
    · rw [show o + 2 + j * 2 = o + (j + 1) * 2 by omega]; simpa using h1⟩
/-- steps in a row of one's own -/
def OwnS (w : World) (B : Nat) (a : Option Addr) (cap : Nat) (l : List St) : Prop := w.ownsRow B 105 2 (.slice a l.length cap) l.length (stv l)
theorem OwnS.lt {w : World} {B : Nat} {a : Option Addr} {cap : Nat} {l : List St} (h : OwnS w B a cap l) : ∀ g, a.map (·.block) = some g → B ≤ g ∧ g < w.heap.size := fun g hg => by
  cases a with
  | none => simp at hg
  | some a => exact World.ownsRow.lt h g (by simpa [Value.ownBlock] using hg)
theorem OwnS.blw {w w' : World} {B : Nat} {a : Option Addr} {cap : Nat} {l : List St} (h : OwnS w B a cap l) (hb : Below w.heap.size w w') : OwnS w' B a cap l :=
  own_heap h fun g hg => hb.block g (World.ownsRow.lt h g hg).2
theorem OwnS.base {w : World} {B B' : Nat} {a : Option Addr} {cap : Nat} {l : List St} (h : OwnS w B a cap l) (hB : B' ≤ B) : OwnS w B' a cap l := own_base' h hB
theorem OwnS.sat {w : World} {B : Nat} {a : Option Addr} {cap : Nat} {l : List St} (h : OwnS w B a cap l) : SAt w w.heap.size a cap l :=
  ⟨(own_cap h).2.1, fun j hj => by
    rcases h.2 with ⟨_, h0⟩ | ⟨g, cap', cur, hv, hb, _⟩
    · omega
    · injection hv with h1 h2 h3
      subst h1
      have hlt := (World.ownsRow.lt h g rfl).2
      refine ⟨g, 0, rfl, hlt, ?_, ?_⟩
      · rw [Nat.zero_add, World.ownsRow.cellAt h (j * 2) (by omega)]; exact sv_get0 l j hj
      · rw [Nat.zero_add, World.ownsRow.cellAt h (j * 2 + 1) (by omega)]; exact sv_get1 l j hj⟩
theorem stepInfo : (Try.prog.info? 105).map (fun i => (i.zero, i.size, i.bytes)) = some (some (.agg #[.int .i64 0, .bool false]), 2, 16) := by kernel_rfl
end Go.Proofs.Ytdjnkcoepmackaa
