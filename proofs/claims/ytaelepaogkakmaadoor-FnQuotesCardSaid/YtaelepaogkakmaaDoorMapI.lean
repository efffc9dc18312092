/- A map from integers to integers that the call makes, as a function: filled, asked, ranged over. -/
import Derived.Test.YtaelepaogkakmaaDoorRows
import Derived.WalkKit
import Derived.ProofKit
import Derived.Maps.OwnSet
import Derived.Maps.RangeWalk
namespace Go.Proofs.YtaelepaogkakmaaDoor
open Go.RowKit Go.Maps
section
variable {P : Program} {K E t : TypeId} {qk qe : IntKind} {w : World} {b n : Nat} {f : Int → Option Int}
/-- the datum D reads as f -/
def ReadsF (qk qe : IntKind) (D : DataW Unit) (f : Int → Option Int) : Prop := ∀ k, Maps.has D (.int qk k) = (f k).isSome ∧ ∀ z, D.atKey (.int qk k) z = match f k with | some c => .lit (.int qe c) | none => z
/-- block b is a map that reads as f -/
def MapI (P : Program) (K E : TypeId) (qk qe : IntKind) (w : World) (b n : Nat) (f : Int → Option Int) : Prop := ∃ D : DataW Unit, w.ownsMap P K (plainElem P E) b n D ∧ ReadsF qk qe D f
def upd (f : Int → Option Int) (k c : Int) : Int → Option Int := fun x => if x = k then some c else f x
theorem reads_put {D : DataW Unit} (hD : Maps.IsMap D) (h : ReadsF qk qe D f) (k c : Int) : ReadsF qk qe (D.put (.int qk k) (.lit (.int qe c))) (upd f k c) := by
  intro x
  unfold upd
  by_cases hx : x = k
  · subst hx
    simp only [if_pos]
    have hl : WideAt.IsKeyLit (Lit.int qk x) := trivial
    exact ⟨Maps.has_put_same hD hl _, fun z => Maps.atKey_put_same hD hl _ z⟩
  · have hne : (Lit.int qk x) ≠ .int qk k := fun e => hx (by injection e)
    simp only [if_neg hx]
    exact ⟨(Maps.has_put_other hne _).trans (h x).1, fun z => (Maps.atKey_put_other hne _ z).trans ((h x).2 z)⟩
theorem MapI.made (w : World) : MapI P K E qk qe (w.alloc (.map #[] 0)) w.heap.size 0 (fun _ => none) := ⟨.map [], World.ownsMap_made _ _ _ _, fun _ => ⟨rfl, fun _ => rfl⟩⟩
theorem MapI.lt (h : MapI P K E qk qe w b n f) : b < w.heap.size := by obtain ⟨D, ho, _⟩ := h; exact ho.lt
theorem MapI.kept {w' : World} {row : Option Nat} (h : MapI P K E qk qe w b n f) (hg : w.grownBy w' row) (hne : some b ≠ row) : MapI P K E qk qe w' b n f := by
  obtain ⟨D, ho, hr⟩ := h
  exact ⟨D, ho.kept hg hne, hr⟩
theorem MapI.below {w' : World} {N : Nat} (h : MapI P K E qk qe w b n f) (hb : Below N w w') (hN : b < N) : MapI P K E qk qe w' b n f := by
  obtain ⟨D, ⟨es, clock, h1, h2⟩, hr⟩ := h
  exact ⟨D, ⟨es, clock, (hb.block b hN).trans h1, h2⟩, hr⟩
theorem wpList_insert_I (w : World) {ops : Array Oper} {rest : List Oper} {o : Oper} {a : Act} {Q : Exit → Act → World → Prop} (hg : o.guard = none) (m x v : Operand) (t : TypeId) (hop : o.op = Op.insert t m x v)
    (K E : TypeId) (qk qe : IntKind) (hK : P.underlying K = some (.int qk)) (hE : P.underlying E = some (.int qe)) (ht : P.underlying t = some (.map K E)) (b n : Nat) (f : Int → Option Int) (hm : a.eval m = .map (some b))
    (h : MapI P K E qk qe w b n f) (hn : n < maxLen) (k c : Int) (hx : a.eval x = .int qk k) (hv : a.eval v = .int qe c) (wk : (Lit.int qk k).wf = true) (wc : (Lit.int qe c).wf = true)
    (hk : ∀ w', MapI P K E qk qe w' b (n + 1) (upd f k c) → w.grownBy w' (some b) → wpList P ops Q rest (a.put o.dst undef) w') : wpList P ops Q (o :: rest) a w := by
  obtain ⟨D, ho, hr⟩ := h
  refine wpList_plain hg fun K' hK' => ?_
  obtain ⟨w', hrun, r1, r2⟩ := ho.update (int_keyed hK) ht hn (keyOf_int_mk hK wk) (plainElem_int hE wc)
  unfold Oper.wp
  simp [execOp, hop, hm, hx, hv, hrun, Result.andThen]
  exact hK' _ _ (hk w' ⟨_, r1, reads_put ho.isMap hr k c⟩ r2)
theorem wpList_update_I (w : World) {ops : Array Oper} {rest : List Oper} {o : Oper} {a : Act} {Q : Exit → Act → World → Prop} (hg : o.guard = none) (m x v : Operand) (t : TypeId) (hop : o.op = Op.mapUpdate t m x v)
    (K E : TypeId) (qk qe : IntKind) (hK : P.underlying K = some (.int qk)) (hE : P.underlying E = some (.int qe)) (ht : P.underlying t = some (.map K E)) (b n : Nat) (f : Int → Option Int) (hm : a.eval m = .map (some b))
    (h : MapI P K E qk qe w b n f) (hn : n < maxLen) (k c : Int) (hx : a.eval x = .int qk k) (hv : a.eval v = .int qe c) (wk : (Lit.int qk k).wf = true) (wc : (Lit.int qe c).wf = true)
    (hk : ∀ w', MapI P K E qk qe w' b (n + 1) (upd f k c) → w.grownBy w' (some b) → wpList P ops Q rest (a.put o.dst undef) w') : wpList P ops Q (o :: rest) a w := by
  obtain ⟨D, ho, hr⟩ := h
  refine wpList_plain hg fun K' hK' => ?_
  obtain ⟨w', hrun, r1, r2⟩ := ho.update (int_keyed hK) ht hn (keyOf_int_mk hK wk) (plainElem_int hE wc)
  unfold Oper.wp
  simp [execOp, hop, hm, hx, hv, hrun, Result.andThen]
  exact hK' _ _ (hk w' ⟨_, r1, reads_put ho.isMap hr k c⟩ r2)
theorem MapI.look (h : MapI P K E qk qe w b n f) (hK : P.underlying K = some (.int qk)) (hE : P.underlying E = some (.int qe)) (ht : P.underlying t = some (.map K E)) (hz : (zeroValue E).run P w = .ok (.int qe 0) w) (k : Int) (wk : (Lit.int qk k).wf = true) :
    (Instr.lookup t (.map (some b)) (.int qk k) true).run P w = .ok (.tuple #[.int qe ((f k).getD 0), .bool (f k).isSome]) w := by
  obtain ⟨D, ho, hr⟩ := h
  obtain ⟨v, ps, hrun, hv⟩ := ho.look_ok (int_keyed hK) ht hz (plainElem_int hE (by cases qe <;> decide)) (keyOf_int_mk hK wk)
  obtain ⟨c, rfl, hc, _⟩ := plainElem_int_inv hE hv
  rw [hrun, (hr k).1]
  have h2 := (hr k).2 (.lit (.int qe 0))
  have hc1 : D.atKey (.int qk k) (.lit (.int qe 0)) = .lit (.int qe c) := congrArg Prod.fst hc
  rw [hc1] at h2
  cases hf : f k with
  | none => rw [hf] at h2; simp only at h2; injection h2 with h2; injection h2 with _ h2; rw [h2]; rfl
  | some d => rw [hf] at h2; simp only at h2; injection h2 with h2; injection h2 with _ h2; rw [h2]; rfl
end
end Go.Proofs.YtaelepaogkakmaaDoor
