/- A body whose labels lie in one scope, left by gotos: what holds at each jump, and labels that only come later. Plain laws of the machine. -/
import Derived.Test.YtmjlbglnlpfadaaDoorRows
import Derived.Scope
import Derived.WalkKit
import Derived.WalkMore
namespace Go.Proofs.YtmjlbglnlpfadaaDoor
open Go
/-- As Q; by a goto to label l: J l. -/
def hops (J : Nat → Act → World → Prop) (Q : Exit → Act → World → Prop) : Exit → Act → World → Prop
  | .goto l, a, w => J l a w
  | e, a, w => Q e a w
theorem hops_mono {J K : Nat → Act → World → Prop} {Q : Exit → Act → World → Prop} (h : ∀ l a w, J l a w → K l a w) : ∀ e a w, hops J Q e a w → hops K Q e a w := fun e a w hq => by
  cases e with
  | goto l => exact h l a w hq
  | normal => exact hq
  | exit id => exact hq
  | ret => exact hq
  | panic ch => exact hq
  | outgrown => exact hq
theorem wp_scope_hops {P : Program} {a : Act} {w : World} {Q : Exit → Act → World → Prop} {c : Code} (J : Nat → Act → World → Prop) (μ : Nat → Nat)
    (pass : ∀ l a w, J l a w → ∃ rest, findLabel c l = some rest ∧ rest.wp P (hops (fun l' a' w' => J l' a' w' ∧ μ l' < μ l) Q) a w)
    (first : c.wp P (hops J Q) a w) : (Code.scope c).wp P Q a w := by
  intro b k cs
  have hg : ∀ l rest, findLabel c l = some rest → gotoIn l (.inScope c :: k) = some (.code rest :: .inScope c :: k) := fun l rest hf => by simp [gotoIn, hf]
  have key : ∀ n l a w, μ l = n → J l a w → ∀ rest, findLabel c l = some rest → ∃ e a' w', Q e a' w' ∧ Arrives P (lone (b.at a (.code rest :: .inScope c :: k)) cs w) b k cs e a' w' := by
    intro n
    induction n using Nat.strongRecOn with
    | _ n ih =>
      intro l a w hn hJ rest hrest
      obtain ⟨rest', hf, hw⟩ := pass l a w hJ
      obtain rfl : rest' = rest := by rw [hrest] at hf; injection hf with hf; exact hf.symm
      obtain ⟨e, a₁, w₁, hq, harr⟩ := hw b (.inScope c :: k) cs
      cases e with
      | normal => exact ⟨.normal, a₁, w₁, hq, Steps.trans harr (.one step_inScope)⟩
      | exit id => exact ⟨.exit id, a₁, w₁, hq, fun k' hk => harr k' (by simp [exitTo, hk])⟩
      | goto l' =>
        obtain ⟨hJ', hlt⟩ := hq
        obtain ⟨rest2, hf2, _⟩ := pass l' a₁ w₁ hJ'
        obtain ⟨e₂, a₂, w₂, hq₂, harr₂⟩ := ih _ (by omega) l' a₁ w₁ rfl hJ' rest2 hf2
        exact ⟨e₂, a₂, w₂, hq₂, .of_steps (harr _ (hg l' rest2 hf2)) harr₂⟩
      | ret => exact ⟨_, a₁, w₁, hq, harr⟩
      | panic ch => exact ⟨_, a₁, w₁, hq, harr⟩
      | outgrown => exact ⟨_, a₁, w₁, hq, harr⟩
  obtain ⟨e, a₁, w₁, hq, harr⟩ := first b (.inScope c :: k) cs
  cases e with
  | normal => exact ⟨.normal, a₁, w₁, hq, .head step_scope (Steps.trans harr (.one step_inScope))⟩
  | exit id => exact ⟨.exit id, a₁, w₁, hq, fun k' hk => .head step_scope (harr k' (by simp [exitTo, hk]))⟩
  | goto l' =>
    obtain ⟨rest, hf, _⟩ := pass l' a₁ w₁ hq
    obtain ⟨e₂, a₂, w₂, hq₂, harr₂⟩ := key _ l' a₁ w₁ rfl hq rest hf
    exact ⟨e₂, a₂, w₂, hq₂, .of_steps (.head step_scope (harr _ (hg l' rest hf))) harr₂⟩
  | ret => exact ⟨_, a₁, w₁, hq, .of_steps (.one step_scope) harr⟩
  | panic ch => exact ⟨_, a₁, w₁, hq, .of_steps (.one step_scope) harr⟩
  | outgrown => exact ⟨_, a₁, w₁, hq, .of_steps (.one step_scope) harr⟩
/-- A label's rest: what stands behind it. -/
def PassAt (P : Program) (c : Code) (J : Nat → Act → World → Prop) (μ : Nat → Nat) (Q : Exit → Act → World → Prop) (l : Nat) (a : Act) (w : World) : Prop :=
  ∃ R, findLabel c l = some (.seq .skip R) ∧ R.wp P (hops (fun l' a' w' => J l' a' w' ∧ μ l' < μ l) Q) a w
theorem fall_of {P : Program} {c R : Code} {J K : Nat → Act → World → Prop} {μ : Nat → Nat} {Q : Exit → Act → World → Prop} {l : Nat} {a : Act} {w : World} (h : PassAt P c J μ Q l a w) (hf : findLabel c l = some (.seq .skip R))
    (hm : ∀ l' a' w', J l' a' w' ∧ μ l' < μ l → K l' a' w') : R.wp P (hops K Q) a w := by
  obtain ⟨R', hf', hw⟩ := h
  rw [hf] at hf'
  injection hf' with hf'
  injection hf' with _ hf'
  subst hf'
  exact Code.wp_mono (hops_mono hm) hw
theorem wp_scope_falls {P : Program} {a : Act} {w : World} {Q : Exit → Act → World → Prop} {c : Code} (J : Nat → Act → World → Prop) (μ : Nat → Nat)
    (pass : ∀ l a w, J l a w → (∀ l' a' w', μ l' < μ l → J l' a' w' → PassAt P c J μ Q l' a' w') → PassAt P c J μ Q l a w)
    (first : (∀ l' a' w', J l' a' w' → PassAt P c J μ Q l' a' w') → c.wp P (hops J Q) a w) : (Code.scope c).wp P Q a w := by
  have all : ∀ n l a w, μ l = n → J l a w → PassAt P c J μ Q l a w := by
    intro n
    induction n using Nat.strongRecOn with
    | _ n ih => exact fun l a w hn hJ => pass l a w hJ fun l' a' w' hlt hJ' => ih _ (by omega) l' a' w' rfl hJ'
  refine wp_scope_hops J μ (fun l a w hJ => ?_) (first fun l' a' w' hJ' => all _ l' a' w' rfl hJ')
  obtain ⟨R, hf, hw⟩ := all _ l a w rfl hJ
  exact ⟨_, hf, wp_seq (wp_skip hw)⟩
end Go.Proofs.YtmjlbglnlpfadaaDoor
