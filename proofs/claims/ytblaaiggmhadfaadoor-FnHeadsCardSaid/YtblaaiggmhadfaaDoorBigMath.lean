/- Big-endian integers: plain facts. -/
import Derived.Test.YtblaaiggmhadfaaDoorRows
namespace Go.Proofs.YtblaaiggmhadfaaDoor
/-- the k low bytes of n, the highest first -/
def be (n : Nat) : Nat → List UInt8
  | 0 => []
  | k + 1 => UInt8.ofNat (n / 256 ^ k) :: be n k
@[simp] theorem be_length (n : Nat) : ∀ k, (be n k).length = k
  | 0 => rfl
  | k + 1 => by simp [be, be_length n k]
theorem be_getElem (n : Nat) : ∀ (k j : Nat) (h : j < (be n k).length), (be n k)[j] = UInt8.ofNat (n / 256 ^ (k - 1 - j))
  | k + 1, 0, h => rfl
  | k + 1, j + 1, h => by
    simp only [be, List.getElem_cons_succ]
    rw [be_getElem n k j]
    congr 3
    omega
theorem be_drop (n : Nat) : ∀ (k j : Nat), (be n (j + k)).drop k = be n j
  | 0, j => rfl
  | k + 1, j => by
    rw [← Nat.add_assoc]
    simp only [be, List.drop_succ_cons]
    exact be_drop n k j
theorem be_snoc (n : Nat) : ∀ k, be n (k + 1) = be (n / 256) k ++ [UInt8.ofNat n]
  | 0 => by simp [be]
  | k + 1 => by
    rw [be, be_snoc n k, be, Nat.div_div_eq_div_mul, Nat.pow_succ, Nat.mul_comm 256, List.cons_append]
def val (l : List UInt8) : Nat := l.foldl (fun a c => 256 * a + c.toNat) 0
theorem val_nil : val [] = 0 := rfl
theorem val_snoc (l : List UInt8) (c : UInt8) : val (l ++ [c]) = 256 * val l + c.toNat := by simp [val]
theorem bval_take (l : List UInt8) (k : Nat) (h : k < l.length) : val (l.take (k + 1)) = 256 * val (l.take k) + l[k].toNat := by
  rw [List.take_succ_eq_append_getElem h, val_snoc]
theorem snoc_ind {P : List UInt8 → Prop} (h0 : P []) (h1 : ∀ l c, P l → P (l ++ [c])) : ∀ (n : Nat) (l : List UInt8), l.length = n → P l
  | 0, l, h => by rw [List.eq_nil_of_length_eq_zero h]; exact h0
  | n + 1, l, h => by
    have hne : l ≠ [] := by intro e; rw [e] at h; simp at h
    rw [← List.dropLast_concat_getLast hne]
    exact h1 _ _ (snoc_ind h0 h1 n _ (by simp [h]))
theorem val_lt (l : List UInt8) : val l < 256 ^ l.length := by
  refine snoc_ind (P := fun l => val l < 256 ^ l.length) (by simp [val]) (fun l c h => ?_) l.length l rfl
  rw [val_snoc, List.length_append, List.length_singleton, Nat.pow_succ]
  have : c.toNat < 256 := UInt8.toNat_lt c
  omega
theorem be_val (l : List UInt8) : be (val l) l.length = l := by
  refine snoc_ind (P := fun l => be (val l) l.length = l) rfl (fun l c h => ?_) l.length l rfl
  have hc : c.toNat < 256 := UInt8.toNat_lt c
  have h1 : (256 * val l + c.toNat) / 256 = val l := by omega
  have h2 : UInt8.ofNat (256 * val l + c.toNat) = c := by
    apply UInt8.toNat_inj.1
    simp
  rw [val_snoc, List.length_append, List.length_singleton, be_snoc, h1, h2, h]
theorem val_be (n : Nat) : ∀ k, n < 256 ^ k → val (be n k) = n := by
  intro k
  induction k generalizing n with
  | zero => intro h; simp at h; subst h; rfl
  | succ k ih =>
    intro h
    rw [Nat.pow_succ] at h
    rw [be_snoc, val_snoc, ih (n / 256) (by omega)]
    have : (UInt8.ofNat n).toNat = n % 256 := by simp
    omega
theorem val_mono (l : List UInt8) (k : Nat) : val (l.take k) ≤ val l := by
  by_cases hk : k ≤ l.length
  · obtain ⟨d, hd⟩ : ∃ d, l.length = k + d := ⟨l.length - k, by omega⟩
    clear hk
    induction d generalizing k with
    | zero => rw [List.take_of_length_le (by omega)]; exact Nat.le_refl _
    | succ d ih =>
      have := ih (k + 1) (by omega)
      have h2 := bval_take l k (by omega)
      omega
  · rw [List.take_of_length_le (by omega)]; exact Nat.le_refl _
theorem byte_of (m : Nat) : ((UInt8.ofNat m).toNat : Int) = (m : Int) % 256 := by simp
/-- the widths that exist; whether n fits into width x -/
def widOk (x : Int) : Prop := x = 1 ∨ x = 2 ∨ x = 4 ∨ x = 8
def fitB (n x : Int) : Prop := 0 ≤ n ∧ ((x = 1 ∧ n < 256) ∨ (x = 2 ∧ n < 65536) ∨ (x = 4 ∧ n < 4294967296) ∨ x = 8)
instance : DecidablePred widOk := fun x => by unfold widOk; infer_instance
instance (n x : Int) : Decidable (fitB n x) := by unfold fitB; infer_instance
theorem fit_mk {n x : Int} (h : 0 ≤ n ∧ ((x = 1 ∧ n < 256) ∨ (x = 2 ∧ n < 65536) ∨ (x = 4 ∧ n < 4294967296) ∨ x = 8)) : fitB n x := h
theorem fit_un {n x : Int} (h : fitB n x) : 0 ≤ n ∧ ((x = 1 ∧ n < 256) ∨ (x = 2 ∧ n < 65536) ∨ (x = 4 ∧ n < 4294967296) ∨ x = 8) := h
theorem wid_un {x : Int} (h : widOk x) : x = 1 ∨ x = 2 ∨ x = 4 ∨ x = 8 := h
theorem fit_wid {n x : Int} (h : fitB n x) : widOk x := by have := fit_un h; unfold widOk; omega
theorem fit_zero {x : Int} : fitB 0 x ↔ widOk x := by unfold fitB widOk; omega
/-- what PutBig appends -/
def bigL (n x : Int) : List UInt8 := if fitB n x then be n.toNat x.toNat else []
theorem bigL_yes {n x : Int} (h : fitB n x) : bigL n x = be n.toNat x.toNat := by unfold bigL; rw [if_pos h]
theorem bigL_no {n x : Int} (h : ¬ fitB n x) : bigL n x = [] := by unfold bigL; rw [if_neg h]
theorem bigL_len (n x : Int) : (bigL n x).length ≤ 8 := by
  unfold bigL; split
  · rename_i h; have := fit_un h; rw [be_length]; omega
  · exact Nat.zero_le _
/-- the number that GetBig reads -/
def bigN (l : List UInt8) (a x : Int) : Nat := val ((l.drop a.toNat).take x.toNat)
def bigIn (l : List UInt8) (a x : Int) : Prop := widOk x ∧ 0 ≤ a ∧ a + x ≤ l.length
def bigOk (l : List UInt8) (a x : Int) : Prop := bigIn l a x ∧ bigN l a x ≤ 1000000000000000
instance (l : List UInt8) (a x : Int) : Decidable (bigIn l a x) := by unfold bigIn; infer_instance
instance (l : List UInt8) (a x : Int) : Decidable (bigOk l a x) := by unfold bigOk; infer_instance
def bigR (l : List UInt8) (a x : Int) : Int := if bigOk l a x then bigN l a x else 0
theorem bigR_yes {l : List UInt8} {a x : Int} (h : bigOk l a x) : bigR l a x = bigN l a x := by unfold bigR; rw [if_pos h]
theorem bigR_no {l : List UInt8} {a x : Int} (h : ¬ bigOk l a x) : bigR l a x = 0 := by unfold bigR; rw [if_neg h]
/-- the width that WidthFor answers -/
def widR (n : Int) : Int := if n < 0 then 0 else if n < 256 then 1 else if n < 65536 then 2 else if n < 4294967296 then 4 else 8
end Go.Proofs.YtblaaiggmhadfaaDoor
