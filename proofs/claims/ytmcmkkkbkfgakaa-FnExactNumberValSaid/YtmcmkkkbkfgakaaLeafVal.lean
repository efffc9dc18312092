/- IntVal, TextVal, NumberVal of the program and of the model; marks of a tree without elements. -/
import Derived.Test.YtmcmkkkbkfgakaaTree
import Derived.Test.YtmcmkkkbkfgakaaOwn
import Derived.Lib.Hide
import Derived.Outline
import Derived.ProofKit
namespace Go.Proofs.Ytmcmkkkbkfgakaa
open Go.RowKit
theorem two (w : World) (a b : Obj) : Below w.heap.size w ((w.alloc a).alloc b) := ((Below.refl w.heap.size w).alloc (Nat.le_refl _) a).alloc (by simp) b
theorem zbox (w : World) {t : TypeId} {wr : World} (hb : Below (w.alloc (.cells #[.int .i64 0, .int .i64 0, .int .i64 0, .string ⟨#[]⟩, .slice none 0 0] t)).heap.size (w.alloc (.cells #[.int .i64 0, .int .i64 0, .int .i64 0, .string ⟨#[]⟩, .slice none 0 0] t)) wr) :
    wr.cell? ⟨w.heap.size, 0, none⟩ = some (.int .i64 0) ∧ wr.cell? ⟨w.heap.size, 1, none⟩ = some (.int .i64 0) ∧ wr.cell? ⟨w.heap.size, 2, none⟩ = some (.int .i64 0) ∧ wr.cell? ⟨w.heap.size, 3, none⟩ = some (.string ⟨#[]⟩) ∧ wr.cell? ⟨w.heap.size, 4, none⟩ = some (.slice none 0 0) ∧ (∀ o, wr.frozen? ⟨w.heap.size, o, none⟩ = false) := by
  refine ⟨?_, ?_, ?_, ?_, ?_, fun o => (hb.frozen (by simp)).trans (by simp [go_sem])⟩ <;> exact (hb.cell (by simp)).trans (by simp [go_sem])
theorem zbox2 (w : World) (o : Obj) {t : TypeId} {wr : World} (hb : Below ((w.alloc o).alloc (.cells #[.int .i64 0, .int .i64 0, .int .i64 0, .string ⟨#[]⟩, .slice none 0 0] t)).heap.size ((w.alloc o).alloc (.cells #[.int .i64 0, .int .i64 0, .int .i64 0, .string ⟨#[]⟩, .slice none 0 0] t)) wr) :
    wr.cell? ⟨w.heap.size + 1, 0, none⟩ = some (.int .i64 0) ∧ wr.cell? ⟨w.heap.size + 1, 1, none⟩ = some (.int .i64 0) ∧ wr.cell? ⟨w.heap.size + 1, 2, none⟩ = some (.int .i64 0) ∧ wr.cell? ⟨w.heap.size + 1, 3, none⟩ = some (.string ⟨#[]⟩) ∧ wr.cell? ⟨w.heap.size + 1, 4, none⟩ = some (.slice none 0 0) ∧ (∀ o, wr.frozen? ⟨w.heap.size + 1, o, none⟩ = false) := by
  have := zbox (w.alloc o) hb
  simpa using this
theorem mark0 (w : World) (k : Int) : Calls Try.prog 50 #[.slice none 0 0, .int .i64 k] w fun e w' => e = .returned (.int .i64 k) ∧ w = w' := by
  go_enter Try.func50, Try.ntmps50
  go_wp2
  go_loop [1, 5] (fun c i => c = .int .i64 k ∧ i = .int .i64 0) (fun _ _ => 0)
  case atStart => exact ⟨rfl, rfl⟩
  case round =>
    obtain ⟨rfl, rfl⟩ := hrel
    go_wp2
    go_ret
    exact ⟨rfl, rfl⟩
theorem held0 (w : World) (k : Int) : Calls Try.prog 78 #[.slice none 0 0, .int .i64 k] w fun e w' => e = .returned (.int .i64 k) ∧ w = w' := by
  go_enter Try.func78, Try.ntmps78
  go_wp2
  go_loop [1, 5] (fun c i => c = .int .i64 k ∧ i = .int .i64 0) (fun _ _ => 0)
  case atStart => exact ⟨rfl, rfl⟩
  case round =>
    obtain ⟨rfl, rfl⟩ := hrel
    go_wp2
    go_ret
    exact ⟨rfl, rfl⟩
theorem mark_leaf (w : World) (a n x : Int) (s : ByteArray) (k : Int) : Calls Try.prog 45 #[.agg #[.int .i64 a, .int .i64 n, .int .i64 x, .string s, .slice none 0 0], .int .i64 k] w fun e w' => e = .returned (.int .i64 k) ∧ Below w.heap.size w w' := by
  go_enter Try.func45, Try.ntmps45
  go_wp2_with fail
  refine (mark0 _ k).mono ?_
  rintro e w' ⟨rfl, rfl⟩
  go_wp2
  go_ret
  exact ⟨rfl, vbox _ _⟩
theorem held_leaf (w : World) (a n x : Int) (s : ByteArray) (k : Int) (hk : 0 ≤ k) : Calls Try.prog 46 #[.agg #[.int .i64 a, .int .i64 n, .int .i64 x, .string s, .slice none 0 0], .int .i64 k] w fun e w' => e = .returned (.int .i64 k) ∧ Below w.heap.size w w' := by
  have hneg : ¬ (k < 0) := by omega
  go_enter Try.func46, Try.ntmps46
  go_wp2_with fail
  refine (held0 _ k).mono ?_
  rintro e w' ⟨rfl, rfl⟩
  go_wp2
  go_ret
  exact ⟨rfl, vbox _ _⟩
theorem eq0 (w : World) : Calls Try.prog 49 #[.slice none 0 0, .slice none 0 0] w fun e w' => e = .returned (.bool true) ∧ w = w' := by
  go_enter Try.func49, Try.ntmps49
  go_wp2
  go_loop [5] (fun i => i = .int .i64 0) (fun _ => 0)
  case atStart => rfl
  case round =>
    subst hrel
    go_wp2
    go_ret
    exact ⟨rfl, rfl⟩
theorem eq_leaf (w : World) (a n x : Int) (s : ByteArray) : Calls Try.prog 43 #[.agg #[.int .i64 a, .int .i64 n, .int .i64 x, .string s, .slice none 0 0], .agg #[.int .i64 a, .int .i64 n, .int .i64 x, .string s, .slice none 0 0]] w fun e w' => e = .returned (.bool true) ∧ Below w.heap.size w w' := by
  go_enter Try.func43, Try.ntmps43
  go_wp2_with fail
  refine (eq0 _).mono ?_
  rintro e w' ⟨rfl, rfl⟩
  go_wp2
  go_ret
  exact ⟨rfl, two _ _ _⟩
theorem int_spec (w : World) (n : Int) : Calls Try.prog 33 #[.int .i64 n] w fun e w' => e = .returned (.agg #[.int .i64 3, .int .i64 n, .int .i64 0, .string ⟨#[]⟩, .slice none 0 0]) ∧ Below w.heap.size w w' := by
  go_enter Try.func33, Try.ntmps33
  go_wp2
  exact bodyPost_ret (v := .agg #[.int .i64 3, .int .i64 n, .int .i64 0, .string ⟨#[]⟩, .slice none 0 0]) (by simp [results, Try.results33, go_sem]) rfl ⟨rfl, vbox _ _⟩
theorem intval_impl (w : World) (n : Int) : Calls Try.prog 71 #[.int .i64 n] w fun e w' => e = .returned (.agg #[.int .i64 3, .int .i64 n, .int .i64 0, .string ⟨#[]⟩, .slice none 0 0]) ∧ Below w.heap.size w w' := by
  go_enter Try.func71, Try.ntmps71
  go_wp2
  exact bodyPost_ret (v := .agg #[.int .i64 3, .int .i64 n, .int .i64 0, .string ⟨#[]⟩, .slice none 0 0]) (by simp [results, Try.results71, go_sem]) rfl ⟨rfl, vbox _ _⟩
theorem int_impl (w : World) (n : Int) : Calls Try.prog 32 #[.int .i64 n] w fun e w' => e = .returned (.agg #[.int .i64 3, .int .i64 n, .int .i64 0, .string ⟨#[]⟩, .slice none 0 0]) ∧ Below w.heap.size w w' := by
  go_enter Try.func32, Try.ntmps32
  go_wp2_with fail
  refine (intval_impl _ n).mono ?_
  rintro e w1 ⟨rfl, hb⟩
  obtain ⟨q0, q1, q2, q3, q4, qf⟩ := zbox w hb
  have HB := Lib.hid ((vbox w _).trans (hb.mono (by simp)))
  clear hb
  go_wp2
  refine bodyPost_ret (v := .agg #[.int .i64 3, .int .i64 n, .int .i64 0, .string ⟨#[]⟩, .slice none 0 0]) (by simp [results, Try.results32, go_sem, q0, q1, q2, q3, q4]) rfl ⟨rfl, ?_⟩
  exact bset (bset (bset (bset (bset HB.out (Nat.le_refl _)) (Nat.le_refl _)) (Nat.le_refl _)) (Nat.le_refl _)) (Nat.le_refl _)
theorem text_spec (w : World) (s : ByteArray) : Calls Try.prog 35 #[.string s] w fun e w' => e = .returned (.agg #[.int .i64 7, .int .i64 0, .int .i64 0, .string s, .slice none 0 0]) ∧ Below w.heap.size w w' := by
  go_enter Try.func35, Try.ntmps35
  go_wp2
  exact bodyPost_ret (v := .agg #[.int .i64 7, .int .i64 0, .int .i64 0, .string s, .slice none 0 0]) (by simp [results, Try.results35, go_sem]) rfl ⟨rfl, vbox _ _⟩
theorem textval_impl (w : World) (s : ByteArray) : Calls Try.prog 72 #[.string s] w fun e w' => e = .returned (.agg #[.int .i64 7, .int .i64 0, .int .i64 0, .string s, .slice none 0 0]) ∧ Below w.heap.size w w' := by
  go_enter Try.func72, Try.ntmps72
  go_wp2
  exact bodyPost_ret (v := .agg #[.int .i64 7, .int .i64 0, .int .i64 0, .string s, .slice none 0 0]) (by simp [results, Try.results72, go_sem]) rfl ⟨rfl, vbox _ _⟩
theorem text_impl (w : World) (s : ByteArray) : Calls Try.prog 34 #[.string s] w fun e w' => e = .returned (.agg #[.int .i64 7, .int .i64 0, .int .i64 0, .string s, .slice none 0 0]) ∧ Below w.heap.size w w' := by
  go_enter Try.func34, Try.ntmps34
  go_wp2_with fail
  refine (textval_impl _ s).mono ?_
  rintro e w1 ⟨rfl, hb⟩
  obtain ⟨q0, q1, q2, q3, q4, qf⟩ := zbox w hb
  have HB := Lib.hid ((vbox w _).trans (hb.mono (by simp)))
  clear hb
  go_wp2
  refine bodyPost_ret (v := .agg #[.int .i64 7, .int .i64 0, .int .i64 0, .string s, .slice none 0 0]) (by simp [results, Try.results34, go_sem, q0, q1, q2, q3, q4]) rfl ⟨rfl, ?_⟩
  exact bset (bset (bset (bset (bset HB.out (Nat.le_refl _)) (Nat.le_refl _)) (Nat.le_refl _)) (Nat.le_refl _)) (Nat.le_refl _)
/-- the value of a decimal number -/
def numK (x : Int) : Int := if x = 0 then 3 else 6
theorem num_spec (w : World) (n x : Int) : Calls Try.prog 39 #[.agg #[.int .i64 n, .int .i64 x]] w fun e w' => e = .returned (.agg #[.int .i64 (numK x), .int .i64 n, .int .i64 x, .string ⟨#[]⟩, .slice none 0 0]) ∧ Below w.heap.size w w' := by
  by_cases hx : x = 0
  · subst hx
    show Calls Try.prog _ _ _ fun e w' => e = .returned (.agg #[.int .i64 3, .int .i64 n, .int .i64 0, .string ⟨#[]⟩, .slice none 0 0]) ∧ Below w.heap.size w w'
    go_enter Try.func39, Try.ntmps39
    go_wp2_with fail
    refine (int_spec _ n).mono ?_
    rintro e w1 ⟨rfl, hb⟩
    obtain ⟨q0, q1, q2, q3, q4, qf⟩ := zbox2 w _ hb
    have HB := Lib.hid ((two w _ _).trans (hb.mono (by simp; omega)))
    clear hb
    go_wp2
    refine bodyPost_ret (v := .agg #[.int .i64 3, .int .i64 n, .int .i64 0, .string ⟨#[]⟩, .slice none 0 0]) (by simp [results, Try.results39, go_sem, q0, q1, q2, q3, q4]) rfl ⟨rfl, ?_⟩
    exact bset (bset (bset (bset (bset HB.out (by omega)) (by omega)) (by omega)) (by omega)) (by omega)
  · have hk : numK x = 6 := if_neg hx
    rw [hk]
    clear hk
    go_enter Try.func39, Try.ntmps39
    go_wp2
    exact bodyPost_ret (v := .agg #[.int .i64 6, .int .i64 n, .int .i64 x, .string ⟨#[]⟩, .slice none 0 0]) (by simp [results, Try.results39, go_sem]) rfl ⟨rfl, two _ _ _⟩
theorem decval_impl (w : World) (n x : Int) : Calls Try.prog 76 #[.agg #[.int .i64 n, .int .i64 x]] w fun e w' => e = .returned (.agg #[.int .i64 6, .int .i64 n, .int .i64 x, .string ⟨#[]⟩, .slice none 0 0]) ∧ Below w.heap.size w w' := by
  go_enter Try.func76, Try.ntmps76
  go_wp2
  exact bodyPost_ret (v := .agg #[.int .i64 6, .int .i64 n, .int .i64 x, .string ⟨#[]⟩, .slice none 0 0]) (by simp [results, Try.results76, go_sem]) rfl ⟨rfl, two _ _ _⟩
theorem num_impl (w : World) (n x : Int) : Calls Try.prog 38 #[.agg #[.int .i64 n, .int .i64 x]] w fun e w' => e = .returned (.agg #[.int .i64 (numK x), .int .i64 n, .int .i64 x, .string ⟨#[]⟩, .slice none 0 0]) ∧ Below w.heap.size w w' := by
  by_cases hx : x = 0
  · subst hx
    show Calls Try.prog _ _ _ fun e w' => e = .returned (.agg #[.int .i64 3, .int .i64 n, .int .i64 0, .string ⟨#[]⟩, .slice none 0 0]) ∧ Below w.heap.size w w'
    go_enter Try.func38, Try.ntmps38
    go_wp2_with fail
    refine (int_impl _ n).mono ?_
    rintro e w1 ⟨rfl, hb⟩
    obtain ⟨q0, q1, q2, q3, q4, qf⟩ := zbox2 w _ hb
    have HB := Lib.hid ((two w _ _).trans (hb.mono (by simp; omega)))
    clear hb
    go_wp2
    refine bodyPost_ret (v := .agg #[.int .i64 3, .int .i64 n, .int .i64 0, .string ⟨#[]⟩, .slice none 0 0]) (by simp [results, Try.results38, go_sem, q0, q1, q2, q3, q4]) rfl ⟨rfl, ?_⟩
    exact bset (bset (bset (bset (bset HB.out (by omega)) (by omega)) (by omega)) (by omega)) (by omega)
  · have hk : numK x = 6 := if_neg hx
    rw [hk]
    clear hk
    go_enter Try.func38, Try.ntmps38
    go_wp2_with fail
    refine (decval_impl _ n x).mono ?_
    rintro e w1 ⟨rfl, hb⟩
    obtain ⟨q0, q1, q2, q3, q4, qf⟩ := zbox2 w _ hb
    have HB := Lib.hid ((two w _ _).trans (hb.mono (by simp; omega)))
    clear hb
    go_wp2
    refine bodyPost_ret (v := .agg #[.int .i64 6, .int .i64 n, .int .i64 x, .string ⟨#[]⟩, .slice none 0 0]) (by simp [results, Try.results38, go_sem, q0, q1, q2, q3, q4]) rfl ⟨rfl, ?_⟩
    exact bset (bset (bset (bset (bset HB.out (by omega)) (by omega)) (by omega)) (by omega)) (by omega)
theorem todec_leaf (n x : Int) (w : World) : Calls Try.prog 51 #[.agg #[.int .i64 n, .int .i64 x]] w fun e w' => e = .returned (.agg #[.int .i64 n, .int .i64 x]) ∧ Below w.heap.size w w' := by
  go_enter Try.func51, Try.ntmps51
  go_wp2
  refine bodyPost_ret (v := .agg #[.int .i64 n, .int .i64 x]) (by simp [results, Try.results51, go_sem]) rfl ⟨rfl, ?_⟩
  exact (((Below.refl _ _).alloc (Nat.le_refl _) _).alloc (by simp) _).alloc (by simp; omega) _
end Go.Proofs.Ytmcmkkkbkfgakaa
