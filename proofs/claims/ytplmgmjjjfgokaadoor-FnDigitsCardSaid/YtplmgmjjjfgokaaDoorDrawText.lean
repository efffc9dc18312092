/- What the model's draws for numerals return: an int, or a short string; nothing of what was there changes. -/
import Derived.Test.YtplmgmjjjfgokaaDoorCur
import Derived.Test.YtplmgmjjjfgokaaDoorNumText
import Derived.Test.YtplmgmjjjfgokaaDoorNumMath
namespace Go.Proofs.YtplmgmjjjfgokaaDoor
open Go.RowKit
def Single (P : Int → Prop) (w : World) (e : Ending) (w' : World) : Prop := ∃ x : Int, P x ∧ e = .returned (.int .i64 x) ∧ Below w.heap.size w w'
def Word (w : World) (e : Ending) (w' : World) : Prop := ∃ l : List UInt8, l.length ≤ 1000 ∧ e = .returned (.string ⟨l.toArray⟩) ∧ Below w.heap.size w w'
def StrPost (B : Nat) (P : List UInt8 → Prop) (w : World) (e : Ending) (w' : World) : Prop := ∃ l : List UInt8, P l ∧ e = .returned (.string ⟨l.toArray⟩) ∧ Only B w w' ∧ Cur w' B
theorem below_only {w w1 w2 : World} {B : Nat} (h : Below w.heap.size w w1) (ho : Only B w1 w2) (hB : B = w.heap.size) : Below w.heap.size w w2 :=
  h.trans (ho.below w.heap.size (by omega) h.size)
def sv (l : List UInt8) : Value := .string ⟨l.toArray⟩
theorem str_any (w : World) (B b : Nat) (l : List (List UInt8)) (cap : Nat) (hC : Cur w B) (hb : b ≠ B) (hl : 0 < l.length) (hl2 : l.length ≤ 1000) (hcells : ∀ j (hj : j < l.length), w.cell? ⟨b, j, none⟩ = some (sv l[j])) :
    Calls Tryd.prog 19 #[.pointer (some ⟨B, 0, none⟩), .slice (some ⟨b, 0, none⟩) l.length cap] w (StrPost B (· ∈ l) w) := by
  unfold sv at hcells
  go_enter Tryd.func19, Tryd.ntmps19
  go_wp2_with fail
  refine (below_any w B l.length hC (by omega)).mono ?_
  rintro e w1 ⟨x, ⟨hx0, hx1⟩, rfl, ho, hc⟩
  obtain ⟨k, rfl⟩ : ∃ k : Nat, x = k := ⟨x.toNat, by omega⟩
  have hk : k < l.length := by omega
  have hcell : w1.cell? ⟨b, k, none⟩ = some (.string ⟨(l[k]).toArray⟩) := ho.cell hb (hcells k hk)
  have hmem : l[k] ∈ l := List.getElem_mem hk
  generalize l[k] = word at hcell hmem
  clear hcells
  go_wp2
  go_ret
  exact ⟨_, hmem, rfl, ho, hc⟩
theorem scell_new (w : World) (l : List (List UInt8)) (T : TypeId) (j : Nat) (hj : j < l.length) : (w.alloc (.cells (l.map sv).toArray T)).cell? ⟨w.heap.size, j, none⟩ = some (sv l[j]) := by
  have := World.cell?_alloc_mark w (l.map sv).toArray T (0, 0) j
  rw [this]
  simp [hj]
theorem str_lit (w : World) (B : Nat) (l : List (List UInt8)) (T : TypeId) (P : List UInt8 → Prop) (hC : Cur w B) (hl : 0 < l.length) (hl2 : l.length ≤ 1000) (hP : ∀ x ∈ l, P x) :
    Calls Tryd.prog 19 #[.pointer (some ⟨B, 0, none⟩), .slice (some ⟨w.heap.size, 0, none⟩) l.length l.length] (w.alloc (.cells (l.map sv).toArray T)) (StrPost B P w) :=
  (str_any _ B w.heap.size l l.length (hC.alloc _) (Nat.ne_of_gt hC.lt) hl hl2 (fun j hj => scell_new w l T j hj)).mono fun _ _ ⟨x, hx, he, ho, hc⟩ => ⟨x, hP x hx, he, ((Only.refl B w).alloc _).trans ho, hc⟩
theorem drawone_num (a : Option Addr) (len cap : Nat) (w : World) (hC : CodeAt w a len) (hl : len ≤ 1048576) : Calls Tryd.prog 7 #[.slice a len cap] w (Single isInt w) := by
  go_enter Tryd.func7, Tryd.ntmps7
  go_wp2_with fail
  refine (new_any a len cap w hC hl).mono ?_
  rintro e w1 ⟨rfl, hb, hc, _⟩
  go_wp2_with fail
  refine (one_any w1 _ hc).mono ?_
  rintro e w2 ⟨x, hx, rfl, ho, hc2⟩
  go_wp2
  go_ret
  exact ⟨_, hx, rfl, below_only hb ho rfl⟩
theorem drawone_dig (a : Option Addr) (len cap : Nat) (w : World) (hC : CodeAt w a len) (hl : len ≤ 1048576) : Calls Tryd.prog 12 #[.slice a len cap] w (Single isInt w) := by
  go_enter Tryd.func12, Tryd.ntmps12
  go_wp2_with fail
  refine (new_any a len cap w hC hl).mono ?_
  rintro e w1 ⟨rfl, hb, hc, _⟩
  go_wp2_with fail
  refine (one_any w1 _ hc).mono ?_
  rintro e w2 ⟨x, hx, rfl, ho, hc2⟩
  go_wp2
  go_ret
  exact ⟨_, hx, rfl, below_only hb ho rfl⟩
theorem itoa_short (n : Int) (h0 : -1000000000000000 ≤ n) (h1 : n ≤ 1000000000000000) : (Lib.itoa n).length ≤ 1000 := by
  rcases itoa_shape n h0 h1 with ⟨_, r, e, _, _, h, _⟩ | ⟨_, _, _, h, _⟩
  · rw [e, List.length_cons]; omega
  · omega
theorem drawparse_any (a : Option Addr) (len cap : Nat) (w : World) (hC : CodeAt w a len) (hl : len ≤ 1048576) : Calls Tryd.prog 8 #[.slice a len cap] w (Word w) := by
  go_enter Tryd.func8, Tryd.ntmps8
  go_wp2_with fail
  refine (new_any a len cap w hC hl).mono ?_
  rintro e w1 ⟨rfl, hb, hc, _⟩
  go_wp2_with fail
  refine (once_any w1 _ 2 hc (by decide)).mono ?_
  rintro e w2 ⟨t, rfl, ho, hc2⟩
  cases t
  · go_wp2_with fail
    refine (signed_any w2 _ hc2).mono ?_
    rintro e w3 ⟨x, ⟨hx0, hx1⟩, rfl, ho3, hc3⟩
    go_wp2_with fail
    refine (numtext_spec x w3 (by omega) (by omega)).mono ?_
    rintro e w4 ⟨rfl, hb4⟩
    go_wp2
    go_ret
    have hb3 := below_only hb (ho.trans ho3) rfl
    exact ⟨_, itoa_short x hx0 hx1, rfl, hb3.trans (hb4.mono hb3.size)⟩
  · have hd := str_lit w2 _ [[], [48], [45, 48], [48, 48], [45, 49], [48, 49], [55], [49, 48, 48, 48, 48, 48, 48, 48, 48, 48, 48, 48, 48, 48, 48, 48], [49, 48, 48, 48, 48, 48, 48, 48, 48, 48, 48, 48, 48, 48, 48, 49], [45], [49, 120], [32, 49]] 9 (fun l => l.length ≤ 1000) hc2 (by decide) (by decide) (by decide)
    go_wp2_with fail
    refine hd.mono ?_
    rintro e w3 ⟨l, hl, rfl, ho3, hc3⟩
    go_wp2
    go_ret
    exact ⟨_, hl, rfl, below_only hb (ho.trans ho3) rfl⟩
end Go.Proofs.YtplmgmjjjfgokaaDoor
