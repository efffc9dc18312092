import Derived.Test.YtnikcgmbkmbloaaG1
import Derived.Lib.Hide
import Derived.Outline
import Derived.ProofKit
import Derived.Shelf.Small.Bits
import Derived.Shelf.Strconv.Itoa0
import Derived.Shelf.Strings.Prefix
import Derived.Test.YtnikcgmbkmbloaaProg
import Derived.Test.YtnikcgmbkmbloaaRows
import Derived.Test.YtnikcgmbkmbloaaG0
import Derived.WalkKit
import Derived.Lib.RuneBytes
import Derived.Lib.Small
import Derived.Lib.DecodeN
import Derived.Lib.MapLaws
/- The contents of the kinds: what val returns; contentOf and contentOk. -/
namespace Go.Proofs.Ytnikcgmbkmbloaa
open Go.RowKit
theorem two3 (w : World) (a b : Obj) : Below w.heap.size w ((w.alloc a).alloc b) := ((Below.refl w.heap.size w).alloc (Nat.le_refl _) a).alloc (by simp) b
theorem cval_null (w : World) (n x : Int) (s : ByteArray) (a : Option Addr) (len cap : Nat) : Calls Try.prog 183 #[.agg #[]] w fun e w' => e = .returned (.agg #[.int .i64 1, .int .i64 0, .int .i64 0, .string ⟨#[]⟩, .slice none 0 0]) ∧ Below w.heap.size w w' := by
  go_enter Try.func183, Try.ntmps183
  go_wp2
  exact bodyPost_ret (v := .agg #[.int .i64 1, .int .i64 0, .int .i64 0, .string ⟨#[]⟩, .slice none 0 0]) (by simp [results, Try.results183, go_sem]) rfl ⟨rfl, two3 _ _ _⟩
theorem cval_bool (w : World) (n x : Int) (s : ByteArray) (a : Option Addr) (len cap : Nat) : Calls Try.prog 184 #[.int .i64 n] w fun e w' => e = .returned (.agg #[.int .i64 2, .int .i64 n, .int .i64 0, .string ⟨#[]⟩, .slice none 0 0]) ∧ Below w.heap.size w w' := by
  go_enter Try.func184, Try.ntmps184
  go_wp2
  exact bodyPost_ret (v := .agg #[.int .i64 2, .int .i64 n, .int .i64 0, .string ⟨#[]⟩, .slice none 0 0]) (by simp [results, Try.results184, go_sem]) rfl ⟨rfl, vbox _ _⟩
theorem cval_flt (w : World) (n x : Int) (s : ByteArray) (a : Option Addr) (len cap : Nat) : Calls Try.prog 205 #[.agg #[.int .i64 n, .int .i64 x]] w fun e w' => e = .returned (.agg #[.int .i64 4, .int .i64 n, .int .i64 x, .string ⟨#[]⟩, .slice none 0 0]) ∧ Below w.heap.size w w' := by
  go_enter Try.func205, Try.ntmps205
  go_wp2
  exact bodyPost_ret (v := .agg #[.int .i64 4, .int .i64 n, .int .i64 x, .string ⟨#[]⟩, .slice none 0 0]) (by simp [results, Try.results205, go_sem]) rfl ⟨rfl, two3 _ _ _⟩
theorem cval_odd (w : World) (n x : Int) (s : ByteArray) (a : Option Addr) (len cap : Nat) : Calls Try.prog 206 #[.int .i64 n] w fun e w' => e = .returned (.agg #[.int .i64 5, .int .i64 n, .int .i64 0, .string ⟨#[]⟩, .slice none 0 0]) ∧ Below w.heap.size w w' := by
  go_enter Try.func206, Try.ntmps206
  go_wp2
  exact bodyPost_ret (v := .agg #[.int .i64 5, .int .i64 n, .int .i64 0, .string ⟨#[]⟩, .slice none 0 0]) (by simp [results, Try.results206, go_sem]) rfl ⟨rfl, vbox _ _⟩
theorem cval_bytes (w : World) (n x : Int) (s : ByteArray) (a : Option Addr) (len cap : Nat) : Calls Try.prog 207 #[.string s] w fun e w' => e = .returned (.agg #[.int .i64 8, .int .i64 0, .int .i64 0, .string s, .slice none 0 0]) ∧ Below w.heap.size w w' := by
  go_enter Try.func207, Try.ntmps207
  go_wp2
  exact bodyPost_ret (v := .agg #[.int .i64 8, .int .i64 0, .int .i64 0, .string s, .slice none 0 0]) (by simp [results, Try.results207, go_sem]) rfl ⟨rfl, vbox _ _⟩
theorem cval_map (w : World) (n x : Int) (s : ByteArray) (a : Option Addr) (len cap : Nat) : Calls Try.prog 208 #[.slice a len cap] w fun e w' => e = .returned (.agg #[.int .i64 10, .int .i64 0, .int .i64 0, .string ⟨#[]⟩, .slice a len cap]) ∧ Below w.heap.size w w' := by
  go_enter Try.func208, Try.ntmps208
  go_wp2
  exact bodyPost_ret (v := .agg #[.int .i64 10, .int .i64 0, .int .i64 0, .string ⟨#[]⟩, .slice a len cap]) (by simp [results, Try.results208, go_sem]) rfl ⟨rfl, vbox _ _⟩
theorem cval_tag (w : World) (n x : Int) (s : ByteArray) (a : Option Addr) (len cap : Nat) : Calls Try.prog 209 #[.agg #[.int .i64 n, .slice a len cap]] w fun e w' => e = .returned (.agg #[.int .i64 11, .int .i64 n, .int .i64 0, .string ⟨#[]⟩, .slice a len cap]) ∧ Below w.heap.size w w' := by
  go_enter Try.func209, Try.ntmps209
  go_wp2
  exact bodyPost_ret (v := .agg #[.int .i64 11, .int .i64 n, .int .i64 0, .string ⟨#[]⟩, .slice a len cap]) (by simp [results, Try.results209, go_sem]) rfl ⟨rfl, two3 _ _ _⟩
theorem cval_int (w : World) (n x : Int) (s : ByteArray) (a : Option Addr) (len cap : Nat) : Calls Try.prog 189 #[.int .i64 n] w fun e w' => e = .returned (.agg #[.int .i64 3, .int .i64 n, .int .i64 0, .string ⟨#[]⟩, .slice none 0 0]) ∧ Below w.heap.size w w' := by
  go_enter Try.func189, Try.ntmps189
  go_wp2
  exact bodyPost_ret (v := .agg #[.int .i64 3, .int .i64 n, .int .i64 0, .string ⟨#[]⟩, .slice none 0 0]) (by simp [results, Try.results189, go_sem]) rfl ⟨rfl, vbox _ _⟩
theorem cval_text (w : World) (n x : Int) (s : ByteArray) (a : Option Addr) (len cap : Nat) : Calls Try.prog 180 #[.string s] w fun e w' => e = .returned (.agg #[.int .i64 7, .int .i64 0, .int .i64 0, .string s, .slice none 0 0]) ∧ Below w.heap.size w w' := by
  go_enter Try.func180, Try.ntmps180
  go_wp2
  exact bodyPost_ret (v := .agg #[.int .i64 7, .int .i64 0, .int .i64 0, .string s, .slice none 0 0]) (by simp [results, Try.results180, go_sem]) rfl ⟨rfl, vbox _ _⟩
theorem cval_dec (w : World) (n x : Int) (s : ByteArray) (a : Option Addr) (len cap : Nat) : Calls Try.prog 182 #[.agg #[.int .i64 n, .int .i64 x]] w fun e w' => e = .returned (.agg #[.int .i64 6, .int .i64 n, .int .i64 x, .string ⟨#[]⟩, .slice none 0 0]) ∧ Below w.heap.size w w' := by
  go_enter Try.func182, Try.ntmps182
  go_wp2
  exact bodyPost_ret (v := .agg #[.int .i64 6, .int .i64 n, .int .i64 x, .string ⟨#[]⟩, .slice none 0 0]) (by simp [results, Try.results182, go_sem]) rfl ⟨rfl, two3 _ _ _⟩
theorem cval_list (w : World) (n x : Int) (s : ByteArray) (a : Option Addr) (len cap : Nat) : Calls Try.prog 96 #[.slice a len cap] w fun e w' => e = .returned (.agg #[.int .i64 9, .int .i64 0, .int .i64 0, .string ⟨#[]⟩, .slice a len cap]) ∧ Below w.heap.size w w' := by
  go_enter Try.func96, Try.ntmps96
  go_wp2
  exact bodyPost_ret (v := .agg #[.int .i64 9, .int .i64 0, .int .i64 0, .string ⟨#[]⟩, .slice a len cap]) (by simp [results, Try.results96, go_sem]) rfl ⟨rfl, vbox _ _⟩
theorem cof_null (w : World) (n x : Int) (s : ByteArray) (a : Option Addr) (len cap : Nat) : Calls Try.prog 113 #[.agg #[.int .i64 1, .int .i64 n, .int .i64 x, .string s, .slice a len cap]] w fun e w' => e = .returned (.iface 179 (.agg #[])) ∧ Below w.heap.size w w' := by
  go_enter Try.func113, Try.ntmps113
  go_wp2
  go_ret
  exact ⟨rfl, vbox _ _⟩
theorem cof_bool (w : World) (n x : Int) (s : ByteArray) (a : Option Addr) (len cap : Nat) : Calls Try.prog 113 #[.agg #[.int .i64 2, .int .i64 n, .int .i64 x, .string s, .slice a len cap]] w fun e w' => e = .returned (.iface 180 (.int .i64 n)) ∧ Below w.heap.size w w' := by
  go_enter Try.func113, Try.ntmps113
  go_wp2
  go_ret
  exact ⟨rfl, vbox _ _⟩
theorem cof_int (w : World) (n x : Int) (s : ByteArray) (a : Option Addr) (len cap : Nat) : Calls Try.prog 113 #[.agg #[.int .i64 3, .int .i64 n, .int .i64 x, .string s, .slice a len cap]] w fun e w' => e = .returned (.iface 181 (.int .i64 n)) ∧ Below w.heap.size w w' := by
  go_enter Try.func113, Try.ntmps113
  go_wp2
  go_ret
  exact ⟨rfl, vbox _ _⟩
theorem cof_flt (w : World) (n x : Int) (s : ByteArray) (a : Option Addr) (len cap : Nat) : Calls Try.prog 113 #[.agg #[.int .i64 4, .int .i64 n, .int .i64 x, .string s, .slice a len cap]] w fun e w' => e = .returned (.iface 182 (.agg #[.int .i64 n, .int .i64 x])) ∧ Below w.heap.size w w' := by
  go_enter Try.func113, Try.ntmps113
  go_wp2
  go_ret
  exact ⟨rfl, vbox _ _⟩
theorem cof_odd (w : World) (n x : Int) (s : ByteArray) (a : Option Addr) (len cap : Nat) : Calls Try.prog 113 #[.agg #[.int .i64 5, .int .i64 n, .int .i64 x, .string s, .slice a len cap]] w fun e w' => e = .returned (.iface 183 (.int .i64 n)) ∧ Below w.heap.size w w' := by
  go_enter Try.func113, Try.ntmps113
  go_wp2
  go_ret
  exact ⟨rfl, vbox _ _⟩
theorem cof_dec (w : World) (n x : Int) (s : ByteArray) (a : Option Addr) (len cap : Nat) : Calls Try.prog 113 #[.agg #[.int .i64 6, .int .i64 n, .int .i64 x, .string s, .slice a len cap]] w fun e w' => e = .returned (.iface 184 (.agg #[.int .i64 n, .int .i64 x])) ∧ Below w.heap.size w w' := by
  go_enter Try.func113, Try.ntmps113
  go_wp2
  go_ret
  exact ⟨rfl, vbox _ _⟩
theorem cof_text (w : World) (n x : Int) (s : ByteArray) (a : Option Addr) (len cap : Nat) : Calls Try.prog 113 #[.agg #[.int .i64 7, .int .i64 n, .int .i64 x, .string s, .slice a len cap]] w fun e w' => e = .returned (.iface 185 (.string s)) ∧ Below w.heap.size w w' := by
  go_enter Try.func113, Try.ntmps113
  go_wp2
  go_ret
  exact ⟨rfl, vbox _ _⟩
theorem cof_bytes (w : World) (n x : Int) (s : ByteArray) (a : Option Addr) (len cap : Nat) : Calls Try.prog 113 #[.agg #[.int .i64 8, .int .i64 n, .int .i64 x, .string s, .slice a len cap]] w fun e w' => e = .returned (.iface 186 (.string s)) ∧ Below w.heap.size w w' := by
  go_enter Try.func113, Try.ntmps113
  go_wp2
  go_ret
  exact ⟨rfl, vbox _ _⟩
theorem cof_list (w : World) (n x : Int) (s : ByteArray) (a : Option Addr) (len cap : Nat) : Calls Try.prog 113 #[.agg #[.int .i64 9, .int .i64 n, .int .i64 x, .string s, .slice a len cap]] w fun e w' => e = .returned (.iface 114 (.slice a len cap)) ∧ Below w.heap.size w w' := by
  go_enter Try.func113, Try.ntmps113
  go_wp2
  go_ret
  exact ⟨rfl, vbox _ _⟩
theorem cof_map (w : World) (n x : Int) (s : ByteArray) (a : Option Addr) (len cap : Nat) : Calls Try.prog 113 #[.agg #[.int .i64 10, .int .i64 n, .int .i64 x, .string s, .slice a len cap]] w fun e w' => e = .returned (.iface 187 (.slice a len cap)) ∧ Below w.heap.size w w' := by
  go_enter Try.func113, Try.ntmps113
  go_wp2
  go_ret
  exact ⟨rfl, vbox _ _⟩
theorem cof_tag (w : World) (n x : Int) (s : ByteArray) (a : Option Addr) (len cap : Nat) : Calls Try.prog 113 #[.agg #[.int .i64 11, .int .i64 n, .int .i64 x, .string s, .slice a len cap]] w fun e w' => e = .returned (.iface 189 (.agg #[.int .i64 n, .slice a len cap])) ∧ Below w.heap.size w w' := by
  go_enter Try.func113, Try.ntmps113
  go_wp2
  go_ret
  exact ⟨rfl, vbox _ _⟩
theorem cof_none (w : World) (k n x : Int) (s : ByteArray) (a : Option Addr) (len cap : Nat) (hk : k < 1 ∨ 11 < k) : Calls Try.prog 113 #[.agg #[.int .i64 k, .int .i64 n, .int .i64 x, .string s, .slice a len cap]] w fun e w' => e = .returned .nilIface ∧ Below w.heap.size w w' := by
  have h1 : ¬ k = 1 := by omega
  have h2 : ¬ k = 2 := by omega
  have h3 : ¬ k = 3 := by omega
  have h4 : ¬ k = 4 := by omega
  have h5 : ¬ k = 5 := by omega
  have h6 : ¬ k = 6 := by omega
  have h7 : ¬ k = 7 := by omega
  have h8 : ¬ k = 8 := by omega
  have h9 : ¬ k = 9 := by omega
  have h10 : ¬ k = 10 := by omega
  have h11 : ¬ k = 11 := by omega
  clear hk
  go_enter Try.func113, Try.ntmps113
  go_wp2
  go_ret
  exact ⟨rfl, vbox _ _⟩
end Go.Proofs.Ytnikcgmbkmbloaa
/-
  DERIVED: THE SHELF's CONTRACTS AT THIS DUMP, IN PLAIN WORDS (tools/lay-plain.mjs out of 'TryShelf.lean', which tools/lay-shelf.mjs wrote): THE SAME DECLARATIONS UNDER THE SAME NAMES: 'import', 'namespace', 'open', 'def', 'theorem' AND NOTHING ELSE: no command of the shelf's: FOR A HAND-IN. Each laying: the table of numbers ('.._ren') and one theorem, a field a fact of the dump's own or the kernel's comparison; each contract: ONE APPLICATION.
-/
namespace Go.Proofs
open Go.Shelf
def Try.lays99_ren : Go.Shelf.Ren := ⟨fun | 99 => 169 | 206 => 179 | n => n, fun | 9 => 9 | 4 => 4 | 3 => 3 | n => n, fun | n => n⟩
theorem Try.lays99 : Go.Proofs.Lays.n99 Try.prog Try.lays99_ren := {
  mixed := by kernel_rfl
  f99 := Try.func169.trans (congrArg some (by kernel_rfl))
  f206 := Try.func179.trans (congrArg some (by kernel_rfl))
  t3 := Try.underlying3
  a3 := Try.isAgg3
  z3 := Try.sizeOf3
  v3 := Try.zeroValue3
  t4 := Try.underlying4
  a4 := Try.isAgg4
  z4 := Try.sizeOf4
  v4 := Try.zeroValue4
  t9 := Try.underlying9
  a9 := Try.isAgg9
  z9 := Try.sizeOf9
  v9 := Try.zeroValue9 }
open Go.RowKit Go.Lib in
/-- strings.HasPrefix: "HasPrefix reports whether the string s begins with prefix.": IT RETURNS 'Lib.hasPrefix s prefix'; the world is as it was. (LAID: no walk: one application.) -/
theorem Try.strings_HasPrefix (s p : ByteArray) (w : World) :
    Calls Try.prog 169 #[.string s, .string p] w fun e w' => e = .returned (.bool (Lib.hasPrefix s.data.toList p.data.toList)) ∧ w' = w := Any.strings_HasPrefix Try.lays99 s p w
end Go.Proofs
/- Which numbers are characters, and how many bytes they have: the program's and the model's answers. -/
namespace Go.Proofs.Ytnikcgmbkmbloaa
open Go.RowKit
def okR (n : Int) : Prop := (0 ≤ n ∧ n < 55296) ∨ (57343 < n ∧ n ≤ 1114111)
instance (n : Int) : Decidable (okR n) := by unfold okR; exact inferInstance
theorem okR_mk {n : Int} (h : (0 ≤ n ∧ n < 55296) ∨ (57343 < n ∧ n ≤ 1114111)) : okR n := h
theorem okR_un {n : Int} (h : okR n) : (0 ≤ n ∧ n < 55296) ∨ (57343 < n ∧ n ≤ 1114111) := h
def wideR (n : Int) : Nat := if okR n then (if n < 128 then 1 else if n < 2048 then 2 else if n < 65536 then 3 else 4) else 0
def encR (n : Int) : List UInt8 := if okR n then Lib.encodeRune n else []
theorem wideR_one {n : Int} (h : 0 ≤ n) (k : n < 128) : wideR n = 1 := by unfold wideR; rw [if_pos (okR_mk (by omega)), if_pos k]
theorem wideR_two {n : Int} (h : 128 ≤ n) (k : n < 2048) : wideR n = 2 := by unfold wideR; rw [if_pos (okR_mk (by omega)), if_neg (by omega), if_pos k]
theorem wideR_three {n : Int} (h : 2048 ≤ n) (k : n < 65536) (g : n < 55296 ∨ 57343 < n) : wideR n = 3 := by unfold wideR; rw [if_pos (okR_mk (by omega)), if_neg (by omega), if_neg (by omega), if_pos k]
theorem wideR_four {n : Int} (h : 65536 ≤ n) (k : n ≤ 1114111) : wideR n = 4 := by unfold wideR; rw [if_pos (okR_mk (by omega)), if_neg (by omega), if_neg (by omega), if_neg (by omega)]
theorem wideR_bad {n : Int} (h : ¬ okR n) : wideR n = 0 := by unfold wideR; rw [if_neg h]
theorem enc_bad' {n : Int} (h : ¬ okR n) : encR n = [] := by unfold encR; rw [if_neg h]
theorem encR_len (n : Int) : (encR n).length = wideR n := by
  unfold encR wideR
  split
  · rename_i h
    have h := okR_un h
    simp only [Lib.encodeRune, List.length_map]
    split
    · rw [Lib.encodeRuneZ_one (by omega) (by omega)]; rfl
    · split
      · rw [Lib.encodeRuneZ_two (by omega) (by omega)]; rfl
      · split
        · rw [Lib.encodeRuneZ_three (by omega)]; rfl
        · rw [Lib.encodeRuneZ_four (by omega) (by omega)]; rfl
  · rfl
theorem wideR_cases (n : Int) : (0 ≤ n ∧ n < 128 ∧ wideR n = 1) ∨ (128 ≤ n ∧ n < 2048 ∧ wideR n = 2) ∨ (2048 ≤ n ∧ n < 65536 ∧ (n < 55296 ∨ 57343 < n) ∧ wideR n = 3) ∨ (65536 ≤ n ∧ n ≤ 1114111 ∧ wideR n = 4) ∨ (¬ okR n ∧ wideR n = 0) := by
  by_cases h : okR n
  · have h2 := h
    unfold okR at h2
    by_cases h128 : n < 128
    · exact .inl ⟨by omega, h128, wideR_one (by omega) h128⟩
    · by_cases h20 : n < 2048
      · exact .inr (.inl ⟨by omega, h20, wideR_two (by omega) h20⟩)
      · by_cases h65 : n < 65536
        · exact .inr (.inr (.inl ⟨by omega, h65, by omega, wideR_three (by omega) h65 (by omega)⟩))
        · exact .inr (.inr (.inr (.inl ⟨by omega, by omega, wideR_four (by omega) (by omega)⟩)))
  · exact .inr (.inr (.inr (.inr ⟨h, wideR_bad h⟩)))
theorem runeLen_ok {n : Int} (h : okR n) : Lib.runeLen n = wideR n := by
  rcases wideR_cases n with ⟨h0, h1, e⟩ | ⟨h0, h1, e⟩ | ⟨h0, h1, h2, e⟩ | ⟨h0, h1, e⟩ | ⟨h0, e⟩
  · rw [e]; unfold Lib.runeLen; rw [if_neg (by omega), if_pos (by omega)]; rfl
  · rw [e]; unfold Lib.runeLen; rw [if_neg (by omega), if_neg (by omega), if_pos (by omega)]; rfl
  · rw [e]; unfold Lib.runeLen; rw [if_neg (by omega), if_neg (by omega), if_neg (by omega), if_neg (by omega), if_pos (by omega)]; rfl
  · rw [e]; unfold Lib.runeLen; rw [if_neg (by omega), if_neg (by omega), if_neg (by omega), if_neg (by omega), if_neg (by omega), if_pos (by omega)]; rfl
  · exact absurd h h0
theorem bool_eq {p q : Prop} [Decidable p] [Decidable q] (h : p ↔ q) : Ending.returned (.bool (decide p)) = .returned (.bool (decide q)) := by rw [decide_eq_decide.2 h]
theorem okR_true {n : Int} (h : (0 ≤ n ∧ n < 55296) ∨ (57343 < n ∧ n ≤ 1114111)) : decide (okR n) = true := decide_eq_true h
theorem okR_false {n : Int} (h : ¬ ((0 ≤ n ∧ n < 55296) ∨ (57343 < n ∧ n ≤ 1114111))) : decide (okR n) = false := decide_eq_false h
theorem runeok_spec (n : Int) (w : World) : Calls Try.prog 178 #[.int .i64 n] w fun e w' => e = .returned (.bool (decide (okR n))) ∧ w = w' := by
  by_cases h : 0 ≤ n ∧ n ≤ 1114111
  · have c1 := in_yes n 0 1114111 w h.1 h.2
    by_cases k : 55296 ≤ n ∧ n ≤ 57343
    · have c2 := in_yes n 55296 57343 w k.1 k.2
      rw [okR_false (by omega)]
      clear h k
      go_enter Try.func178, Try.ntmps178
      go_wp2_with fail
      refine c1.mono ?_
      rintro e w' ⟨rfl, rfl⟩
      go_wp2_with fail
      refine c2.mono ?_
      rintro e w' ⟨rfl, rfl⟩
      go_wp2
      go_ret
      exact ⟨rfl, rfl⟩
    · have c2 := in_no n 55296 57343 w (by omega)
      rw [okR_true (by omega)]
      clear h k
      go_enter Try.func178, Try.ntmps178
      go_wp2_with fail
      refine c1.mono ?_
      rintro e w' ⟨rfl, rfl⟩
      go_wp2_with fail
      refine c2.mono ?_
      rintro e w' ⟨rfl, rfl⟩
      go_wp2
      go_ret
      exact ⟨rfl, rfl⟩
  · have c1 := in_no n 0 1114111 w (by omega)
    rw [okR_false (by omega)]
    clear h
    go_enter Try.func178, Try.ntmps178
    go_wp2_with fail
    refine c1.mono ?_
    rintro e w' ⟨rfl, rfl⟩
    go_wp2
    go_ret
    exact ⟨rfl, rfl⟩
theorem runeok_spec_yes {n : Int} (h : okR n) (w : World) : Calls Try.prog 178 #[.int .i64 n] w fun e w' => e = .returned (.bool true) ∧ w = w' := by
  have := runeok_spec n w; rw [decide_eq_true h] at this; exact this
theorem runeok_spec_no {n : Int} (h : ¬ okR n) (w : World) : Calls Try.prog 178 #[.int .i64 n] w fun e w' => e = .returned (.bool false) ∧ w = w' := by
  have := runeok_spec n w; rw [decide_eq_false h] at this; exact this
theorem wide_spec (n : Int) (w : World) : Calls Try.prog 168 #[.int .i64 n] w fun e w' => e = .returned (.int .i64 (wideR n)) ∧ w = w' := by
  by_cases h : okR n
  · have c := runeok_spec_yes h w
    have hw := wideR_cases n
    rcases hw with ⟨h0, h1, e⟩ | ⟨h0, h1, e⟩ | ⟨h0, h1, h2, e⟩ | ⟨h0, h1, e⟩ | ⟨h0, e⟩
    · rw [e]
      go_enter Try.func168, Try.ntmps168
      go_wp2_with fail
      refine c.mono ?_
      rintro e w' ⟨rfl, rfl⟩
      go_wp2
      go_ret
      exact ⟨rfl, rfl⟩
    · rw [e]
      have k1 : ¬ n < 128 := by omega
      go_enter Try.func168, Try.ntmps168
      go_wp2_with fail
      refine c.mono ?_
      rintro e w' ⟨rfl, rfl⟩
      go_wp2
      go_ret
      exact ⟨rfl, rfl⟩
    · rw [e]
      have k1 : ¬ n < 128 := by omega
      have k2 : ¬ n < 2048 := by omega
      go_enter Try.func168, Try.ntmps168
      go_wp2_with fail
      refine c.mono ?_
      rintro e w' ⟨rfl, rfl⟩
      go_wp2
      go_ret
      exact ⟨rfl, rfl⟩
    · rw [e]
      have k1 : ¬ n < 128 := by omega
      have k2 : ¬ n < 2048 := by omega
      have k3 : ¬ n < 65536 := by omega
      go_enter Try.func168, Try.ntmps168
      go_wp2_with fail
      refine c.mono ?_
      rintro e w' ⟨rfl, rfl⟩
      go_wp2
      go_ret
      exact ⟨rfl, rfl⟩
    · exact absurd h h0
  · have c := runeok_spec_no h w
    rw [wideR_bad h]
    go_enter Try.func168, Try.ntmps168
    go_wp2_with fail
    refine c.mono ?_
    rintro e w' ⟨rfl, rfl⟩
    go_wp2
    go_ret
    exact ⟨rfl, rfl⟩
end Go.Proofs.Ytnikcgmbkmbloaa
/- The character at a place of given bytes: what the model answers, by the model's own decoder of strings. -/
namespace Go.Proofs.Ytnikcgmbkmbloaa
open Go.RowKit
def accB (x0 : Int) (y : Nat → Int) : Nat → Int
  | 0 => x0
  | k + 1 => 64 * accB x0 y k + y (k + 1) - 128
theorem accB_bound (x0 : Int) (y : Nat → Int) (k : Nat) (h0 : 0 ≤ x0) (h1 : x0 ≤ 31) (hk : k ≤ 3) (hok : ∀ j, 1 ≤ j → j ≤ k → 128 ≤ y j ∧ y j ≤ 191) : 0 ≤ accB x0 y k ∧ accB x0 y k ≤ 8388607 := by
  match k, hk, hok with
  | 0, _, _ => exact ⟨h0, by simp only [accB, Nat.zero_add, Nat.reduceAdd]; omega⟩
  | 1, _, hok => have a := hok 1 (by omega) (by omega); simp only [accB, Nat.zero_add, Nat.reduceAdd]; omega
  | 2, _, hok => have a := hok 1 (by omega) (by omega); have b := hok 2 (by omega) (by omega); simp only [accB, Nat.zero_add, Nat.reduceAdd]; omega
  | 3, _, hok => have a := hok 1 (by omega) (by omega); have b := hok 2 (by omega) (by omega); have c := hok 3 (by omega) (by omega); simp only [accB, Nat.zero_add, Nat.reduceAdd]; omega
def badG : Value := .tuple #[.int .i64 0, .int .i64 0, .bool false]
theorem ret_bad {R : Value} (h : R = badG) : Ending.returned (.tuple #[.int .i64 0, .int .i64 0, .bool false]) = .returned R := by rw [h]; rfl
theorem ret_good {R : Value} {q a : Int} (h : R = .tuple #[.int .i64 q, .int .i64 a, .bool true]) : Ending.returned (.tuple #[.int .i64 q, .int .i64 a, .bool true]) = .returned R := by rw [h]
theorem get_spec_2 (w : World) (b o len cap at_ : Nat) (x : Int) (y : Nat → Int) (R : Value) (hat : at_ < len) (hlen : len ≤ 1099511627776) (hx : w.cell? ⟨b, o + at_, none⟩ = some (.int .u8 x)) (hx0 : 192 ≤ x) (hx1 : x ≤ 223)
    (hy : ∀ j : Nat, 1 ≤ j → j < 2 → at_ + j < len → w.cell? ⟨b, o + (at_ + j), none⟩ = some (.int .u8 (y j)) ∧ 0 ≤ y j ∧ y j ≤ 255)
    (hshort : len < at_ + 2 → R = badG)
    (hbad : at_ + 2 ≤ len → ∀ j, 1 ≤ j → j < 2 → ¬ (128 ≤ y j ∧ y j ≤ 191) → R = badG)
    (hend : at_ + 2 ≤ len → (∀ j, 1 ≤ j → j < 2 → 128 ≤ y j ∧ y j ≤ 191) → (wideR (accB (x - 192) y 1) = 2 → R = .tuple #[.int .i64 (accB (x - 192) y 1), .int .i64 (at_ + 2), .bool true]) ∧ (wideR (accB (x - 192) y 1) ≠ 2 → R = badG)) :
    Calls Try.prog 144 #[.slice (some ⟨b, o, none⟩) len cap, .int .i64 at_] w fun e w' => e = .returned R ∧ w = w' := by
  have HY := Lib.hid hy
  have HB := Lib.hid hbad
  have HE := Lib.hid hend
  have HS := Lib.hid hshort
  have HR := Lib.hid (trivial : True)
  clear hy hbad hend hshort
  have i1 := in_yes x 192 223 w hx0 hx1
  have ca : ¬ ((at_ : Int) < 0) := by omega
  have cl : ¬ ((len : Int) ≤ (at_ : Int)) := by omega
  have ca2 : (at_ : Int) ≤ 1099511627776 := by omega
  have cb : (len : Int) ≤ 1099511627776 := by omega
  have c128 : ¬ x < 128 := by omega
  have hW0 : (0 : Int) ≤ x - 192 ∧ x - 192 ≤ 31 := by omega
  by_cases hs : len < at_ + 2
  · have hs' : (len : Int) - at_ < 2 := by omega
    have cw := Lib.hid (HS.out hs)
    clear hs
    go_enter Try.func144, Try.ntmps144
    go_wp2_with (go_at_call 108; (first | (with_reducible refine i1.mono ?_)); rintro e w' ⟨rfl, rfl⟩)
    go_ret3
    exact ⟨ret_bad cw.out, rfl⟩
  · have hs' : ¬ ((len : Int) - at_ < 2) := by omega
    have hle : at_ + 2 ≤ len := by omega
    have HL := Lib.hid hle
    clear hs hle
    go_enter Try.func144, Try.ntmps144
    go_wp2_with (go_at_call 108; (first | (with_reducible refine i1.mono ?_)); rintro e w' ⟨rfl, rfl⟩)
    go_loop [9, 10] (fun n i => ∃ k : Nat, k < 2 ∧ i = .int .i64 ((k : Int) + 1) ∧ n = .int .i64 (accB (x - 192) y k) ∧ ∀ j, 1 ≤ j → j ≤ k → 128 ≤ y j ∧ y j ≤ 191) (fun _ i => 2 - (intOf i).toNat)
    case atStart => exact ⟨0, by omega, rfl, rfl, fun j h1 h2 => by omega⟩
    case round =>
      obtain ⟨k, hk, rfl, rfl, hok⟩ := hrel
      have HO := Lib.hid hok
      have hbd := accB_bound (x - 192) y k hW0.1 hW0.2 (by omega) hok
      clear hok
      generalize hq : accB (x - 192) y k = q at *
      have HQ := Lib.hid hq
      clear hq
      by_cases hkw : k + 1 < 2
      · have hkw' : (k : Int) + 1 < 2 := by omega
        have hlt : at_ + (k + 1) < len := by have := HL.out; omega
        obtain ⟨hc, hy0, hy1⟩ := HY.out (k + 1) (by omega) hkw hlt
        have HYY := Lib.hid (rfl : y (k + 1) = y (k + 1))
        generalize hz : y (k + 1) = z at hc hy0 hy1
        have HZ := Lib.hid hz
        clear hz HYY
        by_cases hz2 : 128 ≤ z ∧ z ≤ 191
        · have iy := in_yes z 128 191 w hz2.1 hz2.2
          go_wp2_with (go_at_call 108; refine iy.mono ?_; rintro e w' ⟨rfl, rfl⟩)
          go_round
          case rel =>
            refine ⟨k + 1, hkw, by go_num, ?_, fun j h1 h2 => ?_⟩
            · simp only [accB]; rw [HQ.out, HZ.out]
            · by_cases hj : j ≤ k
              · exact HO.out j h1 hj
              · obtain rfl : j = k + 1 := by omega
                rw [HZ.out]; exact hz2
          case measure => simp [intOf]; omega
        · have iy := in_no z 128 191 w (by omega)
          have hR := Lib.hid (HB.out HL.out (k + 1) (by omega) hkw (by rw [HZ.out]; exact hz2))
          clear hz2
          go_wp2_with (go_at_call 108; refine iy.mono ?_; rintro e w' ⟨rfl, rfl⟩)
          go_ret3
          exact ⟨ret_bad hR.out, rfl⟩
      · obtain rfl : k = 1 := by omega
        have hE := HE.out HL.out (fun j h1 h2 => HO.out j h1 (by omega))
        rw [HQ.out] at hE
        have cw := wide_spec q w
        by_cases hw : wideR q = 2
        · have hR := Lib.hid (hE.1 hw)
          rw [hw] at cw
          clear hE hw
          go_wp2_with (go_at_call 168; refine cw.mono ?_; rintro e w' ⟨rfl, rfl⟩)
          go_ret3
          exact ⟨ret_good hR.out, rfl⟩
        · have hR := Lib.hid (hE.2 hw)
          have hw' : (((wideR q : Nat) : Int) != 2) = true := by simp; omega
          clear hE hw
          go_wp2_with (go_at_call 168; refine cw.mono ?_; rintro e w' ⟨rfl, rfl⟩)
          go_ret3
          exact ⟨ret_bad hR.out, rfl⟩
theorem get_spec_3 (w : World) (b o len cap at_ : Nat) (x : Int) (y : Nat → Int) (R : Value) (hat : at_ < len) (hlen : len ≤ 1099511627776) (hx : w.cell? ⟨b, o + at_, none⟩ = some (.int .u8 x)) (hx0 : 224 ≤ x) (hx1 : x ≤ 239)
    (hy : ∀ j : Nat, 1 ≤ j → j < 3 → at_ + j < len → w.cell? ⟨b, o + (at_ + j), none⟩ = some (.int .u8 (y j)) ∧ 0 ≤ y j ∧ y j ≤ 255)
    (hshort : len < at_ + 3 → R = badG)
    (hbad : at_ + 3 ≤ len → ∀ j, 1 ≤ j → j < 3 → ¬ (128 ≤ y j ∧ y j ≤ 191) → R = badG)
    (hend : at_ + 3 ≤ len → (∀ j, 1 ≤ j → j < 3 → 128 ≤ y j ∧ y j ≤ 191) → (wideR (accB (x - 224) y 2) = 3 → R = .tuple #[.int .i64 (accB (x - 224) y 2), .int .i64 (at_ + 3), .bool true]) ∧ (wideR (accB (x - 224) y 2) ≠ 3 → R = badG)) :
    Calls Try.prog 144 #[.slice (some ⟨b, o, none⟩) len cap, .int .i64 at_] w fun e w' => e = .returned R ∧ w = w' := by
  have HY := Lib.hid hy
  have HB := Lib.hid hbad
  have HE := Lib.hid hend
  have HS := Lib.hid hshort
  have HR := Lib.hid (trivial : True)
  clear hy hbad hend hshort
  have i1 := in_no x 192 223 w (by omega)
  have i2 := in_yes x 224 239 w hx0 hx1
  have ca : ¬ ((at_ : Int) < 0) := by omega
  have cl : ¬ ((len : Int) ≤ (at_ : Int)) := by omega
  have ca2 : (at_ : Int) ≤ 1099511627776 := by omega
  have cb : (len : Int) ≤ 1099511627776 := by omega
  have c128 : ¬ x < 128 := by omega
  have hW0 : (0 : Int) ≤ x - 224 ∧ x - 224 ≤ 31 := by omega
  by_cases hs : len < at_ + 3
  · have hs' : (len : Int) - at_ < 3 := by omega
    have cw := Lib.hid (HS.out hs)
    clear hs
    go_enter Try.func144, Try.ntmps144
    go_wp2_with (go_at_call 108; (first | (with_reducible refine i1.mono ?_) | (with_reducible refine i2.mono ?_)); rintro e w' ⟨rfl, rfl⟩)
    go_ret3
    exact ⟨ret_bad cw.out, rfl⟩
  · have hs' : ¬ ((len : Int) - at_ < 3) := by omega
    have hle : at_ + 3 ≤ len := by omega
    have HL := Lib.hid hle
    clear hs hle
    go_enter Try.func144, Try.ntmps144
    go_wp2_with (go_at_call 108; (first | (with_reducible refine i1.mono ?_) | (with_reducible refine i2.mono ?_)); rintro e w' ⟨rfl, rfl⟩)
    go_loop [9, 10] (fun n i => ∃ k : Nat, k < 3 ∧ i = .int .i64 ((k : Int) + 1) ∧ n = .int .i64 (accB (x - 224) y k) ∧ ∀ j, 1 ≤ j → j ≤ k → 128 ≤ y j ∧ y j ≤ 191) (fun _ i => 3 - (intOf i).toNat)
    case atStart => exact ⟨0, by omega, rfl, rfl, fun j h1 h2 => by omega⟩
    case round =>
      obtain ⟨k, hk, rfl, rfl, hok⟩ := hrel
      have HO := Lib.hid hok
      have hbd := accB_bound (x - 224) y k hW0.1 hW0.2 (by omega) hok
      clear hok
      generalize hq : accB (x - 224) y k = q at *
      have HQ := Lib.hid hq
      clear hq
      by_cases hkw : k + 1 < 3
      · have hkw' : (k : Int) + 1 < 3 := by omega
        have hlt : at_ + (k + 1) < len := by have := HL.out; omega
        obtain ⟨hc, hy0, hy1⟩ := HY.out (k + 1) (by omega) hkw hlt
        have HYY := Lib.hid (rfl : y (k + 1) = y (k + 1))
        generalize hz : y (k + 1) = z at hc hy0 hy1
        have HZ := Lib.hid hz
        clear hz HYY
        by_cases hz2 : 128 ≤ z ∧ z ≤ 191
        · have iy := in_yes z 128 191 w hz2.1 hz2.2
          go_wp2_with (go_at_call 108; refine iy.mono ?_; rintro e w' ⟨rfl, rfl⟩)
          go_round
          case rel =>
            refine ⟨k + 1, hkw, by go_num, ?_, fun j h1 h2 => ?_⟩
            · simp only [accB]; rw [HQ.out, HZ.out]
            · by_cases hj : j ≤ k
              · exact HO.out j h1 hj
              · obtain rfl : j = k + 1 := by omega
                rw [HZ.out]; exact hz2
          case measure => simp [intOf]; omega
        · have iy := in_no z 128 191 w (by omega)
          have hR := Lib.hid (HB.out HL.out (k + 1) (by omega) hkw (by rw [HZ.out]; exact hz2))
          clear hz2
          go_wp2_with (go_at_call 108; refine iy.mono ?_; rintro e w' ⟨rfl, rfl⟩)
          go_ret3
          exact ⟨ret_bad hR.out, rfl⟩
      · obtain rfl : k = 2 := by omega
        have hE := HE.out HL.out (fun j h1 h2 => HO.out j h1 (by omega))
        rw [HQ.out] at hE
        have cw := wide_spec q w
        by_cases hw : wideR q = 3
        · have hR := Lib.hid (hE.1 hw)
          rw [hw] at cw
          clear hE hw
          go_wp2_with (go_at_call 168; refine cw.mono ?_; rintro e w' ⟨rfl, rfl⟩)
          go_ret3
          exact ⟨ret_good hR.out, rfl⟩
        · have hR := Lib.hid (hE.2 hw)
          have hw' : (((wideR q : Nat) : Int) != 3) = true := by simp; omega
          clear hE hw
          go_wp2_with (go_at_call 168; refine cw.mono ?_; rintro e w' ⟨rfl, rfl⟩)
          go_ret3
          exact ⟨ret_bad hR.out, rfl⟩
theorem get_spec_4 (w : World) (b o len cap at_ : Nat) (x : Int) (y : Nat → Int) (R : Value) (hat : at_ < len) (hlen : len ≤ 1099511627776) (hx : w.cell? ⟨b, o + at_, none⟩ = some (.int .u8 x)) (hx0 : 240 ≤ x) (hx1 : x ≤ 247)
    (hy : ∀ j : Nat, 1 ≤ j → j < 4 → at_ + j < len → w.cell? ⟨b, o + (at_ + j), none⟩ = some (.int .u8 (y j)) ∧ 0 ≤ y j ∧ y j ≤ 255)
    (hshort : len < at_ + 4 → R = badG)
    (hbad : at_ + 4 ≤ len → ∀ j, 1 ≤ j → j < 4 → ¬ (128 ≤ y j ∧ y j ≤ 191) → R = badG)
    (hend : at_ + 4 ≤ len → (∀ j, 1 ≤ j → j < 4 → 128 ≤ y j ∧ y j ≤ 191) → (wideR (accB (x - 240) y 3) = 4 → R = .tuple #[.int .i64 (accB (x - 240) y 3), .int .i64 (at_ + 4), .bool true]) ∧ (wideR (accB (x - 240) y 3) ≠ 4 → R = badG)) :
    Calls Try.prog 144 #[.slice (some ⟨b, o, none⟩) len cap, .int .i64 at_] w fun e w' => e = .returned R ∧ w = w' := by
  have HY := Lib.hid hy
  have HB := Lib.hid hbad
  have HE := Lib.hid hend
  have HS := Lib.hid hshort
  have HR := Lib.hid (trivial : True)
  clear hy hbad hend hshort
  have i1 := in_no x 192 223 w (by omega)
  have i2 := in_no x 224 239 w (by omega)
  have i3 := in_yes x 240 247 w hx0 hx1
  have ca : ¬ ((at_ : Int) < 0) := by omega
  have cl : ¬ ((len : Int) ≤ (at_ : Int)) := by omega
  have ca2 : (at_ : Int) ≤ 1099511627776 := by omega
  have cb : (len : Int) ≤ 1099511627776 := by omega
  have c128 : ¬ x < 128 := by omega
  have hW0 : (0 : Int) ≤ x - 240 ∧ x - 240 ≤ 31 := by omega
  by_cases hs : len < at_ + 4
  · have hs' : (len : Int) - at_ < 4 := by omega
    have cw := Lib.hid (HS.out hs)
    clear hs
    go_enter Try.func144, Try.ntmps144
    go_wp2_with (go_at_call 108; (first | (with_reducible refine i1.mono ?_) | (with_reducible refine i2.mono ?_) | (with_reducible refine i3.mono ?_)); rintro e w' ⟨rfl, rfl⟩)
    go_ret3
    exact ⟨ret_bad cw.out, rfl⟩
  · have hs' : ¬ ((len : Int) - at_ < 4) := by omega
    have hle : at_ + 4 ≤ len := by omega
    have HL := Lib.hid hle
    clear hs hle
    go_enter Try.func144, Try.ntmps144
    go_wp2_with (go_at_call 108; (first | (with_reducible refine i1.mono ?_) | (with_reducible refine i2.mono ?_) | (with_reducible refine i3.mono ?_)); rintro e w' ⟨rfl, rfl⟩)
    go_loop [9, 10] (fun n i => ∃ k : Nat, k < 4 ∧ i = .int .i64 ((k : Int) + 1) ∧ n = .int .i64 (accB (x - 240) y k) ∧ ∀ j, 1 ≤ j → j ≤ k → 128 ≤ y j ∧ y j ≤ 191) (fun _ i => 4 - (intOf i).toNat)
    case atStart => exact ⟨0, by omega, rfl, rfl, fun j h1 h2 => by omega⟩
    case round =>
      obtain ⟨k, hk, rfl, rfl, hok⟩ := hrel
      have HO := Lib.hid hok
      have hbd := accB_bound (x - 240) y k hW0.1 hW0.2 (by omega) hok
      clear hok
      generalize hq : accB (x - 240) y k = q at *
      have HQ := Lib.hid hq
      clear hq
      by_cases hkw : k + 1 < 4
      · have hkw' : (k : Int) + 1 < 4 := by omega
        have hlt : at_ + (k + 1) < len := by have := HL.out; omega
        obtain ⟨hc, hy0, hy1⟩ := HY.out (k + 1) (by omega) hkw hlt
        have HYY := Lib.hid (rfl : y (k + 1) = y (k + 1))
        generalize hz : y (k + 1) = z at hc hy0 hy1
        have HZ := Lib.hid hz
        clear hz HYY
        by_cases hz2 : 128 ≤ z ∧ z ≤ 191
        · have iy := in_yes z 128 191 w hz2.1 hz2.2
          go_wp2_with (go_at_call 108; refine iy.mono ?_; rintro e w' ⟨rfl, rfl⟩)
          go_round
          case rel =>
            refine ⟨k + 1, hkw, by go_num, ?_, fun j h1 h2 => ?_⟩
            · simp only [accB]; rw [HQ.out, HZ.out]
            · by_cases hj : j ≤ k
              · exact HO.out j h1 hj
              · obtain rfl : j = k + 1 := by omega
                rw [HZ.out]; exact hz2
          case measure => simp [intOf]; omega
        · have iy := in_no z 128 191 w (by omega)
          have hR := Lib.hid (HB.out HL.out (k + 1) (by omega) hkw (by rw [HZ.out]; exact hz2))
          clear hz2
          go_wp2_with (go_at_call 108; refine iy.mono ?_; rintro e w' ⟨rfl, rfl⟩)
          go_ret3
          exact ⟨ret_bad hR.out, rfl⟩
      · obtain rfl : k = 3 := by omega
        have hE := HE.out HL.out (fun j h1 h2 => HO.out j h1 (by omega))
        rw [HQ.out] at hE
        have cw := wide_spec q w
        by_cases hw : wideR q = 4
        · have hR := Lib.hid (hE.1 hw)
          rw [hw] at cw
          clear hE hw
          go_wp2_with (go_at_call 168; refine cw.mono ?_; rintro e w' ⟨rfl, rfl⟩)
          go_ret3
          exact ⟨ret_good hR.out, rfl⟩
        · have hR := Lib.hid (hE.2 hw)
          have hw' : (((wideR q : Nat) : Int) != 4) = true := by simp; omega
          clear hE hw
          go_wp2_with (go_at_call 168; refine cw.mono ?_; rintro e w' ⟨rfl, rfl⟩)
          go_ret3
          exact ⟨ret_bad hR.out, rfl⟩
/-- the decoder of strings, at place i of the bytes l -/
def dec (l : List UInt8) (i : Nat) : Nat × Nat := Utf8.decode ⟨l.toArray⟩ i
def byteN (l : List UInt8) (i : Nat) : Nat := ((ByteArray.mk l.toArray).get! i).toNat
theorem byteN_lt (l : List UInt8) (i : Nat) : byteN l i < 256 := UInt8.toNat_lt _
theorem byteN_at (l : List UInt8) (i : Nat) (h : i < l.length) : byteN l i = (l[i]).toNat := by
  have : (ByteArray.mk l.toArray).get! i = l[i] := (getElem!_pos l.toArray i (by simpa using h)).trans (by simp)
  unfold byteN
  rw [this]
theorem dec_eq (l : List UInt8) (i : Nat) : dec l i = Lib.decodeN (l.length - i) (byteN l i) (byteN l (i + 1)) (byteN l (i + 2)) (byteN l (i + 3)) := by
  unfold dec byteN
  rw [Lib.decode_at]
  rfl
theorem byteN_out (m : List UInt8) (k : Nat) (hk : ¬ k < m.length) : byteN m k = 0 := by
  have : (ByteArray.mk m.toArray).get! k = 0 := getElem!_neg m.toArray k (by simpa using hk)
  unfold byteN; rw [this]; rfl
theorem byteN_drop (l : List UInt8) (i j : Nat) : byteN (l.drop i) j = byteN l (i + j) := by
  by_cases h : i + j < l.length
  · rw [byteN_at _ _ h, byteN_at _ _ (by simp; omega), List.getElem_drop]
  · rw [byteN_out _ _ h, byteN_out _ _ (by simp; omega)]
theorem dec_shape (l : List UInt8) (i : Nat) (h : i < l.length) : (dec l i).1 ≤ 1114111 ∧ 1 ≤ (dec l i).2 ∧ i + (dec l i).2 ≤ l.length := by
  have b0 := byteN_lt l i
  have b1 := byteN_lt l (i + 1)
  have b2 := byteN_lt l (i + 2)
  have b3 := byteN_lt l (i + 3)
  rw [dec_eq]
  rcases Lib.decodeN_shape (l.length - i) (byteN l i) (byteN l (i + 1)) (byteN l (i + 2)) (byteN l (i + 3)) with ⟨h1, h2⟩ | ⟨h1, h3, h4, h5, h2⟩ | ⟨h1, h3, h4, h5, h6, h7, h2⟩ | ⟨h1, h3, h4, h5, h6, h7, h8, h2⟩ | h2
  all_goals rw [h2]; simp only; omega
/-- what GetRune answers at place a of the bytes l -/
def getV (l : List UInt8) (a : Int) : Value :=
  if 0 ≤ a ∧ a < l.length then (if dec l a.toNat = (65533, 1) then badG else .tuple #[.int .i64 (dec l a.toNat).1, .int .i64 (a + (dec l a.toNat).2), .bool true]) else badG
theorem getV_out {l : List UInt8} {a : Int} (h : ¬ (0 ≤ a ∧ a < l.length)) : getV l a = badG := by unfold getV; rw [if_neg h]
theorem getV_bad {l : List UInt8} {i : Nat} (h : dec l i = (65533, 1)) : getV l i = badG := by
  unfold getV; split
  · rw [Int.toNat_natCast, if_pos h]
  · rfl
theorem getV_good {l : List UInt8} {i : Nat} {r k : Nat} (hi : i < l.length) (h : dec l i = (r, k)) (hne : ¬ (r = 65533 ∧ k = 1)) : getV l i = .tuple #[.int .i64 r, .int .i64 (i + k), .bool true] := by
  unfold getV
  rw [if_pos (by omega), Int.toNat_natCast, if_neg (by rw [h]; simpa using hne), h]
theorem wide2 {q : Int} : wideR q = 2 ↔ 128 ≤ q ∧ q < 2048 := by rcases wideR_cases q with h | h | h | h | ⟨h, e⟩ <;> first | omega | (have : ¬ (128 ≤ q ∧ q < 2048) := fun g => h (okR_mk (by omega)); omega)
theorem wide3 {q : Int} : wideR q = 3 ↔ 2048 ≤ q ∧ q < 65536 ∧ (q < 55296 ∨ 57343 < q) := by rcases wideR_cases q with h | h | h | h | ⟨h, e⟩ <;> first | omega | (have : ¬ (2048 ≤ q ∧ q < 65536 ∧ (q < 55296 ∨ 57343 < q)) := fun g => h (okR_mk (by omega)); omega)
theorem wide4 {q : Int} : wideR q = 4 ↔ 65536 ≤ q ∧ q ≤ 1114111 := by rcases wideR_cases q with h | h | h | h | ⟨h, e⟩ <;> first | omega | (have : ¬ (65536 ≤ q ∧ q ≤ 1114111) := fun g => h (okR_mk (by omega)); omega)
theorem decN_two {n b0 b1 b2 b3 : Nat} (h : 192 ≤ b0 ∧ b0 ≤ 223) (h1 : b1 < 256) : (2 ≤ n ∧ 128 ≤ b1 ∧ b1 ≤ 191 ∧ 128 ≤ 64 * (b0 - 192) + (b1 - 128) ∧ Lib.decodeN n b0 b1 b2 b3 = (64 * (b0 - 192) + (b1 - 128), 2)) ∨ (¬ (2 ≤ n ∧ 128 ≤ b1 ∧ b1 ≤ 191 ∧ 128 ≤ 64 * (b0 - 192) + (b1 - 128)) ∧ Lib.decodeN n b0 b1 b2 b3 = (65533, 1)) := by
  unfold Lib.decodeN
  repeat' split
  all_goals first
    | (exfalso; omega)
    | (left; exact ⟨by omega, by omega, by omega, by omega, by apply Prod.ext <;> simp only <;> omega⟩)
    | (right; exact ⟨by omega, rfl⟩)
theorem decN_three {n b0 b1 b2 b3 : Nat} (h : 224 ≤ b0 ∧ b0 ≤ 239) (h1 : b1 < 256) (h2 : b2 < 256) :
    (3 ≤ n ∧ 128 ≤ b1 ∧ b1 ≤ 191 ∧ 128 ≤ b2 ∧ b2 ≤ 191 ∧ (2048 ≤ 64 * (64 * (b0 - 224) + (b1 - 128)) + (b2 - 128) ∧ (64 * (64 * (b0 - 224) + (b1 - 128)) + (b2 - 128) < 55296 ∨ 57343 < 64 * (64 * (b0 - 224) + (b1 - 128)) + (b2 - 128))) ∧ Lib.decodeN n b0 b1 b2 b3 = (64 * (64 * (b0 - 224) + (b1 - 128)) + (b2 - 128), 3)) ∨
    (¬ (3 ≤ n ∧ 128 ≤ b1 ∧ b1 ≤ 191 ∧ 128 ≤ b2 ∧ b2 ≤ 191 ∧ (2048 ≤ 64 * (64 * (b0 - 224) + (b1 - 128)) + (b2 - 128) ∧ (64 * (64 * (b0 - 224) + (b1 - 128)) + (b2 - 128) < 55296 ∨ 57343 < 64 * (64 * (b0 - 224) + (b1 - 128)) + (b2 - 128)))) ∧ Lib.decodeN n b0 b1 b2 b3 = (65533, 1)) := by
  unfold Lib.decodeN
  repeat' split
  all_goals first
    | (exfalso; omega)
    | (left; exact ⟨by omega, by omega, by omega, by omega, by omega, by omega, by apply Prod.ext <;> simp only <;> omega⟩)
    | (right; exact ⟨by omega, rfl⟩)
theorem decN_four {n b0 b1 b2 b3 : Nat} (h : 240 ≤ b0 ∧ b0 ≤ 247) (h1 : b1 < 256) (h2 : b2 < 256) (h3 : b3 < 256) :
    (4 ≤ n ∧ 128 ≤ b1 ∧ b1 ≤ 191 ∧ 128 ≤ b2 ∧ b2 ≤ 191 ∧ 128 ≤ b3 ∧ b3 ≤ 191 ∧ (65536 ≤ 64 * (64 * (64 * (b0 - 240) + (b1 - 128)) + (b2 - 128)) + (b3 - 128) ∧ 64 * (64 * (64 * (b0 - 240) + (b1 - 128)) + (b2 - 128)) + (b3 - 128) ≤ 1114111) ∧ Lib.decodeN n b0 b1 b2 b3 = (64 * (64 * (64 * (b0 - 240) + (b1 - 128)) + (b2 - 128)) + (b3 - 128), 4)) ∨
    (¬ (4 ≤ n ∧ 128 ≤ b1 ∧ b1 ≤ 191 ∧ 128 ≤ b2 ∧ b2 ≤ 191 ∧ 128 ≤ b3 ∧ b3 ≤ 191 ∧ (65536 ≤ 64 * (64 * (64 * (b0 - 240) + (b1 - 128)) + (b2 - 128)) + (b3 - 128) ∧ 64 * (64 * (64 * (b0 - 240) + (b1 - 128)) + (b2 - 128)) + (b3 - 128) ≤ 1114111)) ∧ Lib.decodeN n b0 b1 b2 b3 = (65533, 1)) := by
  unfold Lib.decodeN
  repeat' split
  all_goals first
    | (exfalso; omega)
    | (left; exact ⟨by omega, by omega, by omega, by omega, by omega, by omega, by omega, by omega, by apply Prod.ext <;> simp only <;> omega⟩)
    | (right; exact ⟨by omega, rfl⟩)
theorem decN_bad {n b0 b1 b2 b3 : Nat} (h : (128 ≤ b0 ∧ b0 < 192) ∨ 248 ≤ b0) (h0 : b0 < 256) : Lib.decodeN n b0 b1 b2 b3 = (65533, 1) := by
  unfold Lib.decodeN
  repeat' split
  all_goals first | (exfalso; omega) | rfl
theorem decN_one {n b0 b1 b2 b3 : Nat} (h : b0 < 128) : Lib.decodeN n b0 b1 b2 b3 = (b0, 1) := by unfold Lib.decodeN; rw [if_pos h]
end Go.Proofs.Ytnikcgmbkmbloaa
