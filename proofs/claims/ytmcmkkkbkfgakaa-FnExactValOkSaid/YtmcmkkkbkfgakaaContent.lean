/- The contents of the kinds: what val returns; contentOf and contentOk. -/
import Derived.Test.YtmcmkkkbkfgakaaCount
import Derived.Lib.Hide
import Derived.Outline
import Derived.ProofKit
namespace Go.Proofs.Ytmcmkkkbkfgakaa
open Go.RowKit
theorem two3 (w : World) (a b : Obj) : Below w.heap.size w ((w.alloc a).alloc b) := ((Below.refl w.heap.size w).alloc (Nat.le_refl _) a).alloc (by simp) b
theorem cval_null (w : World) (n x : Int) (s : ByteArray) (a : Option Addr) (len cap : Nat) : Calls Try.prog 125 #[.agg #[]] w fun e w' => e = .returned (.agg #[.int .i64 1, .int .i64 0, .int .i64 0, .string ⟨#[]⟩, .slice none 0 0]) ∧ Below w.heap.size w w' := by
  go_enter Try.func125, Try.ntmps125
  go_wp2
  exact bodyPost_ret (v := .agg #[.int .i64 1, .int .i64 0, .int .i64 0, .string ⟨#[]⟩, .slice none 0 0]) (by simp [results, Try.results125, go_sem]) rfl ⟨rfl, two3 _ _ _⟩
theorem cval_bool (w : World) (n x : Int) (s : ByteArray) (a : Option Addr) (len cap : Nat) : Calls Try.prog 126 #[.int .i64 n] w fun e w' => e = .returned (.agg #[.int .i64 2, .int .i64 n, .int .i64 0, .string ⟨#[]⟩, .slice none 0 0]) ∧ Below w.heap.size w w' := by
  go_enter Try.func126, Try.ntmps126
  go_wp2
  exact bodyPost_ret (v := .agg #[.int .i64 2, .int .i64 n, .int .i64 0, .string ⟨#[]⟩, .slice none 0 0]) (by simp [results, Try.results126, go_sem]) rfl ⟨rfl, vbox _ _⟩
theorem cval_flt (w : World) (n x : Int) (s : ByteArray) (a : Option Addr) (len cap : Nat) : Calls Try.prog 127 #[.agg #[.int .i64 n, .int .i64 x]] w fun e w' => e = .returned (.agg #[.int .i64 4, .int .i64 n, .int .i64 x, .string ⟨#[]⟩, .slice none 0 0]) ∧ Below w.heap.size w w' := by
  go_enter Try.func127, Try.ntmps127
  go_wp2
  exact bodyPost_ret (v := .agg #[.int .i64 4, .int .i64 n, .int .i64 x, .string ⟨#[]⟩, .slice none 0 0]) (by simp [results, Try.results127, go_sem]) rfl ⟨rfl, two3 _ _ _⟩
theorem cval_odd (w : World) (n x : Int) (s : ByteArray) (a : Option Addr) (len cap : Nat) : Calls Try.prog 128 #[.int .i64 n] w fun e w' => e = .returned (.agg #[.int .i64 5, .int .i64 n, .int .i64 0, .string ⟨#[]⟩, .slice none 0 0]) ∧ Below w.heap.size w w' := by
  go_enter Try.func128, Try.ntmps128
  go_wp2
  exact bodyPost_ret (v := .agg #[.int .i64 5, .int .i64 n, .int .i64 0, .string ⟨#[]⟩, .slice none 0 0]) (by simp [results, Try.results128, go_sem]) rfl ⟨rfl, vbox _ _⟩
theorem cval_bytes (w : World) (n x : Int) (s : ByteArray) (a : Option Addr) (len cap : Nat) : Calls Try.prog 129 #[.string s] w fun e w' => e = .returned (.agg #[.int .i64 8, .int .i64 0, .int .i64 0, .string s, .slice none 0 0]) ∧ Below w.heap.size w w' := by
  go_enter Try.func129, Try.ntmps129
  go_wp2
  exact bodyPost_ret (v := .agg #[.int .i64 8, .int .i64 0, .int .i64 0, .string s, .slice none 0 0]) (by simp [results, Try.results129, go_sem]) rfl ⟨rfl, vbox _ _⟩
theorem cval_map (w : World) (n x : Int) (s : ByteArray) (a : Option Addr) (len cap : Nat) : Calls Try.prog 130 #[.slice a len cap] w fun e w' => e = .returned (.agg #[.int .i64 10, .int .i64 0, .int .i64 0, .string ⟨#[]⟩, .slice a len cap]) ∧ Below w.heap.size w w' := by
  go_enter Try.func130, Try.ntmps130
  go_wp2
  exact bodyPost_ret (v := .agg #[.int .i64 10, .int .i64 0, .int .i64 0, .string ⟨#[]⟩, .slice a len cap]) (by simp [results, Try.results130, go_sem]) rfl ⟨rfl, vbox _ _⟩
theorem cval_tag (w : World) (n x : Int) (s : ByteArray) (a : Option Addr) (len cap : Nat) : Calls Try.prog 131 #[.agg #[.int .i64 n, .slice a len cap]] w fun e w' => e = .returned (.agg #[.int .i64 11, .int .i64 n, .int .i64 0, .string ⟨#[]⟩, .slice a len cap]) ∧ Below w.heap.size w w' := by
  go_enter Try.func131, Try.ntmps131
  go_wp2
  exact bodyPost_ret (v := .agg #[.int .i64 11, .int .i64 n, .int .i64 0, .string ⟨#[]⟩, .slice a len cap]) (by simp [results, Try.results131, go_sem]) rfl ⟨rfl, two3 _ _ _⟩
theorem cval_int (w : World) (n x : Int) (s : ByteArray) (a : Option Addr) (len cap : Nat) : Calls Try.prog 71 #[.int .i64 n] w fun e w' => e = .returned (.agg #[.int .i64 3, .int .i64 n, .int .i64 0, .string ⟨#[]⟩, .slice none 0 0]) ∧ Below w.heap.size w w' := by
  go_enter Try.func71, Try.ntmps71
  go_wp2
  exact bodyPost_ret (v := .agg #[.int .i64 3, .int .i64 n, .int .i64 0, .string ⟨#[]⟩, .slice none 0 0]) (by simp [results, Try.results71, go_sem]) rfl ⟨rfl, vbox _ _⟩
theorem cval_text (w : World) (n x : Int) (s : ByteArray) (a : Option Addr) (len cap : Nat) : Calls Try.prog 72 #[.string s] w fun e w' => e = .returned (.agg #[.int .i64 7, .int .i64 0, .int .i64 0, .string s, .slice none 0 0]) ∧ Below w.heap.size w w' := by
  go_enter Try.func72, Try.ntmps72
  go_wp2
  exact bodyPost_ret (v := .agg #[.int .i64 7, .int .i64 0, .int .i64 0, .string s, .slice none 0 0]) (by simp [results, Try.results72, go_sem]) rfl ⟨rfl, vbox _ _⟩
theorem cval_dec (w : World) (n x : Int) (s : ByteArray) (a : Option Addr) (len cap : Nat) : Calls Try.prog 76 #[.agg #[.int .i64 n, .int .i64 x]] w fun e w' => e = .returned (.agg #[.int .i64 6, .int .i64 n, .int .i64 x, .string ⟨#[]⟩, .slice none 0 0]) ∧ Below w.heap.size w w' := by
  go_enter Try.func76, Try.ntmps76
  go_wp2
  exact bodyPost_ret (v := .agg #[.int .i64 6, .int .i64 n, .int .i64 x, .string ⟨#[]⟩, .slice none 0 0]) (by simp [results, Try.results76, go_sem]) rfl ⟨rfl, two3 _ _ _⟩
theorem cval_list (w : World) (n x : Int) (s : ByteArray) (a : Option Addr) (len cap : Nat) : Calls Try.prog 74 #[.slice a len cap] w fun e w' => e = .returned (.agg #[.int .i64 9, .int .i64 0, .int .i64 0, .string ⟨#[]⟩, .slice a len cap]) ∧ Below w.heap.size w w' := by
  go_enter Try.func74, Try.ntmps74
  go_wp2
  exact bodyPost_ret (v := .agg #[.int .i64 9, .int .i64 0, .int .i64 0, .string ⟨#[]⟩, .slice a len cap]) (by simp [results, Try.results74, go_sem]) rfl ⟨rfl, vbox _ _⟩
theorem cof_null (w : World) (n x : Int) (s : ByteArray) (a : Option Addr) (len cap : Nat) : Calls Try.prog 63 #[.agg #[.int .i64 1, .int .i64 n, .int .i64 x, .string s, .slice a len cap]] w fun e w' => e = .returned (.iface 107 (.agg #[])) ∧ Below w.heap.size w w' := by
  go_enter Try.func63, Try.ntmps63
  go_wp2
  go_ret
  exact ⟨rfl, vbox _ _⟩
theorem cof_bool (w : World) (n x : Int) (s : ByteArray) (a : Option Addr) (len cap : Nat) : Calls Try.prog 63 #[.agg #[.int .i64 2, .int .i64 n, .int .i64 x, .string s, .slice a len cap]] w fun e w' => e = .returned (.iface 108 (.int .i64 n)) ∧ Below w.heap.size w w' := by
  go_enter Try.func63, Try.ntmps63
  go_wp2
  go_ret
  exact ⟨rfl, vbox _ _⟩
theorem cof_int (w : World) (n x : Int) (s : ByteArray) (a : Option Addr) (len cap : Nat) : Calls Try.prog 63 #[.agg #[.int .i64 3, .int .i64 n, .int .i64 x, .string s, .slice a len cap]] w fun e w' => e = .returned (.iface 90 (.int .i64 n)) ∧ Below w.heap.size w w' := by
  go_enter Try.func63, Try.ntmps63
  go_wp2
  go_ret
  exact ⟨rfl, vbox _ _⟩
theorem cof_flt (w : World) (n x : Int) (s : ByteArray) (a : Option Addr) (len cap : Nat) : Calls Try.prog 63 #[.agg #[.int .i64 4, .int .i64 n, .int .i64 x, .string s, .slice a len cap]] w fun e w' => e = .returned (.iface 109 (.agg #[.int .i64 n, .int .i64 x])) ∧ Below w.heap.size w w' := by
  go_enter Try.func63, Try.ntmps63
  go_wp2
  go_ret
  exact ⟨rfl, vbox _ _⟩
theorem cof_odd (w : World) (n x : Int) (s : ByteArray) (a : Option Addr) (len cap : Nat) : Calls Try.prog 63 #[.agg #[.int .i64 5, .int .i64 n, .int .i64 x, .string s, .slice a len cap]] w fun e w' => e = .returned (.iface 110 (.int .i64 n)) ∧ Below w.heap.size w w' := by
  go_enter Try.func63, Try.ntmps63
  go_wp2
  go_ret
  exact ⟨rfl, vbox _ _⟩
theorem cof_dec (w : World) (n x : Int) (s : ByteArray) (a : Option Addr) (len cap : Nat) : Calls Try.prog 63 #[.agg #[.int .i64 6, .int .i64 n, .int .i64 x, .string s, .slice a len cap]] w fun e w' => e = .returned (.iface 94 (.agg #[.int .i64 n, .int .i64 x])) ∧ Below w.heap.size w w' := by
  go_enter Try.func63, Try.ntmps63
  go_wp2
  go_ret
  exact ⟨rfl, vbox _ _⟩
theorem cof_text (w : World) (n x : Int) (s : ByteArray) (a : Option Addr) (len cap : Nat) : Calls Try.prog 63 #[.agg #[.int .i64 7, .int .i64 n, .int .i64 x, .string s, .slice a len cap]] w fun e w' => e = .returned (.iface 91 (.string s)) ∧ Below w.heap.size w w' := by
  go_enter Try.func63, Try.ntmps63
  go_wp2
  go_ret
  exact ⟨rfl, vbox _ _⟩
theorem cof_bytes (w : World) (n x : Int) (s : ByteArray) (a : Option Addr) (len cap : Nat) : Calls Try.prog 63 #[.agg #[.int .i64 8, .int .i64 n, .int .i64 x, .string s, .slice a len cap]] w fun e w' => e = .returned (.iface 111 (.string s)) ∧ Below w.heap.size w w' := by
  go_enter Try.func63, Try.ntmps63
  go_wp2
  go_ret
  exact ⟨rfl, vbox _ _⟩
theorem cof_list (w : World) (n x : Int) (s : ByteArray) (a : Option Addr) (len cap : Nat) : Calls Try.prog 63 #[.agg #[.int .i64 9, .int .i64 n, .int .i64 x, .string s, .slice a len cap]] w fun e w' => e = .returned (.iface 92 (.slice a len cap)) ∧ Below w.heap.size w w' := by
  go_enter Try.func63, Try.ntmps63
  go_wp2
  go_ret
  exact ⟨rfl, vbox _ _⟩
theorem cof_map (w : World) (n x : Int) (s : ByteArray) (a : Option Addr) (len cap : Nat) : Calls Try.prog 63 #[.agg #[.int .i64 10, .int .i64 n, .int .i64 x, .string s, .slice a len cap]] w fun e w' => e = .returned (.iface 112 (.slice a len cap)) ∧ Below w.heap.size w w' := by
  go_enter Try.func63, Try.ntmps63
  go_wp2
  go_ret
  exact ⟨rfl, vbox _ _⟩
theorem cof_tag (w : World) (n x : Int) (s : ByteArray) (a : Option Addr) (len cap : Nat) : Calls Try.prog 63 #[.agg #[.int .i64 11, .int .i64 n, .int .i64 x, .string s, .slice a len cap]] w fun e w' => e = .returned (.iface 114 (.agg #[.int .i64 n, .slice a len cap])) ∧ Below w.heap.size w w' := by
  go_enter Try.func63, Try.ntmps63
  go_wp2
  go_ret
  exact ⟨rfl, vbox _ _⟩
theorem cof_none (w : World) (k n x : Int) (s : ByteArray) (a : Option Addr) (len cap : Nat) (hk : k < 1 ∨ 11 < k) : Calls Try.prog 63 #[.agg #[.int .i64 k, .int .i64 n, .int .i64 x, .string s, .slice a len cap]] w fun e w' => e = .returned .nilIface ∧ Below w.heap.size w w' := by
  have h1 : ¬ k = 1 := by omega
  have h2 : ¬ k = 2 := by omega
  have h3 : ¬ k = 3 := by omega
  have h4 : ¬ k = 4 := by omega
  have h5 : ¬ k = 5 := by omega
  have h6 : ¬ k = 6 := by omega
  have h7 : ¬ k = 7 := by omega
  have h8 : ¬ k = 8 := by omega
  have h9 : ¬ k = 9 := by omega
  have h10 : ¬ k = 10 := by omega
  have h11 : ¬ k = 11 := by omega
  clear hk
  go_enter Try.func63, Try.ntmps63
  go_wp2
  go_ret
  exact ⟨rfl, vbox _ _⟩
end Go.Proofs.Ytmcmkkkbkfgakaa
