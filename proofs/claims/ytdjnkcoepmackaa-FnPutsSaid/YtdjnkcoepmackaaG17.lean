import Derived.Test.YtdjnkcoepmackaaG16
import Derived.Test.YtdjnkcoepmackaaG7
import Derived.Lib.Hide
import Derived.Outline
import Derived.ProofKit
import Derived.Test.YtdjnkcoepmackaaG6
import Derived.Test.YtdjnkcoepmackaaG2
import Derived.Test.YtdjnkcoepmackaaG14
import Derived.Test.YtdjnkcoepmackaaG15
/- LessVal of the program. -/
namespace Go.Proofs.Ytdjnkcoepmackaa
open Go.RowKit
set_option maxRecDepth 100000
theorem lessval_impl (T U : AT) (w : World) (N : Nat) (hwf : T.pt.Wf) (hwf2 : U.pt.Wf) (hin : T.In w N) (hin2 : U.In w N) (hN : N ≤ w.heap.size) (hsz : T.pt.sz ≤ 2097152) : Calls Try.prog 22 #[T.val, U.val] w fun e w' => e = .returned (.bool (T.pt.less U.pt)) ∧ Below w.heap.size w w' := by
  have HC := Lib.hid (fun (w1 : World) (hb : Below w.heap.size w w1) => treesN T U w1 N hwf hwf2 (hin.blw hb hN) (hin2.blw hb hN) (Nat.le_trans hN hb.size) hsz)
  have hl : T.pt.less U.pt = decide (T.pt.cmp numV U.pt < 0) := rfl
  rw [hl]
  generalize T.pt.cmp numV U.pt = r at *
  clear hin hin2 hwf hwf2 hsz
  show Calls Try.prog 22 #[.agg #[.int .i64 T.k, .int .i64 T.n, .int .i64 T.x, .string ⟨T.s.toArray⟩, .slice T.a T.l.length T.cap], .agg #[.int .i64 U.k, .int .i64 U.n, .int .i64 U.x, .string ⟨U.s.toArray⟩, .slice U.a U.l.length U.cap]] w _
  go_enter Try.func22, Try.ntmps22
  go_wp2_with fail
  refine (HC.out _ (two' _ _ _)).mono ?_
  rintro e w1 ⟨rfl, hb1⟩
  have HB := Lib.hid ((two' w (.cells #[.int .i64 T.k, .int .i64 T.n, .int .i64 T.x, .string ⟨T.s.toArray⟩, .slice T.a T.l.length T.cap] 28) (.cells #[.int .i64 U.k, .int .i64 U.n, .int .i64 U.x, .string ⟨U.s.toArray⟩, .slice U.a U.l.length U.cap] 28)).trans (hb1.mono (by simp; omega)))
  clear hb1
  go_wp2
  go_ret
  exact ⟨rfl, HB.out⟩
end Go.Proofs.Ytdjnkcoepmackaa
/- The contents of the kinds: what val returns; contentOf and contentOk. -/
namespace Go.Proofs.Ytdjnkcoepmackaa
open Go.RowKit
theorem two3 (w : World) (a b : Obj) : Below w.heap.size w ((w.alloc a).alloc b) := ((Below.refl w.heap.size w).alloc (Nat.le_refl _) a).alloc (by simp) b
theorem cval_null (w : World) (n x : Int) (s : ByteArray) (a : Option Addr) (len cap : Nat) : Calls Try.prog 215 #[.agg #[]] w fun e w' => e = .returned (.agg #[.int .i64 1, .int .i64 0, .int .i64 0, .string ⟨#[]⟩, .slice none 0 0]) ∧ Below w.heap.size w w' := by
  go_enter Try.func215, Try.ntmps215
  go_wp2
  exact bodyPost_ret (v := .agg #[.int .i64 1, .int .i64 0, .int .i64 0, .string ⟨#[]⟩, .slice none 0 0]) (by simp [results, Try.results215, go_sem]) rfl ⟨rfl, two3 _ _ _⟩
theorem cval_bool (w : World) (n x : Int) (s : ByteArray) (a : Option Addr) (len cap : Nat) : Calls Try.prog 216 #[.int .i64 n] w fun e w' => e = .returned (.agg #[.int .i64 2, .int .i64 n, .int .i64 0, .string ⟨#[]⟩, .slice none 0 0]) ∧ Below w.heap.size w w' := by
  go_enter Try.func216, Try.ntmps216
  go_wp2
  exact bodyPost_ret (v := .agg #[.int .i64 2, .int .i64 n, .int .i64 0, .string ⟨#[]⟩, .slice none 0 0]) (by simp [results, Try.results216, go_sem]) rfl ⟨rfl, vbox _ _⟩
theorem cval_flt (w : World) (n x : Int) (s : ByteArray) (a : Option Addr) (len cap : Nat) : Calls Try.prog 217 #[.agg #[.int .i64 n, .int .i64 x]] w fun e w' => e = .returned (.agg #[.int .i64 4, .int .i64 n, .int .i64 x, .string ⟨#[]⟩, .slice none 0 0]) ∧ Below w.heap.size w w' := by
  go_enter Try.func217, Try.ntmps217
  go_wp2
  exact bodyPost_ret (v := .agg #[.int .i64 4, .int .i64 n, .int .i64 x, .string ⟨#[]⟩, .slice none 0 0]) (by simp [results, Try.results217, go_sem]) rfl ⟨rfl, two3 _ _ _⟩
theorem cval_odd (w : World) (n x : Int) (s : ByteArray) (a : Option Addr) (len cap : Nat) : Calls Try.prog 218 #[.int .i64 n] w fun e w' => e = .returned (.agg #[.int .i64 5, .int .i64 n, .int .i64 0, .string ⟨#[]⟩, .slice none 0 0]) ∧ Below w.heap.size w w' := by
  go_enter Try.func218, Try.ntmps218
  go_wp2
  exact bodyPost_ret (v := .agg #[.int .i64 5, .int .i64 n, .int .i64 0, .string ⟨#[]⟩, .slice none 0 0]) (by simp [results, Try.results218, go_sem]) rfl ⟨rfl, vbox _ _⟩
theorem cval_bytes (w : World) (n x : Int) (s : ByteArray) (a : Option Addr) (len cap : Nat) : Calls Try.prog 219 #[.string s] w fun e w' => e = .returned (.agg #[.int .i64 8, .int .i64 0, .int .i64 0, .string s, .slice none 0 0]) ∧ Below w.heap.size w w' := by
  go_enter Try.func219, Try.ntmps219
  go_wp2
  exact bodyPost_ret (v := .agg #[.int .i64 8, .int .i64 0, .int .i64 0, .string s, .slice none 0 0]) (by simp [results, Try.results219, go_sem]) rfl ⟨rfl, vbox _ _⟩
theorem cval_map (w : World) (n x : Int) (s : ByteArray) (a : Option Addr) (len cap : Nat) : Calls Try.prog 220 #[.slice a len cap] w fun e w' => e = .returned (.agg #[.int .i64 10, .int .i64 0, .int .i64 0, .string ⟨#[]⟩, .slice a len cap]) ∧ Below w.heap.size w w' := by
  go_enter Try.func220, Try.ntmps220
  go_wp2
  exact bodyPost_ret (v := .agg #[.int .i64 10, .int .i64 0, .int .i64 0, .string ⟨#[]⟩, .slice a len cap]) (by simp [results, Try.results220, go_sem]) rfl ⟨rfl, vbox _ _⟩
theorem cval_tag (w : World) (n x : Int) (s : ByteArray) (a : Option Addr) (len cap : Nat) : Calls Try.prog 221 #[.agg #[.int .i64 n, .slice a len cap]] w fun e w' => e = .returned (.agg #[.int .i64 11, .int .i64 n, .int .i64 0, .string ⟨#[]⟩, .slice a len cap]) ∧ Below w.heap.size w w' := by
  go_enter Try.func221, Try.ntmps221
  go_wp2
  exact bodyPost_ret (v := .agg #[.int .i64 11, .int .i64 n, .int .i64 0, .string ⟨#[]⟩, .slice a len cap]) (by simp [results, Try.results221, go_sem]) rfl ⟨rfl, two3 _ _ _⟩
theorem cval_int (w : World) (n x : Int) (s : ByteArray) (a : Option Addr) (len cap : Nat) : Calls Try.prog 118 #[.int .i64 n] w fun e w' => e = .returned (.agg #[.int .i64 3, .int .i64 n, .int .i64 0, .string ⟨#[]⟩, .slice none 0 0]) ∧ Below w.heap.size w w' := by
  go_enter Try.func118, Try.ntmps118
  go_wp2
  exact bodyPost_ret (v := .agg #[.int .i64 3, .int .i64 n, .int .i64 0, .string ⟨#[]⟩, .slice none 0 0]) (by simp [results, Try.results118, go_sem]) rfl ⟨rfl, vbox _ _⟩
theorem cval_text (w : World) (n x : Int) (s : ByteArray) (a : Option Addr) (len cap : Nat) : Calls Try.prog 119 #[.string s] w fun e w' => e = .returned (.agg #[.int .i64 7, .int .i64 0, .int .i64 0, .string s, .slice none 0 0]) ∧ Below w.heap.size w w' := by
  go_enter Try.func119, Try.ntmps119
  go_wp2
  exact bodyPost_ret (v := .agg #[.int .i64 7, .int .i64 0, .int .i64 0, .string s, .slice none 0 0]) (by simp [results, Try.results119, go_sem]) rfl ⟨rfl, vbox _ _⟩
theorem cval_dec (w : World) (n x : Int) (s : ByteArray) (a : Option Addr) (len cap : Nat) : Calls Try.prog 122 #[.agg #[.int .i64 n, .int .i64 x]] w fun e w' => e = .returned (.agg #[.int .i64 6, .int .i64 n, .int .i64 x, .string ⟨#[]⟩, .slice none 0 0]) ∧ Below w.heap.size w w' := by
  go_enter Try.func122, Try.ntmps122
  go_wp2
  exact bodyPost_ret (v := .agg #[.int .i64 6, .int .i64 n, .int .i64 x, .string ⟨#[]⟩, .slice none 0 0]) (by simp [results, Try.results122, go_sem]) rfl ⟨rfl, two3 _ _ _⟩
theorem cval_list (w : World) (n x : Int) (s : ByteArray) (a : Option Addr) (len cap : Nat) : Calls Try.prog 120 #[.slice a len cap] w fun e w' => e = .returned (.agg #[.int .i64 9, .int .i64 0, .int .i64 0, .string ⟨#[]⟩, .slice a len cap]) ∧ Below w.heap.size w w' := by
  go_enter Try.func120, Try.ntmps120
  go_wp2
  exact bodyPost_ret (v := .agg #[.int .i64 9, .int .i64 0, .int .i64 0, .string ⟨#[]⟩, .slice a len cap]) (by simp [results, Try.results120, go_sem]) rfl ⟨rfl, vbox _ _⟩
theorem cof_null (w : World) (n x : Int) (s : ByteArray) (a : Option Addr) (len cap : Nat) : Calls Try.prog 95 #[.agg #[.int .i64 1, .int .i64 n, .int .i64 x, .string s, .slice a len cap]] w fun e w' => e = .returned (.iface 150 (.agg #[])) ∧ Below w.heap.size w w' := by
  go_enter Try.func95, Try.ntmps95
  go_wp2
  go_ret
  exact ⟨rfl, vbox _ _⟩
theorem cof_bool (w : World) (n x : Int) (s : ByteArray) (a : Option Addr) (len cap : Nat) : Calls Try.prog 95 #[.agg #[.int .i64 2, .int .i64 n, .int .i64 x, .string s, .slice a len cap]] w fun e w' => e = .returned (.iface 151 (.int .i64 n)) ∧ Below w.heap.size w w' := by
  go_enter Try.func95, Try.ntmps95
  go_wp2
  go_ret
  exact ⟨rfl, vbox _ _⟩
theorem cof_int (w : World) (n x : Int) (s : ByteArray) (a : Option Addr) (len cap : Nat) : Calls Try.prog 95 #[.agg #[.int .i64 3, .int .i64 n, .int .i64 x, .string s, .slice a len cap]] w fun e w' => e = .returned (.iface 122 (.int .i64 n)) ∧ Below w.heap.size w w' := by
  go_enter Try.func95, Try.ntmps95
  go_wp2
  go_ret
  exact ⟨rfl, vbox _ _⟩
theorem cof_flt (w : World) (n x : Int) (s : ByteArray) (a : Option Addr) (len cap : Nat) : Calls Try.prog 95 #[.agg #[.int .i64 4, .int .i64 n, .int .i64 x, .string s, .slice a len cap]] w fun e w' => e = .returned (.iface 152 (.agg #[.int .i64 n, .int .i64 x])) ∧ Below w.heap.size w w' := by
  go_enter Try.func95, Try.ntmps95
  go_wp2
  go_ret
  exact ⟨rfl, vbox _ _⟩
theorem cof_odd (w : World) (n x : Int) (s : ByteArray) (a : Option Addr) (len cap : Nat) : Calls Try.prog 95 #[.agg #[.int .i64 5, .int .i64 n, .int .i64 x, .string s, .slice a len cap]] w fun e w' => e = .returned (.iface 153 (.int .i64 n)) ∧ Below w.heap.size w w' := by
  go_enter Try.func95, Try.ntmps95
  go_wp2
  go_ret
  exact ⟨rfl, vbox _ _⟩
theorem cof_dec (w : World) (n x : Int) (s : ByteArray) (a : Option Addr) (len cap : Nat) : Calls Try.prog 95 #[.agg #[.int .i64 6, .int .i64 n, .int .i64 x, .string s, .slice a len cap]] w fun e w' => e = .returned (.iface 126 (.agg #[.int .i64 n, .int .i64 x])) ∧ Below w.heap.size w w' := by
  go_enter Try.func95, Try.ntmps95
  go_wp2
  go_ret
  exact ⟨rfl, vbox _ _⟩
theorem cof_text (w : World) (n x : Int) (s : ByteArray) (a : Option Addr) (len cap : Nat) : Calls Try.prog 95 #[.agg #[.int .i64 7, .int .i64 n, .int .i64 x, .string s, .slice a len cap]] w fun e w' => e = .returned (.iface 123 (.string s)) ∧ Below w.heap.size w w' := by
  go_enter Try.func95, Try.ntmps95
  go_wp2
  go_ret
  exact ⟨rfl, vbox _ _⟩
theorem cof_bytes (w : World) (n x : Int) (s : ByteArray) (a : Option Addr) (len cap : Nat) : Calls Try.prog 95 #[.agg #[.int .i64 8, .int .i64 n, .int .i64 x, .string s, .slice a len cap]] w fun e w' => e = .returned (.iface 154 (.string s)) ∧ Below w.heap.size w w' := by
  go_enter Try.func95, Try.ntmps95
  go_wp2
  go_ret
  exact ⟨rfl, vbox _ _⟩
theorem cof_list (w : World) (n x : Int) (s : ByteArray) (a : Option Addr) (len cap : Nat) : Calls Try.prog 95 #[.agg #[.int .i64 9, .int .i64 n, .int .i64 x, .string s, .slice a len cap]] w fun e w' => e = .returned (.iface 124 (.slice a len cap)) ∧ Below w.heap.size w w' := by
  go_enter Try.func95, Try.ntmps95
  go_wp2
  go_ret
  exact ⟨rfl, vbox _ _⟩
theorem cof_map (w : World) (n x : Int) (s : ByteArray) (a : Option Addr) (len cap : Nat) : Calls Try.prog 95 #[.agg #[.int .i64 10, .int .i64 n, .int .i64 x, .string s, .slice a len cap]] w fun e w' => e = .returned (.iface 155 (.slice a len cap)) ∧ Below w.heap.size w w' := by
  go_enter Try.func95, Try.ntmps95
  go_wp2
  go_ret
  exact ⟨rfl, vbox _ _⟩
theorem cof_tag (w : World) (n x : Int) (s : ByteArray) (a : Option Addr) (len cap : Nat) : Calls Try.prog 95 #[.agg #[.int .i64 11, .int .i64 n, .int .i64 x, .string s, .slice a len cap]] w fun e w' => e = .returned (.iface 157 (.agg #[.int .i64 n, .slice a len cap])) ∧ Below w.heap.size w w' := by
  go_enter Try.func95, Try.ntmps95
  go_wp2
  go_ret
  exact ⟨rfl, vbox _ _⟩
theorem cof_none (w : World) (k n x : Int) (s : ByteArray) (a : Option Addr) (len cap : Nat) (hk : k < 1 ∨ 11 < k) : Calls Try.prog 95 #[.agg #[.int .i64 k, .int .i64 n, .int .i64 x, .string s, .slice a len cap]] w fun e w' => e = .returned .nilIface ∧ Below w.heap.size w w' := by
  have h1 : ¬ k = 1 := by omega
  have h2 : ¬ k = 2 := by omega
  have h3 : ¬ k = 3 := by omega
  have h4 : ¬ k = 4 := by omega
  have h5 : ¬ k = 5 := by omega
  have h6 : ¬ k = 6 := by omega
  have h7 : ¬ k = 7 := by omega
  have h8 : ¬ k = 8 := by omega
  have h9 : ¬ k = 9 := by omega
  have h10 : ¬ k = 10 := by omega
  have h11 : ¬ k = 11 := by omega
  clear hk
  go_enter Try.func95, Try.ntmps95
  go_wp2
  go_ret
  exact ⟨rfl, vbox _ _⟩
end Go.Proofs.Ytdjnkcoepmackaa
/- contentOk: whether a content is within the bounds of its kind. -/
namespace Go.Proofs.Ytdjnkcoepmackaa
open Go.RowKit
set_option maxHeartbeats 1000000 in
set_option maxRecDepth 100000 in
theorem cok_null (w : World) (n x : Int) (s : ByteArray) (a : Option Addr) (len cap : Nat) : Calls Try.prog 96 #[.iface 150 (.agg #[])] w fun e w' => e = .returned (.bool (true)) ∧ Below w.heap.size w w' := by
  have ta_null : ∀ W : World, (Instr.typeAssert (.iface 150 (.agg #[])) 86 150 true).run Try.prog W = .ok (.tuple #[(.agg #[]), .bool true]) W := fun W => by kernel_rfl
  have ta_bytes : ∀ W : World, (Instr.typeAssert (.iface 150 (.agg #[])) 86 154 true).run Try.prog W = .ok (.tuple #[(.string ⟨#[]⟩), .bool false]) W := fun W => by kernel_rfl
  have ta_list : ∀ W : World, (Instr.typeAssert (.iface 150 (.agg #[])) 86 124 true).run Try.prog W = .ok (.tuple #[(.slice none 0 0), .bool false]) W := fun W => by kernel_rfl
  go_enter Try.func96, Try.ntmps96
  go_wp2
  go_ret
  exact ⟨rfl, Below.refl _ _⟩
set_option maxHeartbeats 1000000 in
set_option maxRecDepth 100000 in
theorem cok_bytes (w : World) (n x : Int) (s : ByteArray) (a : Option Addr) (len cap : Nat) : Calls Try.prog 96 #[.iface 154 (.string s)] w fun e w' => e = .returned (.bool (true)) ∧ Below w.heap.size w w' := by
  have ta_null : ∀ W : World, (Instr.typeAssert (.iface 154 (.string s)) 86 150 true).run Try.prog W = .ok (.tuple #[(.agg #[]), .bool false]) W := fun W => by kernel_rfl
  have ta_bytes : ∀ W : World, (Instr.typeAssert (.iface 154 (.string s)) 86 154 true).run Try.prog W = .ok (.tuple #[(.string s), .bool true]) W := fun W => by kernel_rfl
  have ta_list : ∀ W : World, (Instr.typeAssert (.iface 154 (.string s)) 86 124 true).run Try.prog W = .ok (.tuple #[(.slice none 0 0), .bool false]) W := fun W => by kernel_rfl
  go_enter Try.func96, Try.ntmps96
  go_wp2
  go_ret
  exact ⟨rfl, Below.refl _ _⟩
set_option maxHeartbeats 1000000 in
set_option maxRecDepth 100000 in
theorem cok_list (w : World) (n x : Int) (s : ByteArray) (a : Option Addr) (len cap : Nat) : Calls Try.prog 96 #[.iface 124 (.slice a len cap)] w fun e w' => e = .returned (.bool (true)) ∧ Below w.heap.size w w' := by
  have ta_null : ∀ W : World, (Instr.typeAssert (.iface 124 (.slice a len cap)) 86 150 true).run Try.prog W = .ok (.tuple #[(.agg #[]), .bool false]) W := fun W => by kernel_rfl
  have ta_bytes : ∀ W : World, (Instr.typeAssert (.iface 124 (.slice a len cap)) 86 154 true).run Try.prog W = .ok (.tuple #[(.string ⟨#[]⟩), .bool false]) W := fun W => by kernel_rfl
  have ta_list : ∀ W : World, (Instr.typeAssert (.iface 124 (.slice a len cap)) 86 124 true).run Try.prog W = .ok (.tuple #[(.slice a len cap), .bool true]) W := fun W => by kernel_rfl
  go_enter Try.func96, Try.ntmps96
  go_wp2
  go_ret
  exact ⟨rfl, Below.refl _ _⟩
set_option maxHeartbeats 1000000 in
set_option maxRecDepth 100000 in
theorem cok_nil (w : World)  : Calls Try.prog 96 #[.nilIface] w fun e w' => e = .returned (.bool (false)) ∧ Below w.heap.size w w' := by
  have ta_null : ∀ W : World, (Instr.typeAssert .nilIface 86 150 true).run Try.prog W = .ok (.tuple #[(.agg #[]), .bool false]) W := fun W => by kernel_rfl
  have ta_bytes : ∀ W : World, (Instr.typeAssert .nilIface 86 154 true).run Try.prog W = .ok (.tuple #[(.string ⟨#[]⟩), .bool false]) W := fun W => by kernel_rfl
  have ta_list : ∀ W : World, (Instr.typeAssert .nilIface 86 124 true).run Try.prog W = .ok (.tuple #[(.slice none 0 0), .bool false]) W := fun W => by kernel_rfl
  have ta_bool : ∀ W : World, (Instr.typeAssert .nilIface 86 151 true).run Try.prog W = .ok (.tuple #[(.int .i64 0), .bool false]) W := fun W => by kernel_rfl
  have ta_int : ∀ W : World, (Instr.typeAssert .nilIface 86 122 true).run Try.prog W = .ok (.tuple #[(.int .i64 0), .bool false]) W := fun W => by kernel_rfl
  have ta_flt : ∀ W : World, (Instr.typeAssert .nilIface 86 152 true).run Try.prog W = .ok (.tuple #[(.agg #[.int .i64 0, .int .i64 0]), .bool false]) W := fun W => by kernel_rfl
  have ta_odd : ∀ W : World, (Instr.typeAssert .nilIface 86 153 true).run Try.prog W = .ok (.tuple #[(.int .i64 0), .bool false]) W := fun W => by kernel_rfl
  have ta_dec : ∀ W : World, (Instr.typeAssert .nilIface 86 126 true).run Try.prog W = .ok (.tuple #[(.agg #[.int .i64 0, .int .i64 0]), .bool false]) W := fun W => by kernel_rfl
  have ta_text : ∀ W : World, (Instr.typeAssert .nilIface 86 123 true).run Try.prog W = .ok (.tuple #[(.string ⟨#[]⟩), .bool false]) W := fun W => by kernel_rfl
  have ta_map : ∀ W : World, (Instr.typeAssert .nilIface 86 155 true).run Try.prog W = .ok (.tuple #[(.slice none 0 0), .bool false]) W := fun W => by kernel_rfl
  have ta_tag : ∀ W : World, (Instr.typeAssert .nilIface 86 157 true).run Try.prog W = .ok (.tuple #[(.agg #[.int .i64 0, .slice none 0 0]), .bool false]) W := fun W => by kernel_rfl
  go_enter Try.func96, Try.ntmps96
  go_wp2
  go_ret
  exact ⟨rfl, Below.refl _ _⟩
set_option maxHeartbeats 1000000 in
set_option maxRecDepth 100000 in
theorem cok_int (w : World) (n : Int) : Calls Try.prog 96 #[.iface 122 (.int .i64 n)] w fun e w' => e = .returned (.bool (decide (-1000000000000000 ≤ n ∧ n ≤ 1000000000000000))) ∧ Below w.heap.size w w' := by
  have ta_null : ∀ W : World, (Instr.typeAssert (.iface 122 (.int .i64 n)) 86 150 true).run Try.prog W = .ok (.tuple #[(.agg #[]), .bool false]) W := fun W => by kernel_rfl
  have ta_bytes : ∀ W : World, (Instr.typeAssert (.iface 122 (.int .i64 n)) 86 154 true).run Try.prog W = .ok (.tuple #[(.string ⟨#[]⟩), .bool false]) W := fun W => by kernel_rfl
  have ta_list : ∀ W : World, (Instr.typeAssert (.iface 122 (.int .i64 n)) 86 124 true).run Try.prog W = .ok (.tuple #[(.slice none 0 0), .bool false]) W := fun W => by kernel_rfl
  have ta_bool : ∀ W : World, (Instr.typeAssert (.iface 122 (.int .i64 n)) 86 151 true).run Try.prog W = .ok (.tuple #[(.int .i64 0), .bool false]) W := fun W => by kernel_rfl
  have ta_int : ∀ W : World, (Instr.typeAssert (.iface 122 (.int .i64 n)) 86 122 true).run Try.prog W = .ok (.tuple #[(.int .i64 n), .bool true]) W := fun W => by kernel_rfl
  by_cases h0 : -1000000000000000 ≤ n
  · by_cases h1 : n ≤ 1000000000000000
    · rw [decide_eq_true (And.intro h0 h1)]
      go_enter Try.func96, Try.ntmps96
      go_wp2
      go_ret
      exact ⟨rfl, Below.refl _ _⟩
    · rw [decide_eq_false (fun h => h1 h.2)]
      go_enter Try.func96, Try.ntmps96
      go_wp2
      go_ret
      exact ⟨rfl, Below.refl _ _⟩
  · rw [decide_eq_false (fun h => h0 h.1)]
    go_enter Try.func96, Try.ntmps96
    go_wp2
    go_ret
    exact ⟨rfl, Below.refl _ _⟩
set_option maxHeartbeats 1000000 in
set_option maxRecDepth 100000 in
theorem cok_odd (w : World) (n : Int) : Calls Try.prog 96 #[.iface 153 (.int .i64 n)] w fun e w' => e = .returned (.bool (decide (0 ≤ n ∧ n ≤ 2))) ∧ Below w.heap.size w w' := by
  have ta_null : ∀ W : World, (Instr.typeAssert (.iface 153 (.int .i64 n)) 86 150 true).run Try.prog W = .ok (.tuple #[(.agg #[]), .bool false]) W := fun W => by kernel_rfl
  have ta_bytes : ∀ W : World, (Instr.typeAssert (.iface 153 (.int .i64 n)) 86 154 true).run Try.prog W = .ok (.tuple #[(.string ⟨#[]⟩), .bool false]) W := fun W => by kernel_rfl
  have ta_list : ∀ W : World, (Instr.typeAssert (.iface 153 (.int .i64 n)) 86 124 true).run Try.prog W = .ok (.tuple #[(.slice none 0 0), .bool false]) W := fun W => by kernel_rfl
  have ta_bool : ∀ W : World, (Instr.typeAssert (.iface 153 (.int .i64 n)) 86 151 true).run Try.prog W = .ok (.tuple #[(.int .i64 0), .bool false]) W := fun W => by kernel_rfl
  have ta_int : ∀ W : World, (Instr.typeAssert (.iface 153 (.int .i64 n)) 86 122 true).run Try.prog W = .ok (.tuple #[(.int .i64 0), .bool false]) W := fun W => by kernel_rfl
  have ta_flt : ∀ W : World, (Instr.typeAssert (.iface 153 (.int .i64 n)) 86 152 true).run Try.prog W = .ok (.tuple #[(.agg #[.int .i64 0, .int .i64 0]), .bool false]) W := fun W => by kernel_rfl
  have ta_odd : ∀ W : World, (Instr.typeAssert (.iface 153 (.int .i64 n)) 86 153 true).run Try.prog W = .ok (.tuple #[(.int .i64 n), .bool true]) W := fun W => by kernel_rfl
  by_cases h0 : 0 ≤ n
  · by_cases h1 : n ≤ 2
    · rw [decide_eq_true (And.intro h0 h1)]
      go_enter Try.func96, Try.ntmps96
      go_wp2
      go_ret
      exact ⟨rfl, Below.refl _ _⟩
    · rw [decide_eq_false (fun h => h1 h.2)]
      go_enter Try.func96, Try.ntmps96
      go_wp2
      go_ret
      exact ⟨rfl, Below.refl _ _⟩
  · rw [decide_eq_false (fun h => h0 h.1)]
    go_enter Try.func96, Try.ntmps96
    go_wp2
    go_ret
    exact ⟨rfl, Below.refl _ _⟩
set_option maxHeartbeats 1000000 in
set_option maxRecDepth 100000 in
theorem cok_bool (w : World) (n : Int) : Calls Try.prog 96 #[.iface 151 (.int .i64 n)] w fun e w' => e = .returned (.bool (decide (0 ≤ n ∧ n ≤ 1))) ∧ Below w.heap.size w w' := by
  have ta_null : ∀ W : World, (Instr.typeAssert (.iface 151 (.int .i64 n)) 86 150 true).run Try.prog W = .ok (.tuple #[(.agg #[]), .bool false]) W := fun W => by kernel_rfl
  have ta_bytes : ∀ W : World, (Instr.typeAssert (.iface 151 (.int .i64 n)) 86 154 true).run Try.prog W = .ok (.tuple #[(.string ⟨#[]⟩), .bool false]) W := fun W => by kernel_rfl
  have ta_list : ∀ W : World, (Instr.typeAssert (.iface 151 (.int .i64 n)) 86 124 true).run Try.prog W = .ok (.tuple #[(.slice none 0 0), .bool false]) W := fun W => by kernel_rfl
  have ta_bool : ∀ W : World, (Instr.typeAssert (.iface 151 (.int .i64 n)) 86 151 true).run Try.prog W = .ok (.tuple #[(.int .i64 n), .bool true]) W := fun W => by kernel_rfl
  by_cases h0 : n = 0
  · subst h0
    rw [decide_eq_true (by decide)]
    go_enter Try.func96, Try.ntmps96
    go_wp2
    go_ret
    exact ⟨rfl, Below.refl _ _⟩
  · by_cases h1 : n = 1
    · subst h1
      rw [decide_eq_true (by decide)]
      go_enter Try.func96, Try.ntmps96
      go_wp2
      go_ret
      exact ⟨rfl, Below.refl _ _⟩
    · rw [decide_eq_false (by omega)]
      have g0 : (n == 0) = false := by simpa using h0
      have g1 : (n == 1) = false := by simpa using h1
      go_enter Try.func96, Try.ntmps96
      go_wp2
      go_ret
      exact ⟨rfl, Below.refl _ _⟩
set_option maxHeartbeats 1000000 in
set_option maxRecDepth 100000 in
theorem cok_flt (w : World) (n x : Int) (h0 : -9223372036854775808 ≤ n) (h1 : n ≤ 9223372036854775807) (k0 : -9223372036854775808 ≤ x) (k1 : x ≤ 9223372036854775807) : Calls Try.prog 96 #[.iface 152 (.agg #[.int .i64 n, .int .i64 x])] w fun e w' => e = .returned (.bool (fltOk n x)) ∧ Below w.heap.size w w' := by
  have ta_null : ∀ W : World, (Instr.typeAssert (.iface 152 (.agg #[.int .i64 n, .int .i64 x])) 86 150 true).run Try.prog W = .ok (.tuple #[(.agg #[]), .bool false]) W := fun W => by kernel_rfl
  have ta_bytes : ∀ W : World, (Instr.typeAssert (.iface 152 (.agg #[.int .i64 n, .int .i64 x])) 86 154 true).run Try.prog W = .ok (.tuple #[(.string ⟨#[]⟩), .bool false]) W := fun W => by kernel_rfl
  have ta_list : ∀ W : World, (Instr.typeAssert (.iface 152 (.agg #[.int .i64 n, .int .i64 x])) 86 124 true).run Try.prog W = .ok (.tuple #[(.slice none 0 0), .bool false]) W := fun W => by kernel_rfl
  have ta_bool : ∀ W : World, (Instr.typeAssert (.iface 152 (.agg #[.int .i64 n, .int .i64 x])) 86 151 true).run Try.prog W = .ok (.tuple #[(.int .i64 0), .bool false]) W := fun W => by kernel_rfl
  have ta_int : ∀ W : World, (Instr.typeAssert (.iface 152 (.agg #[.int .i64 n, .int .i64 x])) 86 122 true).run Try.prog W = .ok (.tuple #[(.int .i64 0), .bool false]) W := fun W => by kernel_rfl
  have ta_flt : ∀ W : World, (Instr.typeAssert (.iface 152 (.agg #[.int .i64 n, .int .i64 x])) 86 152 true).run Try.prog W = .ok (.tuple #[(.agg #[.int .i64 n, .int .i64 x]), .bool true]) W := fun W => by kernel_rfl
  have c := fun w1 => fltok_impl n x w1 h0 h1 k0 k1
  have C := Lib.hid c
  clear c
  go_enter Try.func96, Try.ntmps96
  go_wp2_with fail
  refine (C.out _).mono ?_
  rintro e w1 ⟨rfl, hb⟩
  have HB := Lib.hid ((vbox w _).trans (hb.mono (by simp)))
  clear hb
  go_wp2
  go_ret
  exact ⟨rfl, HB.out⟩
set_option maxHeartbeats 1000000 in
set_option maxRecDepth 100000 in
theorem cok_text (w : World) (l : List UInt8) (hl : l.length ≤ 1099511627776) : Calls Try.prog 96 #[.iface 123 (.string ⟨l.toArray⟩)] w fun e w' => e = .returned (.bool ((runes l).isSome)) ∧ Below w.heap.size w w' := by
  have ta_null : ∀ W : World, (Instr.typeAssert (.iface 123 (.string ⟨l.toArray⟩)) 86 150 true).run Try.prog W = .ok (.tuple #[(.agg #[]), .bool false]) W := fun W => by kernel_rfl
  have ta_bytes : ∀ W : World, (Instr.typeAssert (.iface 123 (.string ⟨l.toArray⟩)) 86 154 true).run Try.prog W = .ok (.tuple #[(.string ⟨#[]⟩), .bool false]) W := fun W => by kernel_rfl
  have ta_list : ∀ W : World, (Instr.typeAssert (.iface 123 (.string ⟨l.toArray⟩)) 86 124 true).run Try.prog W = .ok (.tuple #[(.slice none 0 0), .bool false]) W := fun W => by kernel_rfl
  have ta_bool : ∀ W : World, (Instr.typeAssert (.iface 123 (.string ⟨l.toArray⟩)) 86 151 true).run Try.prog W = .ok (.tuple #[(.int .i64 0), .bool false]) W := fun W => by kernel_rfl
  have ta_int : ∀ W : World, (Instr.typeAssert (.iface 123 (.string ⟨l.toArray⟩)) 86 122 true).run Try.prog W = .ok (.tuple #[(.int .i64 0), .bool false]) W := fun W => by kernel_rfl
  have ta_flt : ∀ W : World, (Instr.typeAssert (.iface 123 (.string ⟨l.toArray⟩)) 86 152 true).run Try.prog W = .ok (.tuple #[(.agg #[.int .i64 0, .int .i64 0]), .bool false]) W := fun W => by kernel_rfl
  have ta_odd : ∀ W : World, (Instr.typeAssert (.iface 123 (.string ⟨l.toArray⟩)) 86 153 true).run Try.prog W = .ok (.tuple #[(.int .i64 0), .bool false]) W := fun W => by kernel_rfl
  have ta_dec : ∀ W : World, (Instr.typeAssert (.iface 123 (.string ⟨l.toArray⟩)) 86 126 true).run Try.prog W = .ok (.tuple #[(.agg #[.int .i64 0, .int .i64 0]), .bool false]) W := fun W => by kernel_rfl
  have ta_text : ∀ W : World, (Instr.typeAssert (.iface 123 (.string ⟨l.toArray⟩)) 86 123 true).run Try.prog W = .ok (.tuple #[(.string ⟨l.toArray⟩), .bool true]) W := fun W => by kernel_rfl
  have c := fun w1 => textok_impl l w1 hl
  have C := Lib.hid c
  clear c
  go_enter Try.func96, Try.ntmps96
  go_wp2_with fail
  refine (C.out _).mono ?_
  rintro e w1 ⟨rfl, hb⟩
  have HB := Lib.hid hb
  clear hb
  go_wp2
  go_ret
  exact ⟨rfl, HB.out⟩
set_option maxHeartbeats 1000000 in
set_option maxRecDepth 100000 in
theorem cok_dec (w : World) (n x : Int) (h0 : -9223372036854775808 ≤ n) (h1 : n ≤ 9223372036854775807) : Calls Try.prog 96 #[.iface 126 (.agg #[.int .i64 n, .int .i64 x])] w fun e w' => e = .returned (.bool (decide (x < 0) && decOk n x)) ∧ Below w.heap.size w w' := by
  have ta_null : ∀ W : World, (Instr.typeAssert (.iface 126 (.agg #[.int .i64 n, .int .i64 x])) 86 150 true).run Try.prog W = .ok (.tuple #[(.agg #[]), .bool false]) W := fun W => by kernel_rfl
  have ta_bytes : ∀ W : World, (Instr.typeAssert (.iface 126 (.agg #[.int .i64 n, .int .i64 x])) 86 154 true).run Try.prog W = .ok (.tuple #[(.string ⟨#[]⟩), .bool false]) W := fun W => by kernel_rfl
  have ta_list : ∀ W : World, (Instr.typeAssert (.iface 126 (.agg #[.int .i64 n, .int .i64 x])) 86 124 true).run Try.prog W = .ok (.tuple #[(.slice none 0 0), .bool false]) W := fun W => by kernel_rfl
  have ta_bool : ∀ W : World, (Instr.typeAssert (.iface 126 (.agg #[.int .i64 n, .int .i64 x])) 86 151 true).run Try.prog W = .ok (.tuple #[(.int .i64 0), .bool false]) W := fun W => by kernel_rfl
  have ta_int : ∀ W : World, (Instr.typeAssert (.iface 126 (.agg #[.int .i64 n, .int .i64 x])) 86 122 true).run Try.prog W = .ok (.tuple #[(.int .i64 0), .bool false]) W := fun W => by kernel_rfl
  have ta_flt : ∀ W : World, (Instr.typeAssert (.iface 126 (.agg #[.int .i64 n, .int .i64 x])) 86 152 true).run Try.prog W = .ok (.tuple #[(.agg #[.int .i64 0, .int .i64 0]), .bool false]) W := fun W => by kernel_rfl
  have ta_odd : ∀ W : World, (Instr.typeAssert (.iface 126 (.agg #[.int .i64 n, .int .i64 x])) 86 153 true).run Try.prog W = .ok (.tuple #[(.int .i64 0), .bool false]) W := fun W => by kernel_rfl
  have ta_dec : ∀ W : World, (Instr.typeAssert (.iface 126 (.agg #[.int .i64 n, .int .i64 x])) 86 126 true).run Try.prog W = .ok (.tuple #[(.agg #[.int .i64 n, .int .i64 x]), .bool true]) W := fun W => by kernel_rfl
  have c := fun w1 => decok_impl n x w1 h0 h1
  have C := Lib.hid c
  clear c
  by_cases hx : x < 0
  · rw [decide_eq_true hx, Bool.true_and]
    go_enter Try.func96, Try.ntmps96
    go_wp2_with fail
    refine (C.out _).mono ?_
    rintro e w1 ⟨rfl, hb⟩
    have HB := Lib.hid ((vbox w _).trans (hb.mono (by simp)))
    clear hb
    go_wp2
    go_ret
    exact ⟨rfl, HB.out⟩
  · rw [decide_eq_false hx, Bool.false_and]
    go_enter Try.func96, Try.ntmps96
    go_wp2
    go_ret
    exact ⟨rfl, vbox _ _⟩
set_option maxHeartbeats 1000000 in
set_option maxRecDepth 100000 in
theorem cok_map (w : World) (a : Option Addr) (len cap : Nat) (hl : len ≤ 9223372036854775807) : Calls Try.prog 96 #[.iface 155 (.slice a len cap)] w fun e w' => e = .returned (.bool (decide (len % 2 = 0))) ∧ Below w.heap.size w w' := by
  have ta_null : ∀ W : World, (Instr.typeAssert (.iface 155 (.slice a len cap)) 86 150 true).run Try.prog W = .ok (.tuple #[(.agg #[]), .bool false]) W := fun W => by kernel_rfl
  have ta_bytes : ∀ W : World, (Instr.typeAssert (.iface 155 (.slice a len cap)) 86 154 true).run Try.prog W = .ok (.tuple #[(.string ⟨#[]⟩), .bool false]) W := fun W => by kernel_rfl
  have ta_list : ∀ W : World, (Instr.typeAssert (.iface 155 (.slice a len cap)) 86 124 true).run Try.prog W = .ok (.tuple #[(.slice none 0 0), .bool false]) W := fun W => by kernel_rfl
  have ta_bool : ∀ W : World, (Instr.typeAssert (.iface 155 (.slice a len cap)) 86 151 true).run Try.prog W = .ok (.tuple #[(.int .i64 0), .bool false]) W := fun W => by kernel_rfl
  have ta_int : ∀ W : World, (Instr.typeAssert (.iface 155 (.slice a len cap)) 86 122 true).run Try.prog W = .ok (.tuple #[(.int .i64 0), .bool false]) W := fun W => by kernel_rfl
  have ta_flt : ∀ W : World, (Instr.typeAssert (.iface 155 (.slice a len cap)) 86 152 true).run Try.prog W = .ok (.tuple #[(.agg #[.int .i64 0, .int .i64 0]), .bool false]) W := fun W => by kernel_rfl
  have ta_odd : ∀ W : World, (Instr.typeAssert (.iface 155 (.slice a len cap)) 86 153 true).run Try.prog W = .ok (.tuple #[(.int .i64 0), .bool false]) W := fun W => by kernel_rfl
  have ta_dec : ∀ W : World, (Instr.typeAssert (.iface 155 (.slice a len cap)) 86 126 true).run Try.prog W = .ok (.tuple #[(.agg #[.int .i64 0, .int .i64 0]), .bool false]) W := fun W => by kernel_rfl
  have ta_text : ∀ W : World, (Instr.typeAssert (.iface 155 (.slice a len cap)) 86 123 true).run Try.prog W = .ok (.tuple #[(.string ⟨#[]⟩), .bool false]) W := fun W => by kernel_rfl
  have ta_map : ∀ W : World, (Instr.typeAssert (.iface 155 (.slice a len cap)) 86 155 true).run Try.prog W = .ok (.tuple #[(.slice a len cap), .bool true]) W := fun W => by kernel_rfl
  have e1 : ((len : Int)).tmod 2 = ((len % 2 : Nat) : Int) := by rw [Int.tmod_eq_emod_of_nonneg (by omega)]; omega
  by_cases h : len % 2 = 0
  · rw [decide_eq_true h]
    have e2 : ((len : Int)).tmod 2 = 0 := by omega
    have e3 : ((len : Int)) % 2 = 0 := by omega
    clear e1 h
    go_enter Try.func96, Try.ntmps96
    go_wp2
    go_ret
    exact ⟨rfl, Below.refl _ _⟩
  · rw [decide_eq_false h]
    have e2 : ((len : Int)).tmod 2 = 1 := by omega
    have e3 : ((len : Int)) % 2 = 1 := by omega
    clear e1 h
    go_enter Try.func96, Try.ntmps96
    go_wp2
    go_ret
    exact ⟨rfl, Below.refl _ _⟩
set_option maxHeartbeats 1000000 in
set_option maxRecDepth 100000 in
theorem cok_tag (w : World) (n : Int) (a : Option Addr) (len cap : Nat) : Calls Try.prog 96 #[.iface 157 (.agg #[.int .i64 n, .slice a len cap])] w fun e w' => e = .returned (.bool (decide (0 ≤ n ∧ n ≤ 1000000000000000) && decide (len = 1))) ∧ Below w.heap.size w w' := by
  have ta_null : ∀ W : World, (Instr.typeAssert (.iface 157 (.agg #[.int .i64 n, .slice a len cap])) 86 150 true).run Try.prog W = .ok (.tuple #[(.agg #[]), .bool false]) W := fun W => by kernel_rfl
  have ta_bytes : ∀ W : World, (Instr.typeAssert (.iface 157 (.agg #[.int .i64 n, .slice a len cap])) 86 154 true).run Try.prog W = .ok (.tuple #[(.string ⟨#[]⟩), .bool false]) W := fun W => by kernel_rfl
  have ta_list : ∀ W : World, (Instr.typeAssert (.iface 157 (.agg #[.int .i64 n, .slice a len cap])) 86 124 true).run Try.prog W = .ok (.tuple #[(.slice none 0 0), .bool false]) W := fun W => by kernel_rfl
  have ta_bool : ∀ W : World, (Instr.typeAssert (.iface 157 (.agg #[.int .i64 n, .slice a len cap])) 86 151 true).run Try.prog W = .ok (.tuple #[(.int .i64 0), .bool false]) W := fun W => by kernel_rfl
  have ta_int : ∀ W : World, (Instr.typeAssert (.iface 157 (.agg #[.int .i64 n, .slice a len cap])) 86 122 true).run Try.prog W = .ok (.tuple #[(.int .i64 0), .bool false]) W := fun W => by kernel_rfl
  have ta_flt : ∀ W : World, (Instr.typeAssert (.iface 157 (.agg #[.int .i64 n, .slice a len cap])) 86 152 true).run Try.prog W = .ok (.tuple #[(.agg #[.int .i64 0, .int .i64 0]), .bool false]) W := fun W => by kernel_rfl
  have ta_odd : ∀ W : World, (Instr.typeAssert (.iface 157 (.agg #[.int .i64 n, .slice a len cap])) 86 153 true).run Try.prog W = .ok (.tuple #[(.int .i64 0), .bool false]) W := fun W => by kernel_rfl
  have ta_dec : ∀ W : World, (Instr.typeAssert (.iface 157 (.agg #[.int .i64 n, .slice a len cap])) 86 126 true).run Try.prog W = .ok (.tuple #[(.agg #[.int .i64 0, .int .i64 0]), .bool false]) W := fun W => by kernel_rfl
  have ta_text : ∀ W : World, (Instr.typeAssert (.iface 157 (.agg #[.int .i64 n, .slice a len cap])) 86 123 true).run Try.prog W = .ok (.tuple #[(.string ⟨#[]⟩), .bool false]) W := fun W => by kernel_rfl
  have ta_map : ∀ W : World, (Instr.typeAssert (.iface 157 (.agg #[.int .i64 n, .slice a len cap])) 86 155 true).run Try.prog W = .ok (.tuple #[(.slice none 0 0), .bool false]) W := fun W => by kernel_rfl
  have ta_tag : ∀ W : World, (Instr.typeAssert (.iface 157 (.agg #[.int .i64 n, .slice a len cap])) 86 157 true).run Try.prog W = .ok (.tuple #[(.agg #[.int .i64 n, .slice a len cap]), .bool true]) W := fun W => by kernel_rfl
  by_cases h0 : 0 ≤ n
  · by_cases h1 : n ≤ 1000000000000000
    · by_cases h2 : len = 1
      · subst h2
        rw [decide_eq_true (And.intro h0 h1)]
        go_enter Try.func96, Try.ntmps96
        go_wp2
        go_ret
        exact ⟨rfl, vbox _ _⟩
      · have h3 : ((len : Int) == 1) = false := by rw [beq_eq_false_iff_ne]; omega
        rw [decide_eq_false h2, Bool.and_false]
        clear h2
        go_enter Try.func96, Try.ntmps96
        go_wp2
        go_ret
        exact ⟨rfl, vbox _ _⟩
    · rw [decide_eq_false (fun h => h1 h.2), Bool.false_and]
      go_enter Try.func96, Try.ntmps96
      go_wp2
      go_ret
      exact ⟨rfl, vbox _ _⟩
  · rw [decide_eq_false (fun h => h0 h.1), Bool.false_and]
    go_enter Try.func96, Try.ntmps96
    go_wp2
    go_ret
    exact ⟨rfl, vbox _ _⟩
end Go.Proofs.Ytdjnkcoepmackaa
/- The program's walk begun: walkOf. -/
namespace Go.Proofs.Ytdjnkcoepmackaa
open Go.RowKit
theorem walkof_any (T : AT) (w : World) (N : Nat) (hin : T.In w N) (hN : N ≤ w.heap.size) :
    Calls Try.prog 93 #[T.val] w fun e w' => e = .returned (.pointer (some ⟨w.heap.size + 3, 0, none⟩)) ∧ WalkAt w' (w.heap.size + 2) (w.heap.size + 2) (w.heap.size + 3) (w.heap.size + 2) 1 [⟨some ⟨w.heap.size + 1, 0, none⟩, 1, [T]⟩] 0 ∧ Below w.heap.size w w' ∧ w'.heap.size = w.heap.size + 4 := by
  have H := Lib.hid hin
  clear hin
  obtain ⟨k, n, x, s, a, cap, l⟩ := T
  show Calls Try.prog 93 #[.agg #[.int .i64 k, .int .i64 n, .int .i64 x, .string ⟨s.toArray⟩, .slice a l.length cap]] w _
  go_enter Try.func93, Try.ntmps93
  go_wp2
  go_ret
  have hb : Below w.heap.size w ((((w.alloc (.cells #[.int .i64 k, .int .i64 n, .int .i64 x, .string ⟨s.toArray⟩, .slice a l.length cap] 28)).alloc (.cells #[.int .i64 k, .int .i64 n, .int .i64 x, .string ⟨s.toArray⟩, .slice a l.length cap] 28)).alloc (.cells #[.slice (some ⟨w.heap.size + 1, 0, none⟩) 1 1] 26)).alloc (.cells #[.slice (some ⟨w.heap.size + 1 + 1, 0, none⟩) 1 1, .int .i64 0] 119)) :=
    ((((Below.refl _ _).alloc (Nat.le_refl _) _).alloc (by simp) _).alloc (by simp; omega) _).alloc (by simp; omega) _
  refine ⟨rfl, ?_, hb, by simp⟩
  exact {
    rest := by simp [go_sem]
    deep := by simp [go_sem]
    fr := fun o => by simp [go_sem]
    row := by
      refine ⟨rfl, .inr ⟨w.heap.size + 2, 1, #[.slice (some ⟨w.heap.size + 1, 0, none⟩) 1 1], rfl, Nat.le_refl _, ?_, Nat.le_refl _, by unfold maxLen; omega, rfl, rfl⟩⟩
      rw [Below.heap_alloc _ _ _ (by simp)]
      have := heap_alloc_new ((w.alloc (.cells #[.int .i64 k, .int .i64 n, .int .i64 x, .string ⟨s.toArray⟩, .slice a l.length cap] 28)).alloc (.cells #[.int .i64 k, .int .i64 n, .int .i64 x, .string ⟨s.toArray⟩, .slice a l.length cap] 28)) (.cells #[.slice (some ⟨w.heap.size + 1, 0, none⟩) 1 1] 26)
      simpa using this
    pB := by omega
    pN := Nat.le_refl _
    ne := by omega
    lv := fun L hL => by
      obtain rfl : L = ⟨some ⟨w.heap.size + 1, 0, none⟩, 1, [.mk k n x s a cap l]⟩ := by simpa using hL
      refine ⟨Nat.le_refl _, fun j hj => ⟨w.heap.size + 1, 0, rfl, by omega, ?_⟩, fun t ht => ?_⟩
      · obtain rfl : j = 0 := by simp at hj; exact hj
        refine ⟨?_, ?_, ?_, ?_, ?_⟩ <;> simp [go_sem, AT.k, AT.n, AT.x, AT.s, AT.a, AT.cap, AT.l]
      · obtain rfl : t = .mk k n x s a cap l := by simpa using ht
        exact (H.out.blw hb hN).mono (by omega) }
end Go.Proofs.Ytdjnkcoepmackaa
/- CountOf and DeepOf of the program. -/
namespace Go.Proofs.Ytdjnkcoepmackaa
open Go.RowKit
/-- what holds at the head of a loop over a walk: the box of the value at hand lies at X and is no part of the walk -/
structure HeadAt (w wr : World) (B P g cap : Nat) (S : List Lev) (d : Int) (X : Nat) (T : AT) : Prop where
  walk : WalkAt wr B B P g cap S d
  x : CellsAt wr X 0 T
  xP : X ≠ P
  xg : X ≠ g
  xB : w.heap.size ≤ X
  bB : w.heap.size ≤ B
  below : Below w.heap.size w wr
theorem HeadAt.xlt {w wr : World} {B P g cap : Nat} {S : List Lev} {d : Int} {X : Nat} {T : AT} (h : HeadAt w wr B P g cap S d X T) : X < wr.heap.size := cell_lt h.x.c0
/-- a step, read at the head of such a loop -/
theorem next_head {w wr : World} {B P g cap : Nat} {S : List Lev} {d : Int} (h : WalkAt wr B B P g cap S d) (hB : w.heap.size ≤ B) (hb : Below w.heap.size w wr) (hS : S.length ≤ 4194304) :
    Calls Try.prog 94 #[.pointer (some ⟨P, 0, none⟩)] wr fun e w' =>
      (∃ (S1 E : List Lev) (L : Lev) (t : AT) (tl : List AT) (a' : Option Addr) (c' g' cap' : Nat), S = S1 ++ L :: E ∧ (∀ L' ∈ E, L'.l = []) ∧ L.l = t :: tl ∧ e = .returned (.tuple #[t.val, .bool true]) ∧
        WalkAt w' B B P g' cap' (S1 ++ [⟨a', c', tl⟩, ⟨t.a, t.cap, t.l⟩]) (S1.length + 1 : Nat) ∧ (g' = g ∨ wr.heap.size ≤ g') ∧ Only2 P g wr w' ∧ Below w.heap.size w w') ∨
      ((∀ L' ∈ S, L'.l = []) ∧ e = .returned (.tuple #[(AT.leaf 0 0 0 []).val, .bool false]) ∧ Only2 P g wr w' ∧ Below w.heap.size w w') := by
  have hl := h.lt
  have hp := h.pB
  have hs := hb.size
  refine (next_any wr B B P g cap S d h hS).mono fun e w' hpost => ?_
  rcases hpost with ⟨S1, E, L, t, tl, a', c', g', cap', h1, h2, h3, h4, h5, h6, h7⟩ | ⟨h1, h2, h3⟩
  · exact .inl ⟨S1, E, L, t, tl, a', c', g', cap', h1, h2, h3, h4, h5, h6, h7, hb.trans (h7.below (by omega) (by omega) (by omega))⟩
  · exact .inr ⟨h1, h2, h3, hb.trans (h3.below (by omega) (by omega) (by omega))⟩
/-- walkOf, its blocks as letters -/
theorem walkof_head (T : AT) (w : World) (N : Nat) (hin : T.In w N) (hN : N ≤ w.heap.size) (w1 : World) (hb1 : Below w.heap.size w w1) :
    Calls Try.prog 93 #[T.val] w1 fun e w' => ∃ P g b B, e = .returned (.pointer (some ⟨P, 0, none⟩)) ∧ WalkAt w' B B P g 1 [⟨some ⟨b, 0, none⟩, 1, [T]⟩] 0 ∧ w1.heap.size ≤ B ∧ Below w1.heap.size w1 w' ∧ Below w.heap.size w w' := by
  refine (walkof_any T w1 N (hin.blw hb1 hN) (Nat.le_trans hN hb1.size)).mono fun e w' h => ?_
  exact ⟨_, _, _, _, h.1, h.2.1, by omega, h.2.2.1, hb1.trans (h.2.2.1.mono hb1.size)⟩
/-- the box of the value at hand, and the walk behind it: the head of the next round -/
theorem HeadAt.new {w wr : World} {B P g cap : Nat} {S : List Lev} {d : Int} {t : AT} (h : WalkAt wr B B P g cap S d) (hB : w.heap.size ≤ B) (hb : Below w.heap.size w wr) :
    HeadAt w (wr.alloc (.cells #[.int .i64 t.k, .int .i64 t.n, .int .i64 t.x, .string ⟨t.s.toArray⟩, .slice t.a t.l.length t.cap] 28)) B P g cap S d wr.heap.size t where
  walk := h.blw (vbox _ _)
  x := by refine ⟨?_, ?_, ?_, ?_, ?_⟩ <;> simp [go_sem]
  xP := by have := h.lt; omega
  xg := by have := h.lt; omega
  xB := hb.size
  bB := hB
  below := hb.alloc hb.size _
theorem HeadAt.step {w wr w' : World} {B P g cap g' cap' : Nat} {S S' : List Lev} {d d' : Int} {X : Nat} {t : AT} (h : HeadAt w wr B P g cap S d X t) (hw : WalkAt w' B B P g' cap' S' d') (hg : g' = g ∨ wr.heap.size ≤ g') (ho : Only2 P g wr w') (hb : Below w.heap.size w w') : HeadAt w w' B P g' cap' S' d' X t where
  walk := hw
  x := h.x.keep (ho.block X h.xlt h.xP h.xg)
  xP := h.xP
  xg := by have := h.xlt; have := h.xg; omega
  xB := h.xB
  bB := h.bB
  below := hb
set_option maxHeartbeats 4000000 in
theorem count_impl (T : AT) (w : World) (N : Nat) (hin : T.In w N) (hN : N ≤ w.heap.size) (hsz : T.pt.sz ≤ 1048576) :
    Calls Try.prog 46 #[T.val] w fun e w' => e = .returned (.int .i64 (T.pt.cnt : Nat)) ∧ Below w.heap.size w w' := by
  have hcb : T.pt.cnt ≤ 1048577 := by have := cnt_le_sz T.pt; omega
  have HWO := Lib.hid (walkof_head T w N hin hN)
  have hrem : ∀ b, remN [Lev.mk (some ⟨b, 0, none⟩) 1 [T]] = T.pt.cnt := fun b => by simp [remN, AT.ptL, PT.cntL]
  have HREM := Lib.hid hrem
  clear hin hrem hsz
  obtain ⟨C, hC⟩ : ∃ C, C = T.pt.cnt := ⟨_, rfl⟩
  rw [← hC] at hcb HREM ⊢
  clear hC
  obtain ⟨k, n, x, s, a, cap, l⟩ := T
  show Calls Try.prog 46 #[.agg #[.int .i64 k, .int .i64 n, .int .i64 x, .string ⟨s.toArray⟩, .slice a l.length cap]] w _
  go_enter Try.func46, Try.ntmps46
  go_wp2_with fail
  refine (HWO.out _ (vbox _ _)).mono ?_
  rintro e w1 ⟨P, g, b, B, rfl, hw1, hB, hb1, hbw⟩
  have hBw : w.heap.size ≤ B := by simp at hB; omega
  have HW1 := Lib.hid hw1
  have HBW := Lib.hid hbw
  clear hw1 hb1 hbw hB
  go_wp2_with fail
  refine (next_head HW1.out hBw HBW.out (by simp)).mono ?_
  rintro e w2 (⟨S1, E, L, t, tl, a', c', g', cap', hS, hE, hL, rfl, hw2, hg2, ho2, hb2⟩ | ⟨hS, -⟩)
  case inr => exact absurd (hS _ (List.mem_singleton.2 rfl)) (by simp)
  have hr2 : remN (S1 ++ [Lev.mk a' c' tl, Lev.mk t.a t.cap t.l]) + 1 = C := by
    rw [← HREM.out b, hS, ← remN_step S1 E L t tl a' c' hE hL]
  have hlen : (S1 ++ [Lev.mk a' c' tl, Lev.mk t.a t.cap t.l]).length ≤ 2 := by
    have h1 : 1 = S1.length + (E.length + 1) := by
      have := congrArg List.length hS
      rw [List.length_append, List.length_cons] at this
      exact this
    rw [List.length_append]
    show S1.length + 2 ≤ 2
    omega
  have HH := Lib.hid (HeadAt.new (t := t) hw2 hBw hb2)
  have HR2 := Lib.hid hr2
  have HLEN := Lib.hid hlen
  clear hS hE hL hw2 hg2 ho2 hb2 hr2 hlen HREM HWO
  go_wp2_with fail
  go_loopw [3, 5, 6] (fun c x more wr => ∃ (bo : Bool) (cn : Nat), c = .int .i64 cn ∧ more = .bool bo ∧ cn ≤ C ∧
    ((bo = true ∧ ∃ g cap S d X t, x = .pointer (some ⟨X, 0, none⟩) ∧ HeadAt w wr B P g cap S d X t ∧ remN S + 1 + cn = C ∧ S.length ≤ cn + 2) ∨ (bo = false ∧ cn = C ∧ Below w.heap.size w wr))) (fun c _ _ _ => C - (intOf c).toNat)
  case atStart => exact ⟨true, 0, rfl, rfl, Nat.zero_le _, .inl ⟨rfl, _, _, _, _, _, _, rfl, HH.out, by have := HR2.out; omega, HLEN.out⟩⟩
  case round =>
    obtain ⟨bo, cn, rfl, rfl, hcn, ⟨rfl, g, cap, S, d, X, t, rfl, hh, hr, hlen⟩ | ⟨rfl, hcC, hbf⟩⟩ := hrel
    · have HHH := Lib.hid hh
      have HR := Lib.hid hr
      have hlen2 : S.length ≤ 4194304 := by omega
      have HLE := Lib.hid hlen
      have hcn2 : cn < C := by omega
      obtain ⟨c0, c1, c2, c3, c4⟩ := hh.x
      have hhn := HeadAt.new (t := t) hh.walk hh.bB hh.below
      have HN := Lib.hid hhn
      clear hh hr hlen hhn
      go_wp2_with fail
      refine (next_head HN.out.walk hBw HN.out.below hlen2).mono ?_
      rintro e w3 (⟨S1, E, L, t', tl, a', c', g', cap', hS, hE, hL, rfl, hw2, hg2, ho2, hb2⟩ | ⟨hS, rfl, ho2, hb2⟩)
      · have hnew := HN.out.step hw2 hg2 ho2 hb2
        have hr2 : remN (S1 ++ [Lev.mk a' c' tl, Lev.mk t'.a t'.cap t'.l]) + 1 + (cn + 1) = C := by
          have := remN_step S1 E L t' tl a' c' hE hL
          rw [← hS] at this
          have := HR.out
          omega
        have hlen3 : (S1 ++ [Lev.mk a' c' tl, Lev.mk t'.a t'.cap t'.l]).length ≤ cn + 1 + 2 := by
          have h1 := congrArg List.length hS
          have h2 := HLE.out
          rw [List.length_append, List.length_cons] at h1
          rw [List.length_append]
          show S1.length + 2 ≤ cn + 1 + 2
          omega
        have HNEW := Lib.hid hnew
        have HR3 := Lib.hid hr2
        have HL3 := Lib.hid hlen3
        clear hS hE hL hw2 hg2 ho2 hb2 hnew hr2 hlen3
        go_wp2
        go_roundw
        case rel => exact ⟨true, cn + 1, by go_num, rfl, by omega, .inl ⟨rfl, _, _, _, _, _, _, rfl, HNEW.out, HR3.out, HL3.out⟩⟩
        case measure => simp [intOf]; omega
      · have hr2 : cn + 1 = C := by
          have := remN_empty S hS
          have := HR.out
          omega
        have HR3 := Lib.hid hr2
        have HB3 := Lib.hid hb2
        clear hS ho2 hb2 hr2
        go_wp2
        go_roundw
        case rel => exact ⟨false, cn + 1, by go_num, rfl, by omega, .inr ⟨rfl, HR3.out, HB3.out⟩⟩
        case measure => simp [intOf]; omega
    · have HBF := Lib.hid hbf
      have HCC := Lib.hid hcC
      clear hbf hcC
      go_wp2
      go_ret
      exact ⟨ret_int (by rw [HCC.out]), HBF.out⟩
end Go.Proofs.Ytdjnkcoepmackaa
