/- contentOk: whether a content is within the bounds of its kind. -/
import Derived.Test.YtmcmkkkbkfgakaaContent
import Derived.Test.YtmcmkkkbkfgakaaTextOk
import Derived.Test.YtmcmkkkbkfgakaaFltOk
import Derived.Test.YtmcmkkkbkfgakaaDecOk
namespace Go.Proofs.Ytmcmkkkbkfgakaa
open Go.RowKit
set_option maxHeartbeats 1000000 in
set_option maxRecDepth 100000 in
theorem cok_null (w : World) (n x : Int) (s : ByteArray) (a : Option Addr) (len cap : Nat) : Calls Try.prog 64 #[.iface 107 (.agg #[])] w fun e w' => e = .returned (.bool (true)) ∧ Below w.heap.size w w' := by
  have ta_null : ∀ W : World, (Instr.typeAssert (.iface 107 (.agg #[])) 77 107 true).run Try.prog W = .ok (.tuple #[(.agg #[]), .bool true]) W := fun W => by kernel_rfl
  have ta_bytes : ∀ W : World, (Instr.typeAssert (.iface 107 (.agg #[])) 77 111 true).run Try.prog W = .ok (.tuple #[(.string ⟨#[]⟩), .bool false]) W := fun W => by kernel_rfl
  have ta_list : ∀ W : World, (Instr.typeAssert (.iface 107 (.agg #[])) 77 92 true).run Try.prog W = .ok (.tuple #[(.slice none 0 0), .bool false]) W := fun W => by kernel_rfl
  go_enter Try.func64, Try.ntmps64
  go_wp2
  go_ret
  exact ⟨rfl, Below.refl _ _⟩
set_option maxHeartbeats 1000000 in
set_option maxRecDepth 100000 in
theorem cok_bytes (w : World) (n x : Int) (s : ByteArray) (a : Option Addr) (len cap : Nat) : Calls Try.prog 64 #[.iface 111 (.string s)] w fun e w' => e = .returned (.bool (true)) ∧ Below w.heap.size w w' := by
  have ta_null : ∀ W : World, (Instr.typeAssert (.iface 111 (.string s)) 77 107 true).run Try.prog W = .ok (.tuple #[(.agg #[]), .bool false]) W := fun W => by kernel_rfl
  have ta_bytes : ∀ W : World, (Instr.typeAssert (.iface 111 (.string s)) 77 111 true).run Try.prog W = .ok (.tuple #[(.string s), .bool true]) W := fun W => by kernel_rfl
  have ta_list : ∀ W : World, (Instr.typeAssert (.iface 111 (.string s)) 77 92 true).run Try.prog W = .ok (.tuple #[(.slice none 0 0), .bool false]) W := fun W => by kernel_rfl
  go_enter Try.func64, Try.ntmps64
  go_wp2
  go_ret
  exact ⟨rfl, Below.refl _ _⟩
set_option maxHeartbeats 1000000 in
set_option maxRecDepth 100000 in
theorem cok_list (w : World) (n x : Int) (s : ByteArray) (a : Option Addr) (len cap : Nat) : Calls Try.prog 64 #[.iface 92 (.slice a len cap)] w fun e w' => e = .returned (.bool (true)) ∧ Below w.heap.size w w' := by
  have ta_null : ∀ W : World, (Instr.typeAssert (.iface 92 (.slice a len cap)) 77 107 true).run Try.prog W = .ok (.tuple #[(.agg #[]), .bool false]) W := fun W => by kernel_rfl
  have ta_bytes : ∀ W : World, (Instr.typeAssert (.iface 92 (.slice a len cap)) 77 111 true).run Try.prog W = .ok (.tuple #[(.string ⟨#[]⟩), .bool false]) W := fun W => by kernel_rfl
  have ta_list : ∀ W : World, (Instr.typeAssert (.iface 92 (.slice a len cap)) 77 92 true).run Try.prog W = .ok (.tuple #[(.slice a len cap), .bool true]) W := fun W => by kernel_rfl
  go_enter Try.func64, Try.ntmps64
  go_wp2
  go_ret
  exact ⟨rfl, Below.refl _ _⟩
set_option maxHeartbeats 1000000 in
set_option maxRecDepth 100000 in
theorem cok_nil (w : World)  : Calls Try.prog 64 #[.nilIface] w fun e w' => e = .returned (.bool (false)) ∧ Below w.heap.size w w' := by
  have ta_null : ∀ W : World, (Instr.typeAssert .nilIface 77 107 true).run Try.prog W = .ok (.tuple #[(.agg #[]), .bool false]) W := fun W => by kernel_rfl
  have ta_bytes : ∀ W : World, (Instr.typeAssert .nilIface 77 111 true).run Try.prog W = .ok (.tuple #[(.string ⟨#[]⟩), .bool false]) W := fun W => by kernel_rfl
  have ta_list : ∀ W : World, (Instr.typeAssert .nilIface 77 92 true).run Try.prog W = .ok (.tuple #[(.slice none 0 0), .bool false]) W := fun W => by kernel_rfl
  have ta_bool : ∀ W : World, (Instr.typeAssert .nilIface 77 108 true).run Try.prog W = .ok (.tuple #[(.int .i64 0), .bool false]) W := fun W => by kernel_rfl
  have ta_int : ∀ W : World, (Instr.typeAssert .nilIface 77 90 true).run Try.prog W = .ok (.tuple #[(.int .i64 0), .bool false]) W := fun W => by kernel_rfl
  have ta_flt : ∀ W : World, (Instr.typeAssert .nilIface 77 109 true).run Try.prog W = .ok (.tuple #[(.agg #[.int .i64 0, .int .i64 0]), .bool false]) W := fun W => by kernel_rfl
  have ta_odd : ∀ W : World, (Instr.typeAssert .nilIface 77 110 true).run Try.prog W = .ok (.tuple #[(.int .i64 0), .bool false]) W := fun W => by kernel_rfl
  have ta_dec : ∀ W : World, (Instr.typeAssert .nilIface 77 94 true).run Try.prog W = .ok (.tuple #[(.agg #[.int .i64 0, .int .i64 0]), .bool false]) W := fun W => by kernel_rfl
  have ta_text : ∀ W : World, (Instr.typeAssert .nilIface 77 91 true).run Try.prog W = .ok (.tuple #[(.string ⟨#[]⟩), .bool false]) W := fun W => by kernel_rfl
  have ta_map : ∀ W : World, (Instr.typeAssert .nilIface 77 112 true).run Try.prog W = .ok (.tuple #[(.slice none 0 0), .bool false]) W := fun W => by kernel_rfl
  have ta_tag : ∀ W : World, (Instr.typeAssert .nilIface 77 114 true).run Try.prog W = .ok (.tuple #[(.agg #[.int .i64 0, .slice none 0 0]), .bool false]) W := fun W => by kernel_rfl
  go_enter Try.func64, Try.ntmps64
  go_wp2
  go_ret
  exact ⟨rfl, Below.refl _ _⟩
set_option maxHeartbeats 1000000 in
set_option maxRecDepth 100000 in
theorem cok_int (w : World) (n : Int) : Calls Try.prog 64 #[.iface 90 (.int .i64 n)] w fun e w' => e = .returned (.bool (decide (-1000000000000000 ≤ n ∧ n ≤ 1000000000000000))) ∧ Below w.heap.size w w' := by
  have ta_null : ∀ W : World, (Instr.typeAssert (.iface 90 (.int .i64 n)) 77 107 true).run Try.prog W = .ok (.tuple #[(.agg #[]), .bool false]) W := fun W => by kernel_rfl
  have ta_bytes : ∀ W : World, (Instr.typeAssert (.iface 90 (.int .i64 n)) 77 111 true).run Try.prog W = .ok (.tuple #[(.string ⟨#[]⟩), .bool false]) W := fun W => by kernel_rfl
  have ta_list : ∀ W : World, (Instr.typeAssert (.iface 90 (.int .i64 n)) 77 92 true).run Try.prog W = .ok (.tuple #[(.slice none 0 0), .bool false]) W := fun W => by kernel_rfl
  have ta_bool : ∀ W : World, (Instr.typeAssert (.iface 90 (.int .i64 n)) 77 108 true).run Try.prog W = .ok (.tuple #[(.int .i64 0), .bool false]) W := fun W => by kernel_rfl
  have ta_int : ∀ W : World, (Instr.typeAssert (.iface 90 (.int .i64 n)) 77 90 true).run Try.prog W = .ok (.tuple #[(.int .i64 n), .bool true]) W := fun W => by kernel_rfl
  by_cases h0 : -1000000000000000 ≤ n
  · by_cases h1 : n ≤ 1000000000000000
    · rw [decide_eq_true (And.intro h0 h1)]
      go_enter Try.func64, Try.ntmps64
      go_wp2
      go_ret
      exact ⟨rfl, Below.refl _ _⟩
    · rw [decide_eq_false (fun h => h1 h.2)]
      go_enter Try.func64, Try.ntmps64
      go_wp2
      go_ret
      exact ⟨rfl, Below.refl _ _⟩
  · rw [decide_eq_false (fun h => h0 h.1)]
    go_enter Try.func64, Try.ntmps64
    go_wp2
    go_ret
    exact ⟨rfl, Below.refl _ _⟩
set_option maxHeartbeats 1000000 in
set_option maxRecDepth 100000 in
theorem cok_odd (w : World) (n : Int) : Calls Try.prog 64 #[.iface 110 (.int .i64 n)] w fun e w' => e = .returned (.bool (decide (0 ≤ n ∧ n ≤ 2))) ∧ Below w.heap.size w w' := by
  have ta_null : ∀ W : World, (Instr.typeAssert (.iface 110 (.int .i64 n)) 77 107 true).run Try.prog W = .ok (.tuple #[(.agg #[]), .bool false]) W := fun W => by kernel_rfl
  have ta_bytes : ∀ W : World, (Instr.typeAssert (.iface 110 (.int .i64 n)) 77 111 true).run Try.prog W = .ok (.tuple #[(.string ⟨#[]⟩), .bool false]) W := fun W => by kernel_rfl
  have ta_list : ∀ W : World, (Instr.typeAssert (.iface 110 (.int .i64 n)) 77 92 true).run Try.prog W = .ok (.tuple #[(.slice none 0 0), .bool false]) W := fun W => by kernel_rfl
  have ta_bool : ∀ W : World, (Instr.typeAssert (.iface 110 (.int .i64 n)) 77 108 true).run Try.prog W = .ok (.tuple #[(.int .i64 0), .bool false]) W := fun W => by kernel_rfl
  have ta_int : ∀ W : World, (Instr.typeAssert (.iface 110 (.int .i64 n)) 77 90 true).run Try.prog W = .ok (.tuple #[(.int .i64 0), .bool false]) W := fun W => by kernel_rfl
  have ta_flt : ∀ W : World, (Instr.typeAssert (.iface 110 (.int .i64 n)) 77 109 true).run Try.prog W = .ok (.tuple #[(.agg #[.int .i64 0, .int .i64 0]), .bool false]) W := fun W => by kernel_rfl
  have ta_odd : ∀ W : World, (Instr.typeAssert (.iface 110 (.int .i64 n)) 77 110 true).run Try.prog W = .ok (.tuple #[(.int .i64 n), .bool true]) W := fun W => by kernel_rfl
  by_cases h0 : 0 ≤ n
  · by_cases h1 : n ≤ 2
    · rw [decide_eq_true (And.intro h0 h1)]
      go_enter Try.func64, Try.ntmps64
      go_wp2
      go_ret
      exact ⟨rfl, Below.refl _ _⟩
    · rw [decide_eq_false (fun h => h1 h.2)]
      go_enter Try.func64, Try.ntmps64
      go_wp2
      go_ret
      exact ⟨rfl, Below.refl _ _⟩
  · rw [decide_eq_false (fun h => h0 h.1)]
    go_enter Try.func64, Try.ntmps64
    go_wp2
    go_ret
    exact ⟨rfl, Below.refl _ _⟩
set_option maxHeartbeats 1000000 in
set_option maxRecDepth 100000 in
theorem cok_bool (w : World) (n : Int) : Calls Try.prog 64 #[.iface 108 (.int .i64 n)] w fun e w' => e = .returned (.bool (decide (0 ≤ n ∧ n ≤ 1))) ∧ Below w.heap.size w w' := by
  have ta_null : ∀ W : World, (Instr.typeAssert (.iface 108 (.int .i64 n)) 77 107 true).run Try.prog W = .ok (.tuple #[(.agg #[]), .bool false]) W := fun W => by kernel_rfl
  have ta_bytes : ∀ W : World, (Instr.typeAssert (.iface 108 (.int .i64 n)) 77 111 true).run Try.prog W = .ok (.tuple #[(.string ⟨#[]⟩), .bool false]) W := fun W => by kernel_rfl
  have ta_list : ∀ W : World, (Instr.typeAssert (.iface 108 (.int .i64 n)) 77 92 true).run Try.prog W = .ok (.tuple #[(.slice none 0 0), .bool false]) W := fun W => by kernel_rfl
  have ta_bool : ∀ W : World, (Instr.typeAssert (.iface 108 (.int .i64 n)) 77 108 true).run Try.prog W = .ok (.tuple #[(.int .i64 n), .bool true]) W := fun W => by kernel_rfl
  by_cases h0 : n = 0
  · subst h0
    rw [decide_eq_true (by decide)]
    go_enter Try.func64, Try.ntmps64
    go_wp2
    go_ret
    exact ⟨rfl, Below.refl _ _⟩
  · by_cases h1 : n = 1
    · subst h1
      rw [decide_eq_true (by decide)]
      go_enter Try.func64, Try.ntmps64
      go_wp2
      go_ret
      exact ⟨rfl, Below.refl _ _⟩
    · rw [decide_eq_false (by omega)]
      have g0 : (n == 0) = false := by simpa using h0
      have g1 : (n == 1) = false := by simpa using h1
      go_enter Try.func64, Try.ntmps64
      go_wp2
      go_ret
      exact ⟨rfl, Below.refl _ _⟩
set_option maxHeartbeats 1000000 in
set_option maxRecDepth 100000 in
theorem cok_flt (w : World) (n x : Int) (h0 : -9223372036854775808 ≤ n) (h1 : n ≤ 9223372036854775807) (k0 : -9223372036854775808 ≤ x) (k1 : x ≤ 9223372036854775807) : Calls Try.prog 64 #[.iface 109 (.agg #[.int .i64 n, .int .i64 x])] w fun e w' => e = .returned (.bool (fltOk n x)) ∧ Below w.heap.size w w' := by
  have ta_null : ∀ W : World, (Instr.typeAssert (.iface 109 (.agg #[.int .i64 n, .int .i64 x])) 77 107 true).run Try.prog W = .ok (.tuple #[(.agg #[]), .bool false]) W := fun W => by kernel_rfl
  have ta_bytes : ∀ W : World, (Instr.typeAssert (.iface 109 (.agg #[.int .i64 n, .int .i64 x])) 77 111 true).run Try.prog W = .ok (.tuple #[(.string ⟨#[]⟩), .bool false]) W := fun W => by kernel_rfl
  have ta_list : ∀ W : World, (Instr.typeAssert (.iface 109 (.agg #[.int .i64 n, .int .i64 x])) 77 92 true).run Try.prog W = .ok (.tuple #[(.slice none 0 0), .bool false]) W := fun W => by kernel_rfl
  have ta_bool : ∀ W : World, (Instr.typeAssert (.iface 109 (.agg #[.int .i64 n, .int .i64 x])) 77 108 true).run Try.prog W = .ok (.tuple #[(.int .i64 0), .bool false]) W := fun W => by kernel_rfl
  have ta_int : ∀ W : World, (Instr.typeAssert (.iface 109 (.agg #[.int .i64 n, .int .i64 x])) 77 90 true).run Try.prog W = .ok (.tuple #[(.int .i64 0), .bool false]) W := fun W => by kernel_rfl
  have ta_flt : ∀ W : World, (Instr.typeAssert (.iface 109 (.agg #[.int .i64 n, .int .i64 x])) 77 109 true).run Try.prog W = .ok (.tuple #[(.agg #[.int .i64 n, .int .i64 x]), .bool true]) W := fun W => by kernel_rfl
  have c := fun w1 => fltok_impl n x w1 h0 h1 k0 k1
  have C := Lib.hid c
  clear c
  go_enter Try.func64, Try.ntmps64
  go_wp2_with fail
  refine (C.out _).mono ?_
  rintro e w1 ⟨rfl, hb⟩
  have HB := Lib.hid ((vbox w _).trans (hb.mono (by simp)))
  clear hb
  go_wp2
  go_ret
  exact ⟨rfl, HB.out⟩
set_option maxHeartbeats 1000000 in
set_option maxRecDepth 100000 in
theorem cok_text (w : World) (l : List UInt8) (hl : l.length ≤ 1099511627776) : Calls Try.prog 64 #[.iface 91 (.string ⟨l.toArray⟩)] w fun e w' => e = .returned (.bool ((runes l).isSome)) ∧ Below w.heap.size w w' := by
  have ta_null : ∀ W : World, (Instr.typeAssert (.iface 91 (.string ⟨l.toArray⟩)) 77 107 true).run Try.prog W = .ok (.tuple #[(.agg #[]), .bool false]) W := fun W => by kernel_rfl
  have ta_bytes : ∀ W : World, (Instr.typeAssert (.iface 91 (.string ⟨l.toArray⟩)) 77 111 true).run Try.prog W = .ok (.tuple #[(.string ⟨#[]⟩), .bool false]) W := fun W => by kernel_rfl
  have ta_list : ∀ W : World, (Instr.typeAssert (.iface 91 (.string ⟨l.toArray⟩)) 77 92 true).run Try.prog W = .ok (.tuple #[(.slice none 0 0), .bool false]) W := fun W => by kernel_rfl
  have ta_bool : ∀ W : World, (Instr.typeAssert (.iface 91 (.string ⟨l.toArray⟩)) 77 108 true).run Try.prog W = .ok (.tuple #[(.int .i64 0), .bool false]) W := fun W => by kernel_rfl
  have ta_int : ∀ W : World, (Instr.typeAssert (.iface 91 (.string ⟨l.toArray⟩)) 77 90 true).run Try.prog W = .ok (.tuple #[(.int .i64 0), .bool false]) W := fun W => by kernel_rfl
  have ta_flt : ∀ W : World, (Instr.typeAssert (.iface 91 (.string ⟨l.toArray⟩)) 77 109 true).run Try.prog W = .ok (.tuple #[(.agg #[.int .i64 0, .int .i64 0]), .bool false]) W := fun W => by kernel_rfl
  have ta_odd : ∀ W : World, (Instr.typeAssert (.iface 91 (.string ⟨l.toArray⟩)) 77 110 true).run Try.prog W = .ok (.tuple #[(.int .i64 0), .bool false]) W := fun W => by kernel_rfl
  have ta_dec : ∀ W : World, (Instr.typeAssert (.iface 91 (.string ⟨l.toArray⟩)) 77 94 true).run Try.prog W = .ok (.tuple #[(.agg #[.int .i64 0, .int .i64 0]), .bool false]) W := fun W => by kernel_rfl
  have ta_text : ∀ W : World, (Instr.typeAssert (.iface 91 (.string ⟨l.toArray⟩)) 77 91 true).run Try.prog W = .ok (.tuple #[(.string ⟨l.toArray⟩), .bool true]) W := fun W => by kernel_rfl
  have c := fun w1 => textok_impl l w1 hl
  have C := Lib.hid c
  clear c
  go_enter Try.func64, Try.ntmps64
  go_wp2_with fail
  refine (C.out _).mono ?_
  rintro e w1 ⟨rfl, hb⟩
  have HB := Lib.hid hb
  clear hb
  go_wp2
  go_ret
  exact ⟨rfl, HB.out⟩
set_option maxHeartbeats 1000000 in
set_option maxRecDepth 100000 in
theorem cok_dec (w : World) (n x : Int) (h0 : -9223372036854775808 ≤ n) (h1 : n ≤ 9223372036854775807) : Calls Try.prog 64 #[.iface 94 (.agg #[.int .i64 n, .int .i64 x])] w fun e w' => e = .returned (.bool (decide (x < 0) && decOk n x)) ∧ Below w.heap.size w w' := by
  have ta_null : ∀ W : World, (Instr.typeAssert (.iface 94 (.agg #[.int .i64 n, .int .i64 x])) 77 107 true).run Try.prog W = .ok (.tuple #[(.agg #[]), .bool false]) W := fun W => by kernel_rfl
  have ta_bytes : ∀ W : World, (Instr.typeAssert (.iface 94 (.agg #[.int .i64 n, .int .i64 x])) 77 111 true).run Try.prog W = .ok (.tuple #[(.string ⟨#[]⟩), .bool false]) W := fun W => by kernel_rfl
  have ta_list : ∀ W : World, (Instr.typeAssert (.iface 94 (.agg #[.int .i64 n, .int .i64 x])) 77 92 true).run Try.prog W = .ok (.tuple #[(.slice none 0 0), .bool false]) W := fun W => by kernel_rfl
  have ta_bool : ∀ W : World, (Instr.typeAssert (.iface 94 (.agg #[.int .i64 n, .int .i64 x])) 77 108 true).run Try.prog W = .ok (.tuple #[(.int .i64 0), .bool false]) W := fun W => by kernel_rfl
  have ta_int : ∀ W : World, (Instr.typeAssert (.iface 94 (.agg #[.int .i64 n, .int .i64 x])) 77 90 true).run Try.prog W = .ok (.tuple #[(.int .i64 0), .bool false]) W := fun W => by kernel_rfl
  have ta_flt : ∀ W : World, (Instr.typeAssert (.iface 94 (.agg #[.int .i64 n, .int .i64 x])) 77 109 true).run Try.prog W = .ok (.tuple #[(.agg #[.int .i64 0, .int .i64 0]), .bool false]) W := fun W => by kernel_rfl
  have ta_odd : ∀ W : World, (Instr.typeAssert (.iface 94 (.agg #[.int .i64 n, .int .i64 x])) 77 110 true).run Try.prog W = .ok (.tuple #[(.int .i64 0), .bool false]) W := fun W => by kernel_rfl
  have ta_dec : ∀ W : World, (Instr.typeAssert (.iface 94 (.agg #[.int .i64 n, .int .i64 x])) 77 94 true).run Try.prog W = .ok (.tuple #[(.agg #[.int .i64 n, .int .i64 x]), .bool true]) W := fun W => by kernel_rfl
  have c := fun w1 => decok_impl n x w1 h0 h1
  have C := Lib.hid c
  clear c
  by_cases hx : x < 0
  · rw [decide_eq_true hx, Bool.true_and]
    go_enter Try.func64, Try.ntmps64
    go_wp2_with fail
    refine (C.out _).mono ?_
    rintro e w1 ⟨rfl, hb⟩
    have HB := Lib.hid ((vbox w _).trans (hb.mono (by simp)))
    clear hb
    go_wp2
    go_ret
    exact ⟨rfl, HB.out⟩
  · rw [decide_eq_false hx, Bool.false_and]
    go_enter Try.func64, Try.ntmps64
    go_wp2
    go_ret
    exact ⟨rfl, vbox _ _⟩
set_option maxHeartbeats 1000000 in
set_option maxRecDepth 100000 in
theorem cok_map (w : World) (a : Option Addr) (len cap : Nat) (hl : len ≤ 9223372036854775807) : Calls Try.prog 64 #[.iface 112 (.slice a len cap)] w fun e w' => e = .returned (.bool (decide (len % 2 = 0))) ∧ Below w.heap.size w w' := by
  have ta_null : ∀ W : World, (Instr.typeAssert (.iface 112 (.slice a len cap)) 77 107 true).run Try.prog W = .ok (.tuple #[(.agg #[]), .bool false]) W := fun W => by kernel_rfl
  have ta_bytes : ∀ W : World, (Instr.typeAssert (.iface 112 (.slice a len cap)) 77 111 true).run Try.prog W = .ok (.tuple #[(.string ⟨#[]⟩), .bool false]) W := fun W => by kernel_rfl
  have ta_list : ∀ W : World, (Instr.typeAssert (.iface 112 (.slice a len cap)) 77 92 true).run Try.prog W = .ok (.tuple #[(.slice none 0 0), .bool false]) W := fun W => by kernel_rfl
  have ta_bool : ∀ W : World, (Instr.typeAssert (.iface 112 (.slice a len cap)) 77 108 true).run Try.prog W = .ok (.tuple #[(.int .i64 0), .bool false]) W := fun W => by kernel_rfl
  have ta_int : ∀ W : World, (Instr.typeAssert (.iface 112 (.slice a len cap)) 77 90 true).run Try.prog W = .ok (.tuple #[(.int .i64 0), .bool false]) W := fun W => by kernel_rfl
  have ta_flt : ∀ W : World, (Instr.typeAssert (.iface 112 (.slice a len cap)) 77 109 true).run Try.prog W = .ok (.tuple #[(.agg #[.int .i64 0, .int .i64 0]), .bool false]) W := fun W => by kernel_rfl
  have ta_odd : ∀ W : World, (Instr.typeAssert (.iface 112 (.slice a len cap)) 77 110 true).run Try.prog W = .ok (.tuple #[(.int .i64 0), .bool false]) W := fun W => by kernel_rfl
  have ta_dec : ∀ W : World, (Instr.typeAssert (.iface 112 (.slice a len cap)) 77 94 true).run Try.prog W = .ok (.tuple #[(.agg #[.int .i64 0, .int .i64 0]), .bool false]) W := fun W => by kernel_rfl
  have ta_text : ∀ W : World, (Instr.typeAssert (.iface 112 (.slice a len cap)) 77 91 true).run Try.prog W = .ok (.tuple #[(.string ⟨#[]⟩), .bool false]) W := fun W => by kernel_rfl
  have ta_map : ∀ W : World, (Instr.typeAssert (.iface 112 (.slice a len cap)) 77 112 true).run Try.prog W = .ok (.tuple #[(.slice a len cap), .bool true]) W := fun W => by kernel_rfl
  have e1 : ((len : Int)).tmod 2 = ((len % 2 : Nat) : Int) := by rw [Int.tmod_eq_emod_of_nonneg (by omega)]; omega
  by_cases h : len % 2 = 0
  · rw [decide_eq_true h]
    have e2 : ((len : Int)).tmod 2 = 0 := by omega
    have e3 : ((len : Int)) % 2 = 0 := by omega
    clear e1 h
    go_enter Try.func64, Try.ntmps64
    go_wp2
    go_ret
    exact ⟨rfl, Below.refl _ _⟩
  · rw [decide_eq_false h]
    have e2 : ((len : Int)).tmod 2 = 1 := by omega
    have e3 : ((len : Int)) % 2 = 1 := by omega
    clear e1 h
    go_enter Try.func64, Try.ntmps64
    go_wp2
    go_ret
    exact ⟨rfl, Below.refl _ _⟩
set_option maxHeartbeats 1000000 in
set_option maxRecDepth 100000 in
theorem cok_tag (w : World) (n : Int) (a : Option Addr) (len cap : Nat) : Calls Try.prog 64 #[.iface 114 (.agg #[.int .i64 n, .slice a len cap])] w fun e w' => e = .returned (.bool (decide (0 ≤ n ∧ n ≤ 1000000000000000) && decide (len = 1))) ∧ Below w.heap.size w w' := by
  have ta_null : ∀ W : World, (Instr.typeAssert (.iface 114 (.agg #[.int .i64 n, .slice a len cap])) 77 107 true).run Try.prog W = .ok (.tuple #[(.agg #[]), .bool false]) W := fun W => by kernel_rfl
  have ta_bytes : ∀ W : World, (Instr.typeAssert (.iface 114 (.agg #[.int .i64 n, .slice a len cap])) 77 111 true).run Try.prog W = .ok (.tuple #[(.string ⟨#[]⟩), .bool false]) W := fun W => by kernel_rfl
  have ta_list : ∀ W : World, (Instr.typeAssert (.iface 114 (.agg #[.int .i64 n, .slice a len cap])) 77 92 true).run Try.prog W = .ok (.tuple #[(.slice none 0 0), .bool false]) W := fun W => by kernel_rfl
  have ta_bool : ∀ W : World, (Instr.typeAssert (.iface 114 (.agg #[.int .i64 n, .slice a len cap])) 77 108 true).run Try.prog W = .ok (.tuple #[(.int .i64 0), .bool false]) W := fun W => by kernel_rfl
  have ta_int : ∀ W : World, (Instr.typeAssert (.iface 114 (.agg #[.int .i64 n, .slice a len cap])) 77 90 true).run Try.prog W = .ok (.tuple #[(.int .i64 0), .bool false]) W := fun W => by kernel_rfl
  have ta_flt : ∀ W : World, (Instr.typeAssert (.iface 114 (.agg #[.int .i64 n, .slice a len cap])) 77 109 true).run Try.prog W = .ok (.tuple #[(.agg #[.int .i64 0, .int .i64 0]), .bool false]) W := fun W => by kernel_rfl
  have ta_odd : ∀ W : World, (Instr.typeAssert (.iface 114 (.agg #[.int .i64 n, .slice a len cap])) 77 110 true).run Try.prog W = .ok (.tuple #[(.int .i64 0), .bool false]) W := fun W => by kernel_rfl
  have ta_dec : ∀ W : World, (Instr.typeAssert (.iface 114 (.agg #[.int .i64 n, .slice a len cap])) 77 94 true).run Try.prog W = .ok (.tuple #[(.agg #[.int .i64 0, .int .i64 0]), .bool false]) W := fun W => by kernel_rfl
  have ta_text : ∀ W : World, (Instr.typeAssert (.iface 114 (.agg #[.int .i64 n, .slice a len cap])) 77 91 true).run Try.prog W = .ok (.tuple #[(.string ⟨#[]⟩), .bool false]) W := fun W => by kernel_rfl
  have ta_map : ∀ W : World, (Instr.typeAssert (.iface 114 (.agg #[.int .i64 n, .slice a len cap])) 77 112 true).run Try.prog W = .ok (.tuple #[(.slice none 0 0), .bool false]) W := fun W => by kernel_rfl
  have ta_tag : ∀ W : World, (Instr.typeAssert (.iface 114 (.agg #[.int .i64 n, .slice a len cap])) 77 114 true).run Try.prog W = .ok (.tuple #[(.agg #[.int .i64 n, .slice a len cap]), .bool true]) W := fun W => by kernel_rfl
  by_cases h0 : 0 ≤ n
  · by_cases h1 : n ≤ 1000000000000000
    · by_cases h2 : len = 1
      · subst h2
        rw [decide_eq_true (And.intro h0 h1)]
        go_enter Try.func64, Try.ntmps64
        go_wp2
        go_ret
        exact ⟨rfl, vbox _ _⟩
      · have h3 : ((len : Int) == 1) = false := by rw [beq_eq_false_iff_ne]; omega
        rw [decide_eq_false h2, Bool.and_false]
        clear h2
        go_enter Try.func64, Try.ntmps64
        go_wp2
        go_ret
        exact ⟨rfl, vbox _ _⟩
    · rw [decide_eq_false (fun h => h1 h.2), Bool.false_and]
      go_enter Try.func64, Try.ntmps64
      go_wp2
      go_ret
      exact ⟨rfl, vbox _ _⟩
  · rw [decide_eq_false (fun h => h0 h.1), Bool.false_and]
    go_enter Try.func64, Try.ntmps64
    go_wp2
    go_ret
    exact ⟨rfl, vbox _ _⟩
end Go.Proofs.Ytmcmkkkbkfgakaa
