import Derived.Test.YtnikcgmbkmbloaaG16
import Derived.Test.YtnikcgmbkmbloaaG17
import Derived.Test.YtnikcgmbkmbloaaG8
import Derived.Test.YtnikcgmbkmbloaaG2
import Derived.Test.YtnikcgmbkmbloaaG6
import Derived.Deep.RegionHeld3
/- contentOk: whether a content is within the bounds of its kind. -/
namespace Go.Proofs.Ytnikcgmbkmbloaa
open Go.RowKit
set_option maxHeartbeats 1000000 in
set_option maxRecDepth 100000 in
theorem cok_null (w : World) (n x : Int) (s : ByteArray) (a : Option Addr) (len cap : Nat) : Calls Try.prog 114 #[.iface 179 (.agg #[])] w fun e w' => e = .returned (.bool (true)) ∧ Below w.heap.size w w' := by
  have ta_null : ∀ W : World, (Instr.typeAssert (.iface 179 (.agg #[])) 143 179 true).run Try.prog W = .ok (.tuple #[(.agg #[]), .bool true]) W := fun W => by kernel_rfl
  have ta_bytes : ∀ W : World, (Instr.typeAssert (.iface 179 (.agg #[])) 143 186 true).run Try.prog W = .ok (.tuple #[(.string ⟨#[]⟩), .bool false]) W := fun W => by kernel_rfl
  have ta_list : ∀ W : World, (Instr.typeAssert (.iface 179 (.agg #[])) 143 114 true).run Try.prog W = .ok (.tuple #[(.slice none 0 0), .bool false]) W := fun W => by kernel_rfl
  go_enter Try.func114, Try.ntmps114
  go_wp2
  go_ret
  exact ⟨rfl, Below.refl _ _⟩
set_option maxHeartbeats 1000000 in
set_option maxRecDepth 100000 in
theorem cok_bytes (w : World) (n x : Int) (s : ByteArray) (a : Option Addr) (len cap : Nat) : Calls Try.prog 114 #[.iface 186 (.string s)] w fun e w' => e = .returned (.bool (true)) ∧ Below w.heap.size w w' := by
  have ta_null : ∀ W : World, (Instr.typeAssert (.iface 186 (.string s)) 143 179 true).run Try.prog W = .ok (.tuple #[(.agg #[]), .bool false]) W := fun W => by kernel_rfl
  have ta_bytes : ∀ W : World, (Instr.typeAssert (.iface 186 (.string s)) 143 186 true).run Try.prog W = .ok (.tuple #[(.string s), .bool true]) W := fun W => by kernel_rfl
  have ta_list : ∀ W : World, (Instr.typeAssert (.iface 186 (.string s)) 143 114 true).run Try.prog W = .ok (.tuple #[(.slice none 0 0), .bool false]) W := fun W => by kernel_rfl
  go_enter Try.func114, Try.ntmps114
  go_wp2
  go_ret
  exact ⟨rfl, Below.refl _ _⟩
set_option maxHeartbeats 1000000 in
set_option maxRecDepth 100000 in
theorem cok_list (w : World) (n x : Int) (s : ByteArray) (a : Option Addr) (len cap : Nat) : Calls Try.prog 114 #[.iface 114 (.slice a len cap)] w fun e w' => e = .returned (.bool (true)) ∧ Below w.heap.size w w' := by
  have ta_null : ∀ W : World, (Instr.typeAssert (.iface 114 (.slice a len cap)) 143 179 true).run Try.prog W = .ok (.tuple #[(.agg #[]), .bool false]) W := fun W => by kernel_rfl
  have ta_bytes : ∀ W : World, (Instr.typeAssert (.iface 114 (.slice a len cap)) 143 186 true).run Try.prog W = .ok (.tuple #[(.string ⟨#[]⟩), .bool false]) W := fun W => by kernel_rfl
  have ta_list : ∀ W : World, (Instr.typeAssert (.iface 114 (.slice a len cap)) 143 114 true).run Try.prog W = .ok (.tuple #[(.slice a len cap), .bool true]) W := fun W => by kernel_rfl
  go_enter Try.func114, Try.ntmps114
  go_wp2
  go_ret
  exact ⟨rfl, Below.refl _ _⟩
set_option maxHeartbeats 1000000 in
set_option maxRecDepth 100000 in
theorem cok_nil (w : World)  : Calls Try.prog 114 #[.nilIface] w fun e w' => e = .returned (.bool (false)) ∧ Below w.heap.size w w' := by
  have ta_null : ∀ W : World, (Instr.typeAssert .nilIface 143 179 true).run Try.prog W = .ok (.tuple #[(.agg #[]), .bool false]) W := fun W => by kernel_rfl
  have ta_bytes : ∀ W : World, (Instr.typeAssert .nilIface 143 186 true).run Try.prog W = .ok (.tuple #[(.string ⟨#[]⟩), .bool false]) W := fun W => by kernel_rfl
  have ta_list : ∀ W : World, (Instr.typeAssert .nilIface 143 114 true).run Try.prog W = .ok (.tuple #[(.slice none 0 0), .bool false]) W := fun W => by kernel_rfl
  have ta_bool : ∀ W : World, (Instr.typeAssert .nilIface 143 180 true).run Try.prog W = .ok (.tuple #[(.int .i64 0), .bool false]) W := fun W => by kernel_rfl
  have ta_int : ∀ W : World, (Instr.typeAssert .nilIface 143 181 true).run Try.prog W = .ok (.tuple #[(.int .i64 0), .bool false]) W := fun W => by kernel_rfl
  have ta_flt : ∀ W : World, (Instr.typeAssert .nilIface 143 182 true).run Try.prog W = .ok (.tuple #[(.agg #[.int .i64 0, .int .i64 0]), .bool false]) W := fun W => by kernel_rfl
  have ta_odd : ∀ W : World, (Instr.typeAssert .nilIface 143 183 true).run Try.prog W = .ok (.tuple #[(.int .i64 0), .bool false]) W := fun W => by kernel_rfl
  have ta_dec : ∀ W : World, (Instr.typeAssert .nilIface 143 184 true).run Try.prog W = .ok (.tuple #[(.agg #[.int .i64 0, .int .i64 0]), .bool false]) W := fun W => by kernel_rfl
  have ta_text : ∀ W : World, (Instr.typeAssert .nilIface 143 185 true).run Try.prog W = .ok (.tuple #[(.string ⟨#[]⟩), .bool false]) W := fun W => by kernel_rfl
  have ta_map : ∀ W : World, (Instr.typeAssert .nilIface 143 187 true).run Try.prog W = .ok (.tuple #[(.slice none 0 0), .bool false]) W := fun W => by kernel_rfl
  have ta_tag : ∀ W : World, (Instr.typeAssert .nilIface 143 189 true).run Try.prog W = .ok (.tuple #[(.agg #[.int .i64 0, .slice none 0 0]), .bool false]) W := fun W => by kernel_rfl
  go_enter Try.func114, Try.ntmps114
  go_wp2
  go_ret
  exact ⟨rfl, Below.refl _ _⟩
set_option maxHeartbeats 1000000 in
set_option maxRecDepth 100000 in
theorem cok_int (w : World) (n : Int) : Calls Try.prog 114 #[.iface 181 (.int .i64 n)] w fun e w' => e = .returned (.bool (decide (-1000000000000000 ≤ n ∧ n ≤ 1000000000000000))) ∧ Below w.heap.size w w' := by
  have ta_null : ∀ W : World, (Instr.typeAssert (.iface 181 (.int .i64 n)) 143 179 true).run Try.prog W = .ok (.tuple #[(.agg #[]), .bool false]) W := fun W => by kernel_rfl
  have ta_bytes : ∀ W : World, (Instr.typeAssert (.iface 181 (.int .i64 n)) 143 186 true).run Try.prog W = .ok (.tuple #[(.string ⟨#[]⟩), .bool false]) W := fun W => by kernel_rfl
  have ta_list : ∀ W : World, (Instr.typeAssert (.iface 181 (.int .i64 n)) 143 114 true).run Try.prog W = .ok (.tuple #[(.slice none 0 0), .bool false]) W := fun W => by kernel_rfl
  have ta_bool : ∀ W : World, (Instr.typeAssert (.iface 181 (.int .i64 n)) 143 180 true).run Try.prog W = .ok (.tuple #[(.int .i64 0), .bool false]) W := fun W => by kernel_rfl
  have ta_int : ∀ W : World, (Instr.typeAssert (.iface 181 (.int .i64 n)) 143 181 true).run Try.prog W = .ok (.tuple #[(.int .i64 n), .bool true]) W := fun W => by kernel_rfl
  by_cases h0 : -1000000000000000 ≤ n
  · by_cases h1 : n ≤ 1000000000000000
    · rw [decide_eq_true (And.intro h0 h1)]
      go_enter Try.func114, Try.ntmps114
      go_wp2
      go_ret
      exact ⟨rfl, Below.refl _ _⟩
    · rw [decide_eq_false (fun h => h1 h.2)]
      go_enter Try.func114, Try.ntmps114
      go_wp2
      go_ret
      exact ⟨rfl, Below.refl _ _⟩
  · rw [decide_eq_false (fun h => h0 h.1)]
    go_enter Try.func114, Try.ntmps114
    go_wp2
    go_ret
    exact ⟨rfl, Below.refl _ _⟩
set_option maxHeartbeats 1000000 in
set_option maxRecDepth 100000 in
theorem cok_odd (w : World) (n : Int) : Calls Try.prog 114 #[.iface 183 (.int .i64 n)] w fun e w' => e = .returned (.bool (decide (0 ≤ n ∧ n ≤ 2))) ∧ Below w.heap.size w w' := by
  have ta_null : ∀ W : World, (Instr.typeAssert (.iface 183 (.int .i64 n)) 143 179 true).run Try.prog W = .ok (.tuple #[(.agg #[]), .bool false]) W := fun W => by kernel_rfl
  have ta_bytes : ∀ W : World, (Instr.typeAssert (.iface 183 (.int .i64 n)) 143 186 true).run Try.prog W = .ok (.tuple #[(.string ⟨#[]⟩), .bool false]) W := fun W => by kernel_rfl
  have ta_list : ∀ W : World, (Instr.typeAssert (.iface 183 (.int .i64 n)) 143 114 true).run Try.prog W = .ok (.tuple #[(.slice none 0 0), .bool false]) W := fun W => by kernel_rfl
  have ta_bool : ∀ W : World, (Instr.typeAssert (.iface 183 (.int .i64 n)) 143 180 true).run Try.prog W = .ok (.tuple #[(.int .i64 0), .bool false]) W := fun W => by kernel_rfl
  have ta_int : ∀ W : World, (Instr.typeAssert (.iface 183 (.int .i64 n)) 143 181 true).run Try.prog W = .ok (.tuple #[(.int .i64 0), .bool false]) W := fun W => by kernel_rfl
  have ta_flt : ∀ W : World, (Instr.typeAssert (.iface 183 (.int .i64 n)) 143 182 true).run Try.prog W = .ok (.tuple #[(.agg #[.int .i64 0, .int .i64 0]), .bool false]) W := fun W => by kernel_rfl
  have ta_odd : ∀ W : World, (Instr.typeAssert (.iface 183 (.int .i64 n)) 143 183 true).run Try.prog W = .ok (.tuple #[(.int .i64 n), .bool true]) W := fun W => by kernel_rfl
  by_cases h0 : 0 ≤ n
  · by_cases h1 : n ≤ 2
    · rw [decide_eq_true (And.intro h0 h1)]
      go_enter Try.func114, Try.ntmps114
      go_wp2
      go_ret
      exact ⟨rfl, Below.refl _ _⟩
    · rw [decide_eq_false (fun h => h1 h.2)]
      go_enter Try.func114, Try.ntmps114
      go_wp2
      go_ret
      exact ⟨rfl, Below.refl _ _⟩
  · rw [decide_eq_false (fun h => h0 h.1)]
    go_enter Try.func114, Try.ntmps114
    go_wp2
    go_ret
    exact ⟨rfl, Below.refl _ _⟩
set_option maxHeartbeats 1000000 in
set_option maxRecDepth 100000 in
theorem cok_bool (w : World) (n : Int) : Calls Try.prog 114 #[.iface 180 (.int .i64 n)] w fun e w' => e = .returned (.bool (decide (0 ≤ n ∧ n ≤ 1))) ∧ Below w.heap.size w w' := by
  have ta_null : ∀ W : World, (Instr.typeAssert (.iface 180 (.int .i64 n)) 143 179 true).run Try.prog W = .ok (.tuple #[(.agg #[]), .bool false]) W := fun W => by kernel_rfl
  have ta_bytes : ∀ W : World, (Instr.typeAssert (.iface 180 (.int .i64 n)) 143 186 true).run Try.prog W = .ok (.tuple #[(.string ⟨#[]⟩), .bool false]) W := fun W => by kernel_rfl
  have ta_list : ∀ W : World, (Instr.typeAssert (.iface 180 (.int .i64 n)) 143 114 true).run Try.prog W = .ok (.tuple #[(.slice none 0 0), .bool false]) W := fun W => by kernel_rfl
  have ta_bool : ∀ W : World, (Instr.typeAssert (.iface 180 (.int .i64 n)) 143 180 true).run Try.prog W = .ok (.tuple #[(.int .i64 n), .bool true]) W := fun W => by kernel_rfl
  by_cases h0 : n = 0
  · subst h0
    rw [decide_eq_true (by decide)]
    go_enter Try.func114, Try.ntmps114
    go_wp2
    go_ret
    exact ⟨rfl, Below.refl _ _⟩
  · by_cases h1 : n = 1
    · subst h1
      rw [decide_eq_true (by decide)]
      go_enter Try.func114, Try.ntmps114
      go_wp2
      go_ret
      exact ⟨rfl, Below.refl _ _⟩
    · rw [decide_eq_false (by omega)]
      have g0 : (n == 0) = false := by simpa using h0
      have g1 : (n == 1) = false := by simpa using h1
      go_enter Try.func114, Try.ntmps114
      go_wp2
      go_ret
      exact ⟨rfl, Below.refl _ _⟩
set_option maxHeartbeats 1000000 in
set_option maxRecDepth 100000 in
theorem cok_flt (w : World) (n x : Int) (h0 : -9223372036854775808 ≤ n) (h1 : n ≤ 9223372036854775807) (k0 : -9223372036854775808 ≤ x) (k1 : x ≤ 9223372036854775807) : Calls Try.prog 114 #[.iface 182 (.agg #[.int .i64 n, .int .i64 x])] w fun e w' => e = .returned (.bool (fltOk n x)) ∧ Below w.heap.size w w' := by
  have ta_null : ∀ W : World, (Instr.typeAssert (.iface 182 (.agg #[.int .i64 n, .int .i64 x])) 143 179 true).run Try.prog W = .ok (.tuple #[(.agg #[]), .bool false]) W := fun W => by kernel_rfl
  have ta_bytes : ∀ W : World, (Instr.typeAssert (.iface 182 (.agg #[.int .i64 n, .int .i64 x])) 143 186 true).run Try.prog W = .ok (.tuple #[(.string ⟨#[]⟩), .bool false]) W := fun W => by kernel_rfl
  have ta_list : ∀ W : World, (Instr.typeAssert (.iface 182 (.agg #[.int .i64 n, .int .i64 x])) 143 114 true).run Try.prog W = .ok (.tuple #[(.slice none 0 0), .bool false]) W := fun W => by kernel_rfl
  have ta_bool : ∀ W : World, (Instr.typeAssert (.iface 182 (.agg #[.int .i64 n, .int .i64 x])) 143 180 true).run Try.prog W = .ok (.tuple #[(.int .i64 0), .bool false]) W := fun W => by kernel_rfl
  have ta_int : ∀ W : World, (Instr.typeAssert (.iface 182 (.agg #[.int .i64 n, .int .i64 x])) 143 181 true).run Try.prog W = .ok (.tuple #[(.int .i64 0), .bool false]) W := fun W => by kernel_rfl
  have ta_flt : ∀ W : World, (Instr.typeAssert (.iface 182 (.agg #[.int .i64 n, .int .i64 x])) 143 182 true).run Try.prog W = .ok (.tuple #[(.agg #[.int .i64 n, .int .i64 x]), .bool true]) W := fun W => by kernel_rfl
  have c := fun w1 => fltok_impl n x w1 h0 h1 k0 k1
  have C := Lib.hid c
  clear c
  go_enter Try.func114, Try.ntmps114
  go_wp2_with fail
  refine (C.out _).mono ?_
  rintro e w1 ⟨rfl, hb⟩
  have HB := Lib.hid ((vbox w _).trans (hb.mono (by simp)))
  clear hb
  go_wp2
  go_ret
  exact ⟨rfl, HB.out⟩
set_option maxHeartbeats 1000000 in
set_option maxRecDepth 100000 in
theorem cok_text (w : World) (l : List UInt8) (hl : l.length ≤ 1099511627776) : Calls Try.prog 114 #[.iface 185 (.string ⟨l.toArray⟩)] w fun e w' => e = .returned (.bool ((runes l).isSome)) ∧ Below w.heap.size w w' := by
  have ta_null : ∀ W : World, (Instr.typeAssert (.iface 185 (.string ⟨l.toArray⟩)) 143 179 true).run Try.prog W = .ok (.tuple #[(.agg #[]), .bool false]) W := fun W => by kernel_rfl
  have ta_bytes : ∀ W : World, (Instr.typeAssert (.iface 185 (.string ⟨l.toArray⟩)) 143 186 true).run Try.prog W = .ok (.tuple #[(.string ⟨#[]⟩), .bool false]) W := fun W => by kernel_rfl
  have ta_list : ∀ W : World, (Instr.typeAssert (.iface 185 (.string ⟨l.toArray⟩)) 143 114 true).run Try.prog W = .ok (.tuple #[(.slice none 0 0), .bool false]) W := fun W => by kernel_rfl
  have ta_bool : ∀ W : World, (Instr.typeAssert (.iface 185 (.string ⟨l.toArray⟩)) 143 180 true).run Try.prog W = .ok (.tuple #[(.int .i64 0), .bool false]) W := fun W => by kernel_rfl
  have ta_int : ∀ W : World, (Instr.typeAssert (.iface 185 (.string ⟨l.toArray⟩)) 143 181 true).run Try.prog W = .ok (.tuple #[(.int .i64 0), .bool false]) W := fun W => by kernel_rfl
  have ta_flt : ∀ W : World, (Instr.typeAssert (.iface 185 (.string ⟨l.toArray⟩)) 143 182 true).run Try.prog W = .ok (.tuple #[(.agg #[.int .i64 0, .int .i64 0]), .bool false]) W := fun W => by kernel_rfl
  have ta_odd : ∀ W : World, (Instr.typeAssert (.iface 185 (.string ⟨l.toArray⟩)) 143 183 true).run Try.prog W = .ok (.tuple #[(.int .i64 0), .bool false]) W := fun W => by kernel_rfl
  have ta_dec : ∀ W : World, (Instr.typeAssert (.iface 185 (.string ⟨l.toArray⟩)) 143 184 true).run Try.prog W = .ok (.tuple #[(.agg #[.int .i64 0, .int .i64 0]), .bool false]) W := fun W => by kernel_rfl
  have ta_text : ∀ W : World, (Instr.typeAssert (.iface 185 (.string ⟨l.toArray⟩)) 143 185 true).run Try.prog W = .ok (.tuple #[(.string ⟨l.toArray⟩), .bool true]) W := fun W => by kernel_rfl
  have c := fun w1 => textok_impl l w1 hl
  have C := Lib.hid c
  clear c
  go_enter Try.func114, Try.ntmps114
  go_wp2_with fail
  refine (C.out _).mono ?_
  rintro e w1 ⟨rfl, hb⟩
  have HB := Lib.hid hb
  clear hb
  go_wp2
  go_ret
  exact ⟨rfl, HB.out⟩
set_option maxHeartbeats 1000000 in
set_option maxRecDepth 100000 in
theorem cok_dec (w : World) (n x : Int) (h0 : -9223372036854775808 ≤ n) (h1 : n ≤ 9223372036854775807) : Calls Try.prog 114 #[.iface 184 (.agg #[.int .i64 n, .int .i64 x])] w fun e w' => e = .returned (.bool (decide (x < 0) && decOk n x)) ∧ Below w.heap.size w w' := by
  have ta_null : ∀ W : World, (Instr.typeAssert (.iface 184 (.agg #[.int .i64 n, .int .i64 x])) 143 179 true).run Try.prog W = .ok (.tuple #[(.agg #[]), .bool false]) W := fun W => by kernel_rfl
  have ta_bytes : ∀ W : World, (Instr.typeAssert (.iface 184 (.agg #[.int .i64 n, .int .i64 x])) 143 186 true).run Try.prog W = .ok (.tuple #[(.string ⟨#[]⟩), .bool false]) W := fun W => by kernel_rfl
  have ta_list : ∀ W : World, (Instr.typeAssert (.iface 184 (.agg #[.int .i64 n, .int .i64 x])) 143 114 true).run Try.prog W = .ok (.tuple #[(.slice none 0 0), .bool false]) W := fun W => by kernel_rfl
  have ta_bool : ∀ W : World, (Instr.typeAssert (.iface 184 (.agg #[.int .i64 n, .int .i64 x])) 143 180 true).run Try.prog W = .ok (.tuple #[(.int .i64 0), .bool false]) W := fun W => by kernel_rfl
  have ta_int : ∀ W : World, (Instr.typeAssert (.iface 184 (.agg #[.int .i64 n, .int .i64 x])) 143 181 true).run Try.prog W = .ok (.tuple #[(.int .i64 0), .bool false]) W := fun W => by kernel_rfl
  have ta_flt : ∀ W : World, (Instr.typeAssert (.iface 184 (.agg #[.int .i64 n, .int .i64 x])) 143 182 true).run Try.prog W = .ok (.tuple #[(.agg #[.int .i64 0, .int .i64 0]), .bool false]) W := fun W => by kernel_rfl
  have ta_odd : ∀ W : World, (Instr.typeAssert (.iface 184 (.agg #[.int .i64 n, .int .i64 x])) 143 183 true).run Try.prog W = .ok (.tuple #[(.int .i64 0), .bool false]) W := fun W => by kernel_rfl
  have ta_dec : ∀ W : World, (Instr.typeAssert (.iface 184 (.agg #[.int .i64 n, .int .i64 x])) 143 184 true).run Try.prog W = .ok (.tuple #[(.agg #[.int .i64 n, .int .i64 x]), .bool true]) W := fun W => by kernel_rfl
  have c := fun w1 => decok_impl n x w1 h0 h1
  have C := Lib.hid c
  clear c
  by_cases hx : x < 0
  · rw [decide_eq_true hx, Bool.true_and]
    go_enter Try.func114, Try.ntmps114
    go_wp2_with fail
    refine (C.out _).mono ?_
    rintro e w1 ⟨rfl, hb⟩
    have HB := Lib.hid ((vbox w _).trans (hb.mono (by simp)))
    clear hb
    go_wp2
    go_ret
    exact ⟨rfl, HB.out⟩
  · rw [decide_eq_false hx, Bool.false_and]
    go_enter Try.func114, Try.ntmps114
    go_wp2
    go_ret
    exact ⟨rfl, vbox _ _⟩
set_option maxHeartbeats 1000000 in
set_option maxRecDepth 100000 in
theorem cok_map (w : World) (a : Option Addr) (len cap : Nat) (hl : len ≤ 9223372036854775807) : Calls Try.prog 114 #[.iface 187 (.slice a len cap)] w fun e w' => e = .returned (.bool (decide (len % 2 = 0))) ∧ Below w.heap.size w w' := by
  have ta_null : ∀ W : World, (Instr.typeAssert (.iface 187 (.slice a len cap)) 143 179 true).run Try.prog W = .ok (.tuple #[(.agg #[]), .bool false]) W := fun W => by kernel_rfl
  have ta_bytes : ∀ W : World, (Instr.typeAssert (.iface 187 (.slice a len cap)) 143 186 true).run Try.prog W = .ok (.tuple #[(.string ⟨#[]⟩), .bool false]) W := fun W => by kernel_rfl
  have ta_list : ∀ W : World, (Instr.typeAssert (.iface 187 (.slice a len cap)) 143 114 true).run Try.prog W = .ok (.tuple #[(.slice none 0 0), .bool false]) W := fun W => by kernel_rfl
  have ta_bool : ∀ W : World, (Instr.typeAssert (.iface 187 (.slice a len cap)) 143 180 true).run Try.prog W = .ok (.tuple #[(.int .i64 0), .bool false]) W := fun W => by kernel_rfl
  have ta_int : ∀ W : World, (Instr.typeAssert (.iface 187 (.slice a len cap)) 143 181 true).run Try.prog W = .ok (.tuple #[(.int .i64 0), .bool false]) W := fun W => by kernel_rfl
  have ta_flt : ∀ W : World, (Instr.typeAssert (.iface 187 (.slice a len cap)) 143 182 true).run Try.prog W = .ok (.tuple #[(.agg #[.int .i64 0, .int .i64 0]), .bool false]) W := fun W => by kernel_rfl
  have ta_odd : ∀ W : World, (Instr.typeAssert (.iface 187 (.slice a len cap)) 143 183 true).run Try.prog W = .ok (.tuple #[(.int .i64 0), .bool false]) W := fun W => by kernel_rfl
  have ta_dec : ∀ W : World, (Instr.typeAssert (.iface 187 (.slice a len cap)) 143 184 true).run Try.prog W = .ok (.tuple #[(.agg #[.int .i64 0, .int .i64 0]), .bool false]) W := fun W => by kernel_rfl
  have ta_text : ∀ W : World, (Instr.typeAssert (.iface 187 (.slice a len cap)) 143 185 true).run Try.prog W = .ok (.tuple #[(.string ⟨#[]⟩), .bool false]) W := fun W => by kernel_rfl
  have ta_map : ∀ W : World, (Instr.typeAssert (.iface 187 (.slice a len cap)) 143 187 true).run Try.prog W = .ok (.tuple #[(.slice a len cap), .bool true]) W := fun W => by kernel_rfl
  have e1 : ((len : Int)).tmod 2 = ((len % 2 : Nat) : Int) := by rw [Int.tmod_eq_emod_of_nonneg (by omega)]; omega
  by_cases h : len % 2 = 0
  · rw [decide_eq_true h]
    have e2 : ((len : Int)).tmod 2 = 0 := by omega
    have e3 : ((len : Int)) % 2 = 0 := by omega
    clear e1 h
    go_enter Try.func114, Try.ntmps114
    go_wp2
    go_ret
    exact ⟨rfl, Below.refl _ _⟩
  · rw [decide_eq_false h]
    have e2 : ((len : Int)).tmod 2 = 1 := by omega
    have e3 : ((len : Int)) % 2 = 1 := by omega
    clear e1 h
    go_enter Try.func114, Try.ntmps114
    go_wp2
    go_ret
    exact ⟨rfl, Below.refl _ _⟩
set_option maxHeartbeats 1000000 in
set_option maxRecDepth 100000 in
theorem cok_tag (w : World) (n : Int) (a : Option Addr) (len cap : Nat) : Calls Try.prog 114 #[.iface 189 (.agg #[.int .i64 n, .slice a len cap])] w fun e w' => e = .returned (.bool (decide (0 ≤ n ∧ n ≤ 1000000000000000) && decide (len = 1))) ∧ Below w.heap.size w w' := by
  have ta_null : ∀ W : World, (Instr.typeAssert (.iface 189 (.agg #[.int .i64 n, .slice a len cap])) 143 179 true).run Try.prog W = .ok (.tuple #[(.agg #[]), .bool false]) W := fun W => by kernel_rfl
  have ta_bytes : ∀ W : World, (Instr.typeAssert (.iface 189 (.agg #[.int .i64 n, .slice a len cap])) 143 186 true).run Try.prog W = .ok (.tuple #[(.string ⟨#[]⟩), .bool false]) W := fun W => by kernel_rfl
  have ta_list : ∀ W : World, (Instr.typeAssert (.iface 189 (.agg #[.int .i64 n, .slice a len cap])) 143 114 true).run Try.prog W = .ok (.tuple #[(.slice none 0 0), .bool false]) W := fun W => by kernel_rfl
  have ta_bool : ∀ W : World, (Instr.typeAssert (.iface 189 (.agg #[.int .i64 n, .slice a len cap])) 143 180 true).run Try.prog W = .ok (.tuple #[(.int .i64 0), .bool false]) W := fun W => by kernel_rfl
  have ta_int : ∀ W : World, (Instr.typeAssert (.iface 189 (.agg #[.int .i64 n, .slice a len cap])) 143 181 true).run Try.prog W = .ok (.tuple #[(.int .i64 0), .bool false]) W := fun W => by kernel_rfl
  have ta_flt : ∀ W : World, (Instr.typeAssert (.iface 189 (.agg #[.int .i64 n, .slice a len cap])) 143 182 true).run Try.prog W = .ok (.tuple #[(.agg #[.int .i64 0, .int .i64 0]), .bool false]) W := fun W => by kernel_rfl
  have ta_odd : ∀ W : World, (Instr.typeAssert (.iface 189 (.agg #[.int .i64 n, .slice a len cap])) 143 183 true).run Try.prog W = .ok (.tuple #[(.int .i64 0), .bool false]) W := fun W => by kernel_rfl
  have ta_dec : ∀ W : World, (Instr.typeAssert (.iface 189 (.agg #[.int .i64 n, .slice a len cap])) 143 184 true).run Try.prog W = .ok (.tuple #[(.agg #[.int .i64 0, .int .i64 0]), .bool false]) W := fun W => by kernel_rfl
  have ta_text : ∀ W : World, (Instr.typeAssert (.iface 189 (.agg #[.int .i64 n, .slice a len cap])) 143 185 true).run Try.prog W = .ok (.tuple #[(.string ⟨#[]⟩), .bool false]) W := fun W => by kernel_rfl
  have ta_map : ∀ W : World, (Instr.typeAssert (.iface 189 (.agg #[.int .i64 n, .slice a len cap])) 143 187 true).run Try.prog W = .ok (.tuple #[(.slice none 0 0), .bool false]) W := fun W => by kernel_rfl
  have ta_tag : ∀ W : World, (Instr.typeAssert (.iface 189 (.agg #[.int .i64 n, .slice a len cap])) 143 189 true).run Try.prog W = .ok (.tuple #[(.agg #[.int .i64 n, .slice a len cap]), .bool true]) W := fun W => by kernel_rfl
  by_cases h0 : 0 ≤ n
  · by_cases h1 : n ≤ 1000000000000000
    · by_cases h2 : len = 1
      · subst h2
        rw [decide_eq_true (And.intro h0 h1)]
        go_enter Try.func114, Try.ntmps114
        go_wp2
        go_ret
        exact ⟨rfl, vbox _ _⟩
      · have h3 : ((len : Int) == 1) = false := by rw [beq_eq_false_iff_ne]; omega
        rw [decide_eq_false h2, Bool.and_false]
        clear h2
        go_enter Try.func114, Try.ntmps114
        go_wp2
        go_ret
        exact ⟨rfl, vbox _ _⟩
    · rw [decide_eq_false (fun h => h1 h.2), Bool.false_and]
      go_enter Try.func114, Try.ntmps114
      go_wp2
      go_ret
      exact ⟨rfl, vbox _ _⟩
  · rw [decide_eq_false (fun h => h0 h.1), Bool.false_and]
    go_enter Try.func114, Try.ntmps114
    go_wp2
    go_ret
    exact ⟨rfl, vbox _ _⟩
end Go.Proofs.Ytnikcgmbkmbloaa
/- The program's walk begun: walkOf. -/
namespace Go.Proofs.Ytnikcgmbkmbloaa
open Go.RowKit
theorem walkof_any (T : AT) (w : World) (N : Nat) (hin : T.In w N) (hN : N ≤ w.heap.size) :
    Calls Try.prog 77 #[T.val] w fun e w' => e = .returned (.pointer (some ⟨w.heap.size + 3, 0, none⟩)) ∧ WalkAt w' (w.heap.size + 2) (w.heap.size + 2) (w.heap.size + 3) (w.heap.size + 2) 1 [⟨some ⟨w.heap.size + 1, 0, none⟩, 1, [T]⟩] 0 ∧ Below w.heap.size w w' ∧ w'.heap.size = w.heap.size + 4 := by
  have H := Lib.hid hin
  clear hin
  obtain ⟨k, n, x, s, a, cap, l⟩ := T
  show Calls Try.prog 77 #[.agg #[.int .i64 k, .int .i64 n, .int .i64 x, .string ⟨s.toArray⟩, .slice a l.length cap]] w _
  go_enter Try.func77, Try.ntmps77
  go_wp2
  go_ret
  have hb : Below w.heap.size w ((((w.alloc (.cells #[.int .i64 k, .int .i64 n, .int .i64 x, .string ⟨s.toArray⟩, .slice a l.length cap] 26)).alloc (.cells #[.int .i64 k, .int .i64 n, .int .i64 x, .string ⟨s.toArray⟩, .slice a l.length cap] 26)).alloc (.cells #[.slice (some ⟨w.heap.size + 1, 0, none⟩) 1 1] 24)).alloc (.cells #[.slice (some ⟨w.heap.size + 1 + 1, 0, none⟩) 1 1, .int .i64 0] 147)) :=
    ((((Below.refl _ _).alloc (Nat.le_refl _) _).alloc (by simp) _).alloc (by simp; omega) _).alloc (by simp; omega) _
  refine ⟨rfl, ?_, hb, by simp⟩
  exact {
    rest := by simp [go_sem]
    deep := by simp [go_sem]
    fr := fun o => by simp [go_sem]
    row := by
      refine ⟨rfl, .inr ⟨w.heap.size + 2, 1, #[.slice (some ⟨w.heap.size + 1, 0, none⟩) 1 1], rfl, Nat.le_refl _, ?_, Nat.le_refl _, by unfold maxLen; omega, rfl, rfl⟩⟩
      rw [Below.heap_alloc _ _ _ (by simp)]
      have := heap_alloc_new ((w.alloc (.cells #[.int .i64 k, .int .i64 n, .int .i64 x, .string ⟨s.toArray⟩, .slice a l.length cap] 26)).alloc (.cells #[.int .i64 k, .int .i64 n, .int .i64 x, .string ⟨s.toArray⟩, .slice a l.length cap] 26)) (.cells #[.slice (some ⟨w.heap.size + 1, 0, none⟩) 1 1] 24)
      simpa using this
    pB := by omega
    pN := Nat.le_refl _
    ne := by omega
    lv := fun L hL => by
      obtain rfl : L = ⟨some ⟨w.heap.size + 1, 0, none⟩, 1, [.mk k n x s a cap l]⟩ := by simpa using hL
      refine ⟨Nat.le_refl _, fun j hj => ⟨w.heap.size + 1, 0, rfl, by omega, ?_⟩, fun t ht => ?_⟩
      · obtain rfl : j = 0 := by simp at hj; exact hj
        refine ⟨?_, ?_, ?_, ?_, ?_⟩ <;> simp [go_sem, AT.k, AT.n, AT.x, AT.s, AT.a, AT.cap, AT.l]
      · obtain rfl : t = .mk k n x s a cap l := by simpa using ht
        exact (H.out.blw hb hN).mono (by omega) }
end Go.Proofs.Ytnikcgmbkmbloaa
/- CountOf and DeepOf of the program. -/
namespace Go.Proofs.Ytnikcgmbkmbloaa
open Go.RowKit
/-- what holds at the head of a loop over a walk: the box of the value at hand lies at X and is no part of the walk -/
structure HeadAt (w wr : World) (B P g cap : Nat) (S : List Lev) (d : Int) (X : Nat) (T : AT) : Prop where
  walk : WalkAt wr B B P g cap S d
  x : CellsAt wr X 0 T
  xP : X ≠ P
  xg : X ≠ g
  xB : w.heap.size ≤ X
  bB : w.heap.size ≤ B
  below : Below w.heap.size w wr
theorem HeadAt.xlt {w wr : World} {B P g cap : Nat} {S : List Lev} {d : Int} {X : Nat} {T : AT} (h : HeadAt w wr B P g cap S d X T) : X < wr.heap.size := cell_lt h.x.c0
/-- a step, read at the head of such a loop -/
theorem next_head {w wr : World} {B P g cap : Nat} {S : List Lev} {d : Int} (h : WalkAt wr B B P g cap S d) (hB : w.heap.size ≤ B) (hb : Below w.heap.size w wr) (hS : S.length ≤ 4194304) :
    Calls Try.prog 78 #[.pointer (some ⟨P, 0, none⟩)] wr fun e w' =>
      (∃ (S1 E : List Lev) (L : Lev) (t : AT) (tl : List AT) (a' : Option Addr) (c' g' cap' : Nat), S = S1 ++ L :: E ∧ (∀ L' ∈ E, L'.l = []) ∧ L.l = t :: tl ∧ e = .returned (.tuple #[t.val, .bool true]) ∧
        WalkAt w' B B P g' cap' (S1 ++ [⟨a', c', tl⟩, ⟨t.a, t.cap, t.l⟩]) (S1.length + 1 : Nat) ∧ (g' = g ∨ wr.heap.size ≤ g') ∧ Only2 P g wr w' ∧ Below w.heap.size w w') ∨
      ((∀ L' ∈ S, L'.l = []) ∧ e = .returned (.tuple #[(AT.leaf 0 0 0 []).val, .bool false]) ∧ Only2 P g wr w' ∧ Below w.heap.size w w') := by
  have hl := h.lt
  have hp := h.pB
  have hs := hb.size
  refine (next_any wr B B P g cap S d h hS).mono fun e w' hpost => ?_
  rcases hpost with ⟨S1, E, L, t, tl, a', c', g', cap', h1, h2, h3, h4, h5, h6, h7⟩ | ⟨h1, h2, h3⟩
  · exact .inl ⟨S1, E, L, t, tl, a', c', g', cap', h1, h2, h3, h4, h5, h6, h7, hb.trans (h7.below (by omega) (by omega) (by omega))⟩
  · exact .inr ⟨h1, h2, h3, hb.trans (h3.below (by omega) (by omega) (by omega))⟩
/-- walkOf, its blocks as letters -/
theorem walkof_head (T : AT) (w : World) (N : Nat) (hin : T.In w N) (hN : N ≤ w.heap.size) (w1 : World) (hb1 : Below w.heap.size w w1) :
    Calls Try.prog 77 #[T.val] w1 fun e w' => ∃ P g b B, e = .returned (.pointer (some ⟨P, 0, none⟩)) ∧ WalkAt w' B B P g 1 [⟨some ⟨b, 0, none⟩, 1, [T]⟩] 0 ∧ w1.heap.size ≤ B ∧ Below w1.heap.size w1 w' ∧ Below w.heap.size w w' := by
  refine (walkof_any T w1 N (hin.blw hb1 hN) (Nat.le_trans hN hb1.size)).mono fun e w' h => ?_
  exact ⟨_, _, _, _, h.1, h.2.1, by omega, h.2.2.1, hb1.trans (h.2.2.1.mono hb1.size)⟩
/-- the box of the value at hand, and the walk behind it: the head of the next round -/
theorem HeadAt.new {w wr : World} {B P g cap : Nat} {S : List Lev} {d : Int} {t : AT} (h : WalkAt wr B B P g cap S d) (hB : w.heap.size ≤ B) (hb : Below w.heap.size w wr) :
    HeadAt w (wr.alloc (.cells #[.int .i64 t.k, .int .i64 t.n, .int .i64 t.x, .string ⟨t.s.toArray⟩, .slice t.a t.l.length t.cap] 26)) B P g cap S d wr.heap.size t where
  walk := h.blw (vbox _ _)
  x := by refine ⟨?_, ?_, ?_, ?_, ?_⟩ <;> simp [go_sem]
  xP := by have := h.lt; omega
  xg := by have := h.lt; omega
  xB := hb.size
  bB := hB
  below := hb.alloc hb.size _
theorem HeadAt.step {w wr w' : World} {B P g cap g' cap' : Nat} {S S' : List Lev} {d d' : Int} {X : Nat} {t : AT} (h : HeadAt w wr B P g cap S d X t) (hw : WalkAt w' B B P g' cap' S' d') (hg : g' = g ∨ wr.heap.size ≤ g') (ho : Only2 P g wr w') (hb : Below w.heap.size w w') : HeadAt w w' B P g' cap' S' d' X t where
  walk := hw
  x := h.x.keep (ho.block X h.xlt h.xP h.xg)
  xP := h.xP
  xg := by have := h.xlt; have := h.xg; omega
  xB := h.xB
  bB := h.bB
  below := hb
end Go.Proofs.Ytnikcgmbkmbloaa
/- SameVal of the program. -/
namespace Go.Proofs.Ytnikcgmbkmbloaa
open Go.RowKit
set_option maxHeartbeats 4000000 in
theorem fields_impl (T U : AT) (w : World) : Calls Try.prog 94 #[T.val, U.val] w fun e w' => e = .returned (.bool (T.hd U)) ∧ Below w.heap.size w w' := by
  obtain ⟨k, n, x, s, a, cap, l⟩ := T
  obtain ⟨k2, n2, x2, s2, b, cap2, m⟩ := U
  have hsame : ∀ B, (AT.mk k n x s a cap l).hd (AT.mk k2 n2 x2 s2 b cap2 m) = B ↔ (k == k2 && n == n2 && x == x2 && s == s2 && l.length == m.length) = B := fun B => Iff.rfl
  have HS := Lib.hid hsame
  clear hsame
  show Calls Try.prog 94 #[.agg #[.int .i64 k, .int .i64 n, .int .i64 x, .string ⟨s.toArray⟩, .slice a l.length cap], .agg #[.int .i64 k2, .int .i64 n2, .int .i64 x2, .string ⟨s2.toArray⟩, .slice b m.length cap2]] w _
  by_cases hf : k = k2 ∧ n = n2 ∧ x = x2 ∧ s = s2 ∧ l.length = m.length
  · obtain ⟨rfl, rfl, rfl, rfl, hlen⟩ := hf
    have HR : Hid ((AT.mk k n x s a cap l).hd (AT.mk k n x s b cap2 m) = true) := Lib.hid ((HS.out true).2 (by simp [hlen]))
    rw [← hlen]
    clear hlen HS
    go_enter Try.func94, Try.ntmps94
    go_wp2
    go_ret
    exact ⟨by rw [HR.out]; rfl, two' _ _ _⟩
  · have hfalse : (k == k2 && n == n2 && x == x2 && s == s2 && l.length == m.length) = false := by
      rw [Bool.eq_false_iff]
      intro h
      simp only [Bool.and_eq_true, beq_iff_eq] at h
      exact hf ⟨h.1.1.1.1, h.1.1.1.2, h.1.1.2, h.1.2, h.2⟩
    have HR : Hid ((AT.mk k n x s a cap l).hd (AT.mk k2 n2 x2 s2 b cap2 m) = false) := Lib.hid ((HS.out false).2 hfalse)
    clear hfalse HS
    rcases hd_cases hf with h0 | ⟨rfl, h1⟩ | ⟨rfl, rfl, h2⟩ | ⟨rfl, rfl, rfl, h3, h4⟩ | ⟨rfl, rfl, rfl, rfl, h5, h6⟩
    all_goals clear hf
    all_goals
      go_enter Try.func94, Try.ntmps94
      go_wp2
      go_ret
      exact ⟨by rw [HR.out]; rfl, two' _ _ _⟩
/-- two stacks, level by level -/
def sameS : List Lev → List Lev → Bool
  | L :: S, M :: R => PT.sameL (AT.ptL L.l) (AT.ptL M.l) && sameS S R
  | _, _ => true
theorem sameS_append (S R S' R' : List Lev) (h : S.length = R.length) : sameS (S ++ S') (R ++ R') = (sameS S R && sameS S' R') := by
  induction S generalizing R with
  | nil => cases R with
    | nil => simp [sameS]
    | cons M R => simp at h
  | cons L S ih =>
    cases R with
    | nil => simp at h
    | cons M R => simp only [List.cons_append, sameS]; rw [ih R (by simpa using h), Bool.and_assoc]
theorem sameS_empty (S R : List Lev) (h : ∀ L ∈ S, L.l = []) : sameS S R = true := by
  induction S generalizing R with
  | nil => rfl
  | cons L S ih =>
    cases R with
    | nil => rfl
    | cons M R =>
      simp only [sameS, h L (by simp), AT.ptL, ih R (fun L hL => h L (by simp [hL]))]
      cases h2 : AT.ptL M.l <;> simp [PT.sameL]
def lens (S : List Lev) : List Nat := S.map fun L => L.l.length
theorem zeros_split (A A' Z Z' : List Nat) (a a' : Nat) (hZ : ∀ z ∈ Z, z = 0) (hZ' : ∀ z ∈ Z', z = 0) (h : A ++ (a + 1) :: Z = A' ++ (a' + 1) :: Z') : A = A' ∧ a = a' ∧ Z = Z' := by
  induction A generalizing A' with
  | nil =>
    cases A' with
    | nil => simp at h; exact ⟨rfl, h.1, h.2⟩
    | cons x A' =>
      simp only [List.nil_append, List.cons_append, List.cons.injEq] at h
      have := hZ (a' + 1) (by rw [h.2]; simp)
      omega
  | cons x A ih =>
    cases A' with
    | nil =>
      simp only [List.nil_append, List.cons_append, List.cons.injEq] at h
      have := hZ' (a + 1) (by rw [← h.2]; simp)
      omega
    | cons y A' =>
      simp only [List.cons_append, List.cons.injEq] at h
      obtain ⟨rfl, h⟩ := h
      obtain ⟨rfl, h2⟩ := ih A' h
      exact ⟨rfl, h2⟩
theorem lens_empty {S : List Lev} (h : ∀ L ∈ S, L.l = []) : ∀ z ∈ lens S, z = 0 := by
  intro z hz
  obtain ⟨L, hL, rfl⟩ := List.mem_map.1 hz
  rw [h L hL]; rfl
theorem lens_none {S R : List Lev} (h : lens S = lens R) (hS : ∀ L ∈ S, L.l = []) : ∀ L ∈ R, L.l = [] := by
  intro L hL
  have : L.l.length ∈ lens S := by rw [h]; exact List.mem_map_of_mem hL
  exact List.length_eq_zero_iff.1 (lens_empty hS _ this)
/-- the two walks' steps, side by side -/
theorem sameS_step {S1 E R1 F : List Lev} {L M : Lev} {t u : AT} {tl ul : List AT} (a c a' c') (hE : ∀ L ∈ E, L.l = []) (hF : ∀ L ∈ F, L.l = []) (hl : L.l = t :: tl) (hm : M.l = u :: ul) (h : lens (S1 ++ L :: E) = lens (R1 ++ M :: F)) :
    (sameS (S1 ++ L :: E) (R1 ++ M :: F) = (t.hd u && sameS (S1 ++ [Lev.mk a c tl, Lev.mk t.a t.cap t.l]) (R1 ++ [Lev.mk a' c' ul, Lev.mk u.a u.cap u.l]))) ∧ (t.hd u = true → lens (S1 ++ [Lev.mk a c tl, Lev.mk t.a t.cap t.l]) = lens (R1 ++ [Lev.mk a' c' ul, Lev.mk u.a u.cap u.l])) := by
  simp only [lens, List.map_append, List.map_cons, hl, hm, List.length_cons] at h
  obtain ⟨h1, h2, h3⟩ := zeros_split _ _ _ _ _ _ (lens_empty hE) (lens_empty hF) h
  have hlen : S1.length = R1.length := by simpa using congrArg List.length h1
  constructor
  · rw [sameS_append _ _ _ _ hlen, sameS_append _ _ _ _ hlen]
    simp only [sameS, sameS_empty E F hE, hl, hm, AT.ptL, PT.sameL, ptsame_eq, Bool.and_true]
    cases t.hd u <;> cases sameS S1 R1 <;> cases PT.sameL (AT.ptL t.l) (AT.ptL u.l) <;> cases PT.sameL (AT.ptL tl) (AT.ptL ul) <;> rfl
  · intro hh
    simp only [AT.hd, Bool.and_eq_true, beq_iff_eq] at hh
    simp only [lens, List.map_append, List.map_cons, List.map_nil, h2, hh.2]
    rw [h1]
end Go.Proofs.Ytnikcgmbkmbloaa
/- When a value is right (plain), and the contents of values. -/
namespace Go.Proofs.Ytnikcgmbkmbloaa
open Go.RowKit
/-- within the bounds of the kind -/
def okF (k n x : Int) (s : List UInt8) (len : Nat) : Bool :=
  if k = 1 then true else if k = 2 then decide (0 ≤ n ∧ n ≤ 1) else if k = 3 then decide (-1000000000000000 ≤ n ∧ n ≤ 1000000000000000) else if k = 4 then fltOk n x else if k = 5 then decide (0 ≤ n ∧ n ≤ 2) else if k = 6 then decide (x < 0) && decOk n x else if k = 7 then (runes s).isSome else if k = 8 then true else if k = 9 then true else if k = 10 then decide (len % 2 = 0) else if k = 11 then decide (0 ≤ n ∧ n ≤ 1000000000000000) && decide (len = 1) else false
/-- what the kind does not use is zero -/
def zF (k n x : Int) (s : List UInt8) (len : Nat) : Bool :=
  if k = 1 then n == 0 && x == 0 && s == [] && len == 0 else if k = 2 then x == 0 && s == [] && len == 0 else if k = 3 then x == 0 && s == [] && len == 0 else if k = 4 then s == [] && len == 0 else if k = 5 then x == 0 && s == [] && len == 0 else if k = 6 then s == [] && len == 0 else if k = 7 then n == 0 && x == 0 && len == 0 else if k = 8 then n == 0 && x == 0 && len == 0 else if k = 9 then n == 0 && x == 0 && s == [] else if k = 10 then n == 0 && x == 0 && s == [] else if k = 11 then x == 0 && s == [] else false
def nodeF (k n x : Int) (s : List UInt8) (len : Nat) : Bool := okF k n x s len && zF k n x s len
mutual
def PT.ok : PT → Bool
  | .mk k n x s l => nodeF k n x s l.length && PT.okL l
def PT.okL : List PT → Bool
  | [] => true
  | t :: l => t.ok && PT.okL l
end
def AT.node (t : AT) : Bool := nodeF t.k t.n t.x t.s t.l.length
theorem ok_eq (t : AT) : t.pt.ok = (t.node && PT.okL (AT.ptL t.l)) := by cases t; simp [AT.pt, PT.ok, AT.node, AT.k, AT.n, AT.x, AT.s, AT.l]
def conOf (t : AT) : Value :=
  if t.k = 1 then .iface 179 (.agg #[]) else if t.k = 2 then .iface 180 (.int .i64 t.n) else if t.k = 3 then .iface 181 (.int .i64 t.n) else if t.k = 4 then .iface 182 (.agg #[.int .i64 t.n, .int .i64 t.x]) else if t.k = 5 then .iface 183 (.int .i64 t.n) else if t.k = 6 then .iface 184 (.agg #[.int .i64 t.n, .int .i64 t.x]) else if t.k = 7 then .iface 185 (.string ⟨t.s.toArray⟩) else if t.k = 8 then .iface 186 (.string ⟨t.s.toArray⟩) else if t.k = 9 then .iface 114 (.slice t.a t.l.length t.cap) else if t.k = 10 then .iface 187 (.slice t.a t.l.length t.cap) else if t.k = 11 then .iface 189 (.agg #[.int .i64 t.n, .slice t.a t.l.length t.cap]) else .nilIface
def conAT (t : AT) : AT :=
  if t.k = 1 then .mk 1 0 0 [] none 0 [] else if t.k = 2 then .mk 2 t.n 0 [] none 0 [] else if t.k = 3 then .mk 3 t.n 0 [] none 0 [] else if t.k = 4 then .mk 4 t.n t.x [] none 0 [] else if t.k = 5 then .mk 5 t.n 0 [] none 0 [] else if t.k = 6 then .mk 6 t.n t.x [] none 0 [] else if t.k = 7 then .mk 7 0 0 t.s none 0 [] else if t.k = 8 then .mk 8 0 0 t.s none 0 [] else if t.k = 9 then .mk 9 0 0 [] t.a t.cap t.l else if t.k = 10 then .mk 10 0 0 [] t.a t.cap t.l else if t.k = 11 then .mk 11 t.n 0 [] t.a t.cap t.l else t
theorem con_cases (t : AT) : (t.k < 1 ∨ 11 < t.k) ∨ t.k = 1 ∨ t.k = 2 ∨ t.k = 3 ∨ t.k = 4 ∨ t.k = 5 ∨ t.k = 6 ∨ t.k = 7 ∨ t.k = 8 ∨ t.k = 9 ∨ t.k = 10 ∨ t.k = 11 := by omega
theorem con_kind (t : AT) : ((t.k < 1 ∨ 11 < t.k) ∧ conOf t = .nilIface ∧ okF t.k t.n t.x t.s t.l.length = false) ∨ (t.k = 1 ∧ conOf t = .iface 179 (.agg #[]) ∧ conAT t = .mk 1 0 0 [] none 0 []) ∨ (t.k = 2 ∧ conOf t = .iface 180 (.int .i64 t.n) ∧ conAT t = .mk 2 t.n 0 [] none 0 []) ∨ (t.k = 3 ∧ conOf t = .iface 181 (.int .i64 t.n) ∧ conAT t = .mk 3 t.n 0 [] none 0 []) ∨ (t.k = 4 ∧ conOf t = .iface 182 (.agg #[.int .i64 t.n, .int .i64 t.x]) ∧ conAT t = .mk 4 t.n t.x [] none 0 []) ∨ (t.k = 5 ∧ conOf t = .iface 183 (.int .i64 t.n) ∧ conAT t = .mk 5 t.n 0 [] none 0 []) ∨ (t.k = 6 ∧ conOf t = .iface 184 (.agg #[.int .i64 t.n, .int .i64 t.x]) ∧ conAT t = .mk 6 t.n t.x [] none 0 []) ∨ (t.k = 7 ∧ conOf t = .iface 185 (.string ⟨t.s.toArray⟩) ∧ conAT t = .mk 7 0 0 t.s none 0 []) ∨ (t.k = 8 ∧ conOf t = .iface 186 (.string ⟨t.s.toArray⟩) ∧ conAT t = .mk 8 0 0 t.s none 0 []) ∨ (t.k = 9 ∧ conOf t = .iface 114 (.slice t.a t.l.length t.cap) ∧ conAT t = .mk 9 0 0 [] t.a t.cap t.l) ∨ (t.k = 10 ∧ conOf t = .iface 187 (.slice t.a t.l.length t.cap) ∧ conAT t = .mk 10 0 0 [] t.a t.cap t.l) ∨ (t.k = 11 ∧ conOf t = .iface 189 (.agg #[.int .i64 t.n, .slice t.a t.l.length t.cap]) ∧ conAT t = .mk 11 t.n 0 [] t.a t.cap t.l) := by
  rcases con_cases t with h | h | h | h | h | h | h | h | h | h | h | h
  · left
    refine ⟨h, ?_, ?_⟩
    · unfold conOf
      rw [if_neg (by omega)]; rw [if_neg (by omega)]; rw [if_neg (by omega)]; rw [if_neg (by omega)]; rw [if_neg (by omega)]; rw [if_neg (by omega)]; rw [if_neg (by omega)]; rw [if_neg (by omega)]; rw [if_neg (by omega)]; rw [if_neg (by omega)]; rw [if_neg (by omega)]
    · unfold okF
      rw [if_neg (by omega)]; rw [if_neg (by omega)]; rw [if_neg (by omega)]; rw [if_neg (by omega)]; rw [if_neg (by omega)]; rw [if_neg (by omega)]; rw [if_neg (by omega)]; rw [if_neg (by omega)]; rw [if_neg (by omega)]; rw [if_neg (by omega)]; rw [if_neg (by omega)]
  · right; left
    refine ⟨h, ?_, ?_⟩
    · unfold conOf; rw [h]; rfl
    · unfold conAT; rw [h]; rfl
  · right; right; left
    refine ⟨h, ?_, ?_⟩
    · unfold conOf; rw [h]; rfl
    · unfold conAT; rw [h]; rfl
  · right; right; right; left
    refine ⟨h, ?_, ?_⟩
    · unfold conOf; rw [h]; rfl
    · unfold conAT; rw [h]; rfl
  · right; right; right; right; left
    refine ⟨h, ?_, ?_⟩
    · unfold conOf; rw [h]; rfl
    · unfold conAT; rw [h]; rfl
  · right; right; right; right; right; left
    refine ⟨h, ?_, ?_⟩
    · unfold conOf; rw [h]; rfl
    · unfold conAT; rw [h]; rfl
  · right; right; right; right; right; right; left
    refine ⟨h, ?_, ?_⟩
    · unfold conOf; rw [h]; rfl
    · unfold conAT; rw [h]; rfl
  · right; right; right; right; right; right; right; left
    refine ⟨h, ?_, ?_⟩
    · unfold conOf; rw [h]; rfl
    · unfold conAT; rw [h]; rfl
  · right; right; right; right; right; right; right; right; left
    refine ⟨h, ?_, ?_⟩
    · unfold conOf; rw [h]; rfl
    · unfold conAT; rw [h]; rfl
  · right; right; right; right; right; right; right; right; right; left
    refine ⟨h, ?_, ?_⟩
    · unfold conOf; rw [h]; rfl
    · unfold conAT; rw [h]; rfl
  · right; right; right; right; right; right; right; right; right; right; left
    refine ⟨h, ?_, ?_⟩
    · unfold conOf; rw [h]; rfl
    · unfold conAT; rw [h]; rfl
  · right; right; right; right; right; right; right; right; right; right; right; skip
    refine ⟨h, ?_, ?_⟩
    · unfold conOf; rw [h]; rfl
    · unfold conAT; rw [h]; rfl
theorem con_hd (t : AT) (h : 1 ≤ t.k ∧ t.k ≤ 11) : (conAT t).hd t = zF t.k t.n t.x t.s t.l.length := by
  rcases con_kind t with ⟨h2, _⟩ | ⟨hk, _, hc⟩ | ⟨hk, _, hc⟩ | ⟨hk, _, hc⟩ | ⟨hk, _, hc⟩ | ⟨hk, _, hc⟩ | ⟨hk, _, hc⟩ | ⟨hk, _, hc⟩ | ⟨hk, _, hc⟩ | ⟨hk, _, hc⟩ | ⟨hk, _, hc⟩ | ⟨hk, _, hc⟩
  · omega
  all_goals
    rw [hc]
    obtain ⟨k, n, x, s, a, cap, l⟩ := t
    simp only [AT.k] at hk
    subst hk
    have e1 : ((0 : Int) == x) = (x == 0) := BEq.comm
    have e2 : ((0 : Int) == n) = (n == 0) := BEq.comm
    have e3 : ((0 : Nat) == l.length) = (l.length == 0) := BEq.comm
    simp [AT.hd, zF, AT.k, AT.n, AT.x, AT.s, AT.l, e1, e2, e3]
end Go.Proofs.Ytnikcgmbkmbloaa
