import Derived.Test.YtilgncebhgplaaaDoorG15
import Derived.Laws.EntriesVeiled
import Derived.Deep.RegionWith
/- The writer's begin: the encoder of a kind out of a table of functions. By gen_twbegin.py. -/
namespace Go.Proofs.YtilgncebhgplaaaDoor
open Go.RowKit
set_option linter.unusedVariables false
set_option maxRecDepth 100000
theorem enc_nil (n : Nat) (w : World) : (binOp .eql 111 (.func (.func n) #[] #[]) .nilFunc).run Tryd.prog w = .ok (.bool false) w := by kernel_rfl
theorem enc_none (w : World) : (binOp .eql 111 .nilFunc .nilFunc).run Tryd.prog w = .ok (.bool true) w := by kernel_rfl
theorem encoders_any (w : World) : Calls Tryd.prog 75 #[] w fun e w' => e = .returned (.agg #[.nilFunc, .func (.func 82) #[] #[], .func (.func 83) #[] #[], .func (.func 84) #[] #[], .func (.func 85) #[] #[], .func (.func 86) #[] #[], .nilFunc, .func (.func 87) #[] #[], .func (.func 88) #[] #[], .func (.func 89) #[] #[], .func (.func 90) #[] #[], .func (.func 91) #[] #[]]) ∧ Below w.heap.size w w' := by
  go_enter Tryd.func75, Tryd.ntmps75
  go_wp2
  exact bodyPost_ret (v := .agg #[.nilFunc, .func (.func 82) #[] #[], .func (.func 83) #[] #[], .func (.func 84) #[] #[], .func (.func 85) #[] #[], .func (.func 86) #[] #[], .nilFunc, .func (.func 87) #[] #[], .func (.func 88) #[] #[], .func (.func 89) #[] #[], .func (.func 90) #[] #[], .func (.func 91) #[] #[]]) (by simp [results, Tryd.results75, go_sem]) rfl ⟨rfl, below_box _ _⟩
set_option maxHeartbeats 2000000 in
theorem begin_k1 {w : World} {N P vn vc un uc : Nat} {va ua : Option Addr} {out : List UInt8} {S : List GF} {d : Bool} (n x : Int) (s : List UInt8) (a : Option Addr) (cap : Nat) (l : List AT) (htw : TW w N P (.slice va vn vc) (.slice ua un uc) out S d) (hT : (AT.mk 1 n x s a cap l).In w N) (hz : Tz w) (hn : inW n) (hx : inW x) (hsz : out.length + s.length ≤ 1000000000) (hS : S.length ≤ 4194304) (hl : l.length ≤ 1048576) :
    Calls Tryd.prog 62 #[.pointer (some ⟨P, 0, none⟩), .agg #[.int .i64 1, .int .i64 n, .int .i64 x, .string ⟨s.toArray⟩, .slice a l.length cap]] w (BP N P w (.slice va vn vc) (.slice ua un uc) (.mk 1 n x s a cap l) out S d) := by
  have hb0 := vbox w (.cells #[.int .i64 1, .int .i64 n, .int .i64 x, .string ⟨s.toArray⟩, .slice a l.length cap] 29)
  have hbc : CellsAt (w.alloc (.cells #[.int .i64 1, .int .i64 n, .int .i64 x, .string ⟨s.toArray⟩, .slice a l.length cap] 29)) w.heap.size 0 (.mk 1 n x s a cap l) := by
    refine ⟨?_, ?_, ?_, ?_, ?_⟩ <;> simp [go_sem, AT.k, AT.n, AT.x, AT.s, AT.a, AT.l, AT.cap]
  have hPl := htw.lt
  have hnp := htw.np
  have CK := Lib.hid (fun (W : World) (hb : Below w.heap.size w W) => tw_k1 n x s a cap l (htw.blw hb) (hT.blw hb (by omega)) (hz.below hb) hn hx hsz hS hl)
  clear htw hT hz hn hx hsz hS hl
  go_enter Tryd.func62, Tryd.ntmps62
  (go_upto_region 1 with fail)
  generalize hW1 : (w.alloc (.cells #[.int .i64 1, .int .i64 n, .int .i64 x, .string ⟨s.toArray⟩, .slice a l.length cap] 29)) = W1 at *
  have hbx : w.heap.size < W1.heap.size := by rw [← hW1]; simp
  clear hW1
  go_wp2_with fail
  refine (encoders_any _).mono ?_
  rintro e w2 ⟨rfl, hb2⟩
  (go_upto_region 2 with fail)
  have hb3 := below_box w2 (.cells #[.nilFunc, .func (.func 82) #[] #[], .func (.func 83) #[] #[], .func (.func 84) #[] #[], .func (.func 85) #[] #[], .func (.func 86) #[] #[], .nilFunc, .func (.func 87) #[] #[], .func (.func 88) #[] #[], .func (.func 89) #[] #[], .func (.func 90) #[] #[], .func (.func 91) #[] #[]] 112)
  have ca : (w2.alloc (.cells #[.nilFunc, .func (.func 82) #[] #[], .func (.func 83) #[] #[], .func (.func 84) #[] #[], .func (.func 85) #[] #[], .func (.func 86) #[] #[], .nilFunc, .func (.func 87) #[] #[], .func (.func 88) #[] #[], .func (.func 89) #[] #[], .func (.func 90) #[] #[], .func (.func 91) #[] #[]] 112)).cell? ⟨w2.heap.size, 1, none⟩ = some (.func (.func 82) #[] #[]) := by simp [go_sem]
  generalize (w2.alloc (.cells #[.nilFunc, .func (.func 82) #[] #[], .func (.func 83) #[] #[], .func (.func 84) #[] #[], .func (.func 85) #[] #[], .func (.func 86) #[] #[], .nilFunc, .func (.func 87) #[] #[], .func (.func 88) #[] #[], .func (.func 89) #[] #[], .func (.func 90) #[] #[], .func (.func 91) #[] #[]] 112)) = W3 at *
  have hb13 := hb2.trans (hb3.mono hb2.size)
  have hbc3 := hbc.keep (hb13.block _ hbx)
  have HB := Lib.hid (hb0.trans (hb13.mono (Nat.le_of_lt hbx)))
  obtain ⟨c0, c1, c2, c3, c4⟩ := hbc3
  simp only [AT.k, AT.n, AT.x, AT.s, AT.a, AT.l, AT.cap, Nat.zero_add] at c0 c1 c2 c3 c4
  clear hb0 hb2 hb3 hb13 hbc
  have q2 := enc_nil
  (go_upto_region 3 with fail)
  go_region_with (go_at_call 82; refine (CK.out _ (by repeat (first | with_reducible exact HB.out | with_reducible refine Below.drew ?_))).mono ?_; rintro e w4 ⟨rfl, va4, vn4, vc4, ua4, un4, uc4, tw4, st4⟩)
  all_goals
    have HQ : Hid (BP N P w (.slice va vn vc) (.slice ua un uc) (.mk 1 n x s a cap l) out S d (.returned (.tuple #[])) w4) := Lib.hid ⟨rfl, va4, vn4, vc4, ua4, un4, uc4, tw4, st4.pre (by repeat (first | with_reducible exact HB.out | with_reducible refine Below.drew ?_))⟩
    clear tw4 st4
    go_wp2
    go_end0
    exact HQ.out
set_option maxHeartbeats 2000000 in
theorem begin_k2 {w : World} {N P vn vc un uc : Nat} {va ua : Option Addr} {out : List UInt8} {S : List GF} {d : Bool} (n x : Int) (s : List UInt8) (a : Option Addr) (cap : Nat) (l : List AT) (htw : TW w N P (.slice va vn vc) (.slice ua un uc) out S d) (hT : (AT.mk 2 n x s a cap l).In w N) (hz : Tz w) (hn : inW n) (hx : inW x) (hsz : out.length + s.length ≤ 1000000000) (hS : S.length ≤ 4194304) (hl : l.length ≤ 1048576) :
    Calls Tryd.prog 62 #[.pointer (some ⟨P, 0, none⟩), .agg #[.int .i64 2, .int .i64 n, .int .i64 x, .string ⟨s.toArray⟩, .slice a l.length cap]] w (BP N P w (.slice va vn vc) (.slice ua un uc) (.mk 2 n x s a cap l) out S d) := by
  have hb0 := vbox w (.cells #[.int .i64 2, .int .i64 n, .int .i64 x, .string ⟨s.toArray⟩, .slice a l.length cap] 29)
  have hbc : CellsAt (w.alloc (.cells #[.int .i64 2, .int .i64 n, .int .i64 x, .string ⟨s.toArray⟩, .slice a l.length cap] 29)) w.heap.size 0 (.mk 2 n x s a cap l) := by
    refine ⟨?_, ?_, ?_, ?_, ?_⟩ <;> simp [go_sem, AT.k, AT.n, AT.x, AT.s, AT.a, AT.l, AT.cap]
  have hPl := htw.lt
  have hnp := htw.np
  have CK := Lib.hid (fun (W : World) (hb : Below w.heap.size w W) => tw_k2 n x s a cap l (htw.blw hb) (hT.blw hb (by omega)) (hz.below hb) hn hx hsz hS hl)
  clear htw hT hz hn hx hsz hS hl
  go_enter Tryd.func62, Tryd.ntmps62
  (go_upto_region 1 with fail)
  generalize hW1 : (w.alloc (.cells #[.int .i64 2, .int .i64 n, .int .i64 x, .string ⟨s.toArray⟩, .slice a l.length cap] 29)) = W1 at *
  have hbx : w.heap.size < W1.heap.size := by rw [← hW1]; simp
  clear hW1
  go_wp2_with fail
  refine (encoders_any _).mono ?_
  rintro e w2 ⟨rfl, hb2⟩
  (go_upto_region 2 with fail)
  have hb3 := below_box w2 (.cells #[.nilFunc, .func (.func 82) #[] #[], .func (.func 83) #[] #[], .func (.func 84) #[] #[], .func (.func 85) #[] #[], .func (.func 86) #[] #[], .nilFunc, .func (.func 87) #[] #[], .func (.func 88) #[] #[], .func (.func 89) #[] #[], .func (.func 90) #[] #[], .func (.func 91) #[] #[]] 112)
  have ca : (w2.alloc (.cells #[.nilFunc, .func (.func 82) #[] #[], .func (.func 83) #[] #[], .func (.func 84) #[] #[], .func (.func 85) #[] #[], .func (.func 86) #[] #[], .nilFunc, .func (.func 87) #[] #[], .func (.func 88) #[] #[], .func (.func 89) #[] #[], .func (.func 90) #[] #[], .func (.func 91) #[] #[]] 112)).cell? ⟨w2.heap.size, 2, none⟩ = some (.func (.func 83) #[] #[]) := by simp [go_sem]
  generalize (w2.alloc (.cells #[.nilFunc, .func (.func 82) #[] #[], .func (.func 83) #[] #[], .func (.func 84) #[] #[], .func (.func 85) #[] #[], .func (.func 86) #[] #[], .nilFunc, .func (.func 87) #[] #[], .func (.func 88) #[] #[], .func (.func 89) #[] #[], .func (.func 90) #[] #[], .func (.func 91) #[] #[]] 112)) = W3 at *
  have hb13 := hb2.trans (hb3.mono hb2.size)
  have hbc3 := hbc.keep (hb13.block _ hbx)
  have HB := Lib.hid (hb0.trans (hb13.mono (Nat.le_of_lt hbx)))
  obtain ⟨c0, c1, c2, c3, c4⟩ := hbc3
  simp only [AT.k, AT.n, AT.x, AT.s, AT.a, AT.l, AT.cap, Nat.zero_add] at c0 c1 c2 c3 c4
  clear hb0 hb2 hb3 hb13 hbc
  have q2 := enc_nil
  (go_upto_region 3 with fail)
  go_region_with (go_at_call 83; refine (CK.out _ (by repeat (first | with_reducible exact HB.out | with_reducible refine Below.drew ?_))).mono ?_; rintro e w4 ⟨rfl, va4, vn4, vc4, ua4, un4, uc4, tw4, st4⟩)
  all_goals
    have HQ : Hid (BP N P w (.slice va vn vc) (.slice ua un uc) (.mk 2 n x s a cap l) out S d (.returned (.tuple #[])) w4) := Lib.hid ⟨rfl, va4, vn4, vc4, ua4, un4, uc4, tw4, st4.pre (by repeat (first | with_reducible exact HB.out | with_reducible refine Below.drew ?_))⟩
    clear tw4 st4
    go_wp2
    go_end0
    exact HQ.out
set_option maxHeartbeats 2000000 in
theorem begin_k3 {w : World} {N P vn vc un uc : Nat} {va ua : Option Addr} {out : List UInt8} {S : List GF} {d : Bool} (n x : Int) (s : List UInt8) (a : Option Addr) (cap : Nat) (l : List AT) (htw : TW w N P (.slice va vn vc) (.slice ua un uc) out S d) (hT : (AT.mk 3 n x s a cap l).In w N) (hz : Tz w) (hn : inW n) (hx : inW x) (hsz : out.length + s.length ≤ 1000000000) (hS : S.length ≤ 4194304) (hl : l.length ≤ 1048576) :
    Calls Tryd.prog 62 #[.pointer (some ⟨P, 0, none⟩), .agg #[.int .i64 3, .int .i64 n, .int .i64 x, .string ⟨s.toArray⟩, .slice a l.length cap]] w (BP N P w (.slice va vn vc) (.slice ua un uc) (.mk 3 n x s a cap l) out S d) := by
  have hb0 := vbox w (.cells #[.int .i64 3, .int .i64 n, .int .i64 x, .string ⟨s.toArray⟩, .slice a l.length cap] 29)
  have hbc : CellsAt (w.alloc (.cells #[.int .i64 3, .int .i64 n, .int .i64 x, .string ⟨s.toArray⟩, .slice a l.length cap] 29)) w.heap.size 0 (.mk 3 n x s a cap l) := by
    refine ⟨?_, ?_, ?_, ?_, ?_⟩ <;> simp [go_sem, AT.k, AT.n, AT.x, AT.s, AT.a, AT.l, AT.cap]
  have hPl := htw.lt
  have hnp := htw.np
  have CK := Lib.hid (fun (W : World) (hb : Below w.heap.size w W) => tw_k3 n x s a cap l (htw.blw hb) (hT.blw hb (by omega)) (hz.below hb) hn hx hsz hS hl)
  clear htw hT hz hn hx hsz hS hl
  go_enter Tryd.func62, Tryd.ntmps62
  (go_upto_region 1 with fail)
  generalize hW1 : (w.alloc (.cells #[.int .i64 3, .int .i64 n, .int .i64 x, .string ⟨s.toArray⟩, .slice a l.length cap] 29)) = W1 at *
  have hbx : w.heap.size < W1.heap.size := by rw [← hW1]; simp
  clear hW1
  go_wp2_with fail
  refine (encoders_any _).mono ?_
  rintro e w2 ⟨rfl, hb2⟩
  (go_upto_region 2 with fail)
  have hb3 := below_box w2 (.cells #[.nilFunc, .func (.func 82) #[] #[], .func (.func 83) #[] #[], .func (.func 84) #[] #[], .func (.func 85) #[] #[], .func (.func 86) #[] #[], .nilFunc, .func (.func 87) #[] #[], .func (.func 88) #[] #[], .func (.func 89) #[] #[], .func (.func 90) #[] #[], .func (.func 91) #[] #[]] 112)
  have ca : (w2.alloc (.cells #[.nilFunc, .func (.func 82) #[] #[], .func (.func 83) #[] #[], .func (.func 84) #[] #[], .func (.func 85) #[] #[], .func (.func 86) #[] #[], .nilFunc, .func (.func 87) #[] #[], .func (.func 88) #[] #[], .func (.func 89) #[] #[], .func (.func 90) #[] #[], .func (.func 91) #[] #[]] 112)).cell? ⟨w2.heap.size, 3, none⟩ = some (.func (.func 84) #[] #[]) := by simp [go_sem]
  generalize (w2.alloc (.cells #[.nilFunc, .func (.func 82) #[] #[], .func (.func 83) #[] #[], .func (.func 84) #[] #[], .func (.func 85) #[] #[], .func (.func 86) #[] #[], .nilFunc, .func (.func 87) #[] #[], .func (.func 88) #[] #[], .func (.func 89) #[] #[], .func (.func 90) #[] #[], .func (.func 91) #[] #[]] 112)) = W3 at *
  have hb13 := hb2.trans (hb3.mono hb2.size)
  have hbc3 := hbc.keep (hb13.block _ hbx)
  have HB := Lib.hid (hb0.trans (hb13.mono (Nat.le_of_lt hbx)))
  obtain ⟨c0, c1, c2, c3, c4⟩ := hbc3
  simp only [AT.k, AT.n, AT.x, AT.s, AT.a, AT.l, AT.cap, Nat.zero_add] at c0 c1 c2 c3 c4
  clear hb0 hb2 hb3 hb13 hbc
  have q2 := enc_nil
  (go_upto_region 3 with fail)
  go_region_with (go_at_call 84; refine (CK.out _ (by repeat (first | with_reducible exact HB.out | with_reducible refine Below.drew ?_))).mono ?_; rintro e w4 ⟨rfl, va4, vn4, vc4, ua4, un4, uc4, tw4, st4⟩)
  all_goals
    have HQ : Hid (BP N P w (.slice va vn vc) (.slice ua un uc) (.mk 3 n x s a cap l) out S d (.returned (.tuple #[])) w4) := Lib.hid ⟨rfl, va4, vn4, vc4, ua4, un4, uc4, tw4, st4.pre (by repeat (first | with_reducible exact HB.out | with_reducible refine Below.drew ?_))⟩
    clear tw4 st4
    go_wp2
    go_end0
    exact HQ.out
set_option maxHeartbeats 2000000 in
theorem begin_k4 {w : World} {N P vn vc un uc : Nat} {va ua : Option Addr} {out : List UInt8} {S : List GF} {d : Bool} (n x : Int) (s : List UInt8) (a : Option Addr) (cap : Nat) (l : List AT) (htw : TW w N P (.slice va vn vc) (.slice ua un uc) out S d) (hT : (AT.mk 4 n x s a cap l).In w N) (hz : Tz w) (hn : inW n) (hx : inW x) (hsz : out.length + s.length ≤ 1000000000) (hS : S.length ≤ 4194304) (hl : l.length ≤ 1048576) :
    Calls Tryd.prog 62 #[.pointer (some ⟨P, 0, none⟩), .agg #[.int .i64 4, .int .i64 n, .int .i64 x, .string ⟨s.toArray⟩, .slice a l.length cap]] w (BP N P w (.slice va vn vc) (.slice ua un uc) (.mk 4 n x s a cap l) out S d) := by
  have hb0 := vbox w (.cells #[.int .i64 4, .int .i64 n, .int .i64 x, .string ⟨s.toArray⟩, .slice a l.length cap] 29)
  have hbc : CellsAt (w.alloc (.cells #[.int .i64 4, .int .i64 n, .int .i64 x, .string ⟨s.toArray⟩, .slice a l.length cap] 29)) w.heap.size 0 (.mk 4 n x s a cap l) := by
    refine ⟨?_, ?_, ?_, ?_, ?_⟩ <;> simp [go_sem, AT.k, AT.n, AT.x, AT.s, AT.a, AT.l, AT.cap]
  have hPl := htw.lt
  have hnp := htw.np
  have CK := Lib.hid (fun (W : World) (hb : Below w.heap.size w W) => tw_k4 n x s a cap l (htw.blw hb) (hT.blw hb (by omega)) (hz.below hb) hn hx hsz hS hl)
  clear htw hT hz hn hx hsz hS hl
  go_enter Tryd.func62, Tryd.ntmps62
  (go_upto_region 1 with fail)
  generalize hW1 : (w.alloc (.cells #[.int .i64 4, .int .i64 n, .int .i64 x, .string ⟨s.toArray⟩, .slice a l.length cap] 29)) = W1 at *
  have hbx : w.heap.size < W1.heap.size := by rw [← hW1]; simp
  clear hW1
  go_wp2_with fail
  refine (encoders_any _).mono ?_
  rintro e w2 ⟨rfl, hb2⟩
  (go_upto_region 2 with fail)
  have hb3 := below_box w2 (.cells #[.nilFunc, .func (.func 82) #[] #[], .func (.func 83) #[] #[], .func (.func 84) #[] #[], .func (.func 85) #[] #[], .func (.func 86) #[] #[], .nilFunc, .func (.func 87) #[] #[], .func (.func 88) #[] #[], .func (.func 89) #[] #[], .func (.func 90) #[] #[], .func (.func 91) #[] #[]] 112)
  have ca : (w2.alloc (.cells #[.nilFunc, .func (.func 82) #[] #[], .func (.func 83) #[] #[], .func (.func 84) #[] #[], .func (.func 85) #[] #[], .func (.func 86) #[] #[], .nilFunc, .func (.func 87) #[] #[], .func (.func 88) #[] #[], .func (.func 89) #[] #[], .func (.func 90) #[] #[], .func (.func 91) #[] #[]] 112)).cell? ⟨w2.heap.size, 4, none⟩ = some (.func (.func 85) #[] #[]) := by simp [go_sem]
  generalize (w2.alloc (.cells #[.nilFunc, .func (.func 82) #[] #[], .func (.func 83) #[] #[], .func (.func 84) #[] #[], .func (.func 85) #[] #[], .func (.func 86) #[] #[], .nilFunc, .func (.func 87) #[] #[], .func (.func 88) #[] #[], .func (.func 89) #[] #[], .func (.func 90) #[] #[], .func (.func 91) #[] #[]] 112)) = W3 at *
  have hb13 := hb2.trans (hb3.mono hb2.size)
  have hbc3 := hbc.keep (hb13.block _ hbx)
  have HB := Lib.hid (hb0.trans (hb13.mono (Nat.le_of_lt hbx)))
  obtain ⟨c0, c1, c2, c3, c4⟩ := hbc3
  simp only [AT.k, AT.n, AT.x, AT.s, AT.a, AT.l, AT.cap, Nat.zero_add] at c0 c1 c2 c3 c4
  clear hb0 hb2 hb3 hb13 hbc
  have q2 := enc_nil
  (go_upto_region 3 with fail)
  go_region_with (go_at_call 85; refine (CK.out _ (by repeat (first | with_reducible exact HB.out | with_reducible refine Below.drew ?_))).mono ?_; rintro e w4 ⟨rfl, va4, vn4, vc4, ua4, un4, uc4, tw4, st4⟩)
  all_goals
    have HQ : Hid (BP N P w (.slice va vn vc) (.slice ua un uc) (.mk 4 n x s a cap l) out S d (.returned (.tuple #[])) w4) := Lib.hid ⟨rfl, va4, vn4, vc4, ua4, un4, uc4, tw4, st4.pre (by repeat (first | with_reducible exact HB.out | with_reducible refine Below.drew ?_))⟩
    clear tw4 st4
    go_wp2
    go_end0
    exact HQ.out
set_option maxHeartbeats 2000000 in
theorem begin_k5 {w : World} {N P vn vc un uc : Nat} {va ua : Option Addr} {out : List UInt8} {S : List GF} {d : Bool} (n x : Int) (s : List UInt8) (a : Option Addr) (cap : Nat) (l : List AT) (htw : TW w N P (.slice va vn vc) (.slice ua un uc) out S d) (hT : (AT.mk 5 n x s a cap l).In w N) (hz : Tz w) (hn : inW n) (hx : inW x) (hsz : out.length + s.length ≤ 1000000000) (hS : S.length ≤ 4194304) (hl : l.length ≤ 1048576) :
    Calls Tryd.prog 62 #[.pointer (some ⟨P, 0, none⟩), .agg #[.int .i64 5, .int .i64 n, .int .i64 x, .string ⟨s.toArray⟩, .slice a l.length cap]] w (BP N P w (.slice va vn vc) (.slice ua un uc) (.mk 5 n x s a cap l) out S d) := by
  have hb0 := vbox w (.cells #[.int .i64 5, .int .i64 n, .int .i64 x, .string ⟨s.toArray⟩, .slice a l.length cap] 29)
  have hbc : CellsAt (w.alloc (.cells #[.int .i64 5, .int .i64 n, .int .i64 x, .string ⟨s.toArray⟩, .slice a l.length cap] 29)) w.heap.size 0 (.mk 5 n x s a cap l) := by
    refine ⟨?_, ?_, ?_, ?_, ?_⟩ <;> simp [go_sem, AT.k, AT.n, AT.x, AT.s, AT.a, AT.l, AT.cap]
  have hPl := htw.lt
  have hnp := htw.np
  have CK := Lib.hid (fun (W : World) (hb : Below w.heap.size w W) => tw_k5 n x s a cap l (htw.blw hb) (hT.blw hb (by omega)) (hz.below hb) hn hx hsz hS hl)
  clear htw hT hz hn hx hsz hS hl
  go_enter Tryd.func62, Tryd.ntmps62
  (go_upto_region 1 with fail)
  generalize hW1 : (w.alloc (.cells #[.int .i64 5, .int .i64 n, .int .i64 x, .string ⟨s.toArray⟩, .slice a l.length cap] 29)) = W1 at *
  have hbx : w.heap.size < W1.heap.size := by rw [← hW1]; simp
  clear hW1
  go_wp2_with fail
  refine (encoders_any _).mono ?_
  rintro e w2 ⟨rfl, hb2⟩
  (go_upto_region 2 with fail)
  have hb3 := below_box w2 (.cells #[.nilFunc, .func (.func 82) #[] #[], .func (.func 83) #[] #[], .func (.func 84) #[] #[], .func (.func 85) #[] #[], .func (.func 86) #[] #[], .nilFunc, .func (.func 87) #[] #[], .func (.func 88) #[] #[], .func (.func 89) #[] #[], .func (.func 90) #[] #[], .func (.func 91) #[] #[]] 112)
  have ca : (w2.alloc (.cells #[.nilFunc, .func (.func 82) #[] #[], .func (.func 83) #[] #[], .func (.func 84) #[] #[], .func (.func 85) #[] #[], .func (.func 86) #[] #[], .nilFunc, .func (.func 87) #[] #[], .func (.func 88) #[] #[], .func (.func 89) #[] #[], .func (.func 90) #[] #[], .func (.func 91) #[] #[]] 112)).cell? ⟨w2.heap.size, 5, none⟩ = some (.func (.func 86) #[] #[]) := by simp [go_sem]
  generalize (w2.alloc (.cells #[.nilFunc, .func (.func 82) #[] #[], .func (.func 83) #[] #[], .func (.func 84) #[] #[], .func (.func 85) #[] #[], .func (.func 86) #[] #[], .nilFunc, .func (.func 87) #[] #[], .func (.func 88) #[] #[], .func (.func 89) #[] #[], .func (.func 90) #[] #[], .func (.func 91) #[] #[]] 112)) = W3 at *
  have hb13 := hb2.trans (hb3.mono hb2.size)
  have hbc3 := hbc.keep (hb13.block _ hbx)
  have HB := Lib.hid (hb0.trans (hb13.mono (Nat.le_of_lt hbx)))
  obtain ⟨c0, c1, c2, c3, c4⟩ := hbc3
  simp only [AT.k, AT.n, AT.x, AT.s, AT.a, AT.l, AT.cap, Nat.zero_add] at c0 c1 c2 c3 c4
  clear hb0 hb2 hb3 hb13 hbc
  have q2 := enc_nil
  (go_upto_region 3 with fail)
  go_region_with (go_at_call 86; refine (CK.out _ (by repeat (first | with_reducible exact HB.out | with_reducible refine Below.drew ?_))).mono ?_; rintro e w4 ⟨rfl, va4, vn4, vc4, ua4, un4, uc4, tw4, st4⟩)
  all_goals
    have HQ : Hid (BP N P w (.slice va vn vc) (.slice ua un uc) (.mk 5 n x s a cap l) out S d (.returned (.tuple #[])) w4) := Lib.hid ⟨rfl, va4, vn4, vc4, ua4, un4, uc4, tw4, st4.pre (by repeat (first | with_reducible exact HB.out | with_reducible refine Below.drew ?_))⟩
    clear tw4 st4
    go_wp2
    go_end0
    exact HQ.out
set_option maxHeartbeats 2000000 in
theorem begin_k7 {w : World} {N P vn vc un uc : Nat} {va ua : Option Addr} {out : List UInt8} {S : List GF} {d : Bool} (n x : Int) (s : List UInt8) (a : Option Addr) (cap : Nat) (l : List AT) (htw : TW w N P (.slice va vn vc) (.slice ua un uc) out S d) (hT : (AT.mk 7 n x s a cap l).In w N) (hz : Tz w) (hn : inW n) (hx : inW x) (hsz : out.length + s.length ≤ 1000000000) (hS : S.length ≤ 4194304) (hl : l.length ≤ 1048576) :
    Calls Tryd.prog 62 #[.pointer (some ⟨P, 0, none⟩), .agg #[.int .i64 7, .int .i64 n, .int .i64 x, .string ⟨s.toArray⟩, .slice a l.length cap]] w (BP N P w (.slice va vn vc) (.slice ua un uc) (.mk 7 n x s a cap l) out S d) := by
  have hb0 := vbox w (.cells #[.int .i64 7, .int .i64 n, .int .i64 x, .string ⟨s.toArray⟩, .slice a l.length cap] 29)
  have hbc : CellsAt (w.alloc (.cells #[.int .i64 7, .int .i64 n, .int .i64 x, .string ⟨s.toArray⟩, .slice a l.length cap] 29)) w.heap.size 0 (.mk 7 n x s a cap l) := by
    refine ⟨?_, ?_, ?_, ?_, ?_⟩ <;> simp [go_sem, AT.k, AT.n, AT.x, AT.s, AT.a, AT.l, AT.cap]
  have hPl := htw.lt
  have hnp := htw.np
  have CK := Lib.hid (fun (W : World) (hb : Below w.heap.size w W) => tw_k7 n x s a cap l (htw.blw hb) (hT.blw hb (by omega)) (hz.below hb) hn hx hsz hS hl)
  clear htw hT hz hn hx hsz hS hl
  go_enter Tryd.func62, Tryd.ntmps62
  (go_upto_region 1 with fail)
  generalize hW1 : (w.alloc (.cells #[.int .i64 7, .int .i64 n, .int .i64 x, .string ⟨s.toArray⟩, .slice a l.length cap] 29)) = W1 at *
  have hbx : w.heap.size < W1.heap.size := by rw [← hW1]; simp
  clear hW1
  go_wp2_with fail
  refine (encoders_any _).mono ?_
  rintro e w2 ⟨rfl, hb2⟩
  (go_upto_region 2 with fail)
  have hb3 := below_box w2 (.cells #[.nilFunc, .func (.func 82) #[] #[], .func (.func 83) #[] #[], .func (.func 84) #[] #[], .func (.func 85) #[] #[], .func (.func 86) #[] #[], .nilFunc, .func (.func 87) #[] #[], .func (.func 88) #[] #[], .func (.func 89) #[] #[], .func (.func 90) #[] #[], .func (.func 91) #[] #[]] 112)
  have ca : (w2.alloc (.cells #[.nilFunc, .func (.func 82) #[] #[], .func (.func 83) #[] #[], .func (.func 84) #[] #[], .func (.func 85) #[] #[], .func (.func 86) #[] #[], .nilFunc, .func (.func 87) #[] #[], .func (.func 88) #[] #[], .func (.func 89) #[] #[], .func (.func 90) #[] #[], .func (.func 91) #[] #[]] 112)).cell? ⟨w2.heap.size, 7, none⟩ = some (.func (.func 87) #[] #[]) := by simp [go_sem]
  generalize (w2.alloc (.cells #[.nilFunc, .func (.func 82) #[] #[], .func (.func 83) #[] #[], .func (.func 84) #[] #[], .func (.func 85) #[] #[], .func (.func 86) #[] #[], .nilFunc, .func (.func 87) #[] #[], .func (.func 88) #[] #[], .func (.func 89) #[] #[], .func (.func 90) #[] #[], .func (.func 91) #[] #[]] 112)) = W3 at *
  have hb13 := hb2.trans (hb3.mono hb2.size)
  have hbc3 := hbc.keep (hb13.block _ hbx)
  have HB := Lib.hid (hb0.trans (hb13.mono (Nat.le_of_lt hbx)))
  obtain ⟨c0, c1, c2, c3, c4⟩ := hbc3
  simp only [AT.k, AT.n, AT.x, AT.s, AT.a, AT.l, AT.cap, Nat.zero_add] at c0 c1 c2 c3 c4
  clear hb0 hb2 hb3 hb13 hbc
  have q2 := enc_nil
  (go_upto_region 3 with fail)
  go_region_with (go_at_call 87; refine (CK.out _ (by repeat (first | with_reducible exact HB.out | with_reducible refine Below.drew ?_))).mono ?_; rintro e w4 ⟨rfl, va4, vn4, vc4, ua4, un4, uc4, tw4, st4⟩)
  all_goals
    have HQ : Hid (BP N P w (.slice va vn vc) (.slice ua un uc) (.mk 7 n x s a cap l) out S d (.returned (.tuple #[])) w4) := Lib.hid ⟨rfl, va4, vn4, vc4, ua4, un4, uc4, tw4, st4.pre (by repeat (first | with_reducible exact HB.out | with_reducible refine Below.drew ?_))⟩
    clear tw4 st4
    go_wp2
    go_end0
    exact HQ.out
set_option maxHeartbeats 2000000 in
theorem begin_k8 {w : World} {N P vn vc un uc : Nat} {va ua : Option Addr} {out : List UInt8} {S : List GF} {d : Bool} (n x : Int) (s : List UInt8) (a : Option Addr) (cap : Nat) (l : List AT) (htw : TW w N P (.slice va vn vc) (.slice ua un uc) out S d) (hT : (AT.mk 8 n x s a cap l).In w N) (hz : Tz w) (hn : inW n) (hx : inW x) (hsz : out.length + s.length ≤ 1000000000) (hS : S.length ≤ 4194304) (hl : l.length ≤ 1048576) :
    Calls Tryd.prog 62 #[.pointer (some ⟨P, 0, none⟩), .agg #[.int .i64 8, .int .i64 n, .int .i64 x, .string ⟨s.toArray⟩, .slice a l.length cap]] w (BP N P w (.slice va vn vc) (.slice ua un uc) (.mk 8 n x s a cap l) out S d) := by
  have hb0 := vbox w (.cells #[.int .i64 8, .int .i64 n, .int .i64 x, .string ⟨s.toArray⟩, .slice a l.length cap] 29)
  have hbc : CellsAt (w.alloc (.cells #[.int .i64 8, .int .i64 n, .int .i64 x, .string ⟨s.toArray⟩, .slice a l.length cap] 29)) w.heap.size 0 (.mk 8 n x s a cap l) := by
    refine ⟨?_, ?_, ?_, ?_, ?_⟩ <;> simp [go_sem, AT.k, AT.n, AT.x, AT.s, AT.a, AT.l, AT.cap]
  have hPl := htw.lt
  have hnp := htw.np
  have CK := Lib.hid (fun (W : World) (hb : Below w.heap.size w W) => tw_k8 n x s a cap l (htw.blw hb) (hT.blw hb (by omega)) (hz.below hb) hn hx hsz hS hl)
  clear htw hT hz hn hx hsz hS hl
  go_enter Tryd.func62, Tryd.ntmps62
  (go_upto_region 1 with fail)
  generalize hW1 : (w.alloc (.cells #[.int .i64 8, .int .i64 n, .int .i64 x, .string ⟨s.toArray⟩, .slice a l.length cap] 29)) = W1 at *
  have hbx : w.heap.size < W1.heap.size := by rw [← hW1]; simp
  clear hW1
  go_wp2_with fail
  refine (encoders_any _).mono ?_
  rintro e w2 ⟨rfl, hb2⟩
  (go_upto_region 2 with fail)
  have hb3 := below_box w2 (.cells #[.nilFunc, .func (.func 82) #[] #[], .func (.func 83) #[] #[], .func (.func 84) #[] #[], .func (.func 85) #[] #[], .func (.func 86) #[] #[], .nilFunc, .func (.func 87) #[] #[], .func (.func 88) #[] #[], .func (.func 89) #[] #[], .func (.func 90) #[] #[], .func (.func 91) #[] #[]] 112)
  have ca : (w2.alloc (.cells #[.nilFunc, .func (.func 82) #[] #[], .func (.func 83) #[] #[], .func (.func 84) #[] #[], .func (.func 85) #[] #[], .func (.func 86) #[] #[], .nilFunc, .func (.func 87) #[] #[], .func (.func 88) #[] #[], .func (.func 89) #[] #[], .func (.func 90) #[] #[], .func (.func 91) #[] #[]] 112)).cell? ⟨w2.heap.size, 8, none⟩ = some (.func (.func 88) #[] #[]) := by simp [go_sem]
  generalize (w2.alloc (.cells #[.nilFunc, .func (.func 82) #[] #[], .func (.func 83) #[] #[], .func (.func 84) #[] #[], .func (.func 85) #[] #[], .func (.func 86) #[] #[], .nilFunc, .func (.func 87) #[] #[], .func (.func 88) #[] #[], .func (.func 89) #[] #[], .func (.func 90) #[] #[], .func (.func 91) #[] #[]] 112)) = W3 at *
  have hb13 := hb2.trans (hb3.mono hb2.size)
  have hbc3 := hbc.keep (hb13.block _ hbx)
  have HB := Lib.hid (hb0.trans (hb13.mono (Nat.le_of_lt hbx)))
  obtain ⟨c0, c1, c2, c3, c4⟩ := hbc3
  simp only [AT.k, AT.n, AT.x, AT.s, AT.a, AT.l, AT.cap, Nat.zero_add] at c0 c1 c2 c3 c4
  clear hb0 hb2 hb3 hb13 hbc
  have q2 := enc_nil
  (go_upto_region 3 with fail)
  go_region_with (go_at_call 88; refine (CK.out _ (by repeat (first | with_reducible exact HB.out | with_reducible refine Below.drew ?_))).mono ?_; rintro e w4 ⟨rfl, va4, vn4, vc4, ua4, un4, uc4, tw4, st4⟩)
  all_goals
    have HQ : Hid (BP N P w (.slice va vn vc) (.slice ua un uc) (.mk 8 n x s a cap l) out S d (.returned (.tuple #[])) w4) := Lib.hid ⟨rfl, va4, vn4, vc4, ua4, un4, uc4, tw4, st4.pre (by repeat (first | with_reducible exact HB.out | with_reducible refine Below.drew ?_))⟩
    clear tw4 st4
    go_wp2
    go_end0
    exact HQ.out
set_option maxHeartbeats 2000000 in
theorem begin_k9 {w : World} {N P vn vc un uc : Nat} {va ua : Option Addr} {out : List UInt8} {S : List GF} {d : Bool} (n x : Int) (s : List UInt8) (a : Option Addr) (cap : Nat) (l : List AT) (htw : TW w N P (.slice va vn vc) (.slice ua un uc) out S d) (hT : (AT.mk 9 n x s a cap l).In w N) (hz : Tz w) (hn : inW n) (hx : inW x) (hsz : out.length + s.length ≤ 1000000000) (hS : S.length ≤ 4194304) (hl : l.length ≤ 1048576) :
    Calls Tryd.prog 62 #[.pointer (some ⟨P, 0, none⟩), .agg #[.int .i64 9, .int .i64 n, .int .i64 x, .string ⟨s.toArray⟩, .slice a l.length cap]] w (BP N P w (.slice va vn vc) (.slice ua un uc) (.mk 9 n x s a cap l) out S d) := by
  have hb0 := vbox w (.cells #[.int .i64 9, .int .i64 n, .int .i64 x, .string ⟨s.toArray⟩, .slice a l.length cap] 29)
  have hbc : CellsAt (w.alloc (.cells #[.int .i64 9, .int .i64 n, .int .i64 x, .string ⟨s.toArray⟩, .slice a l.length cap] 29)) w.heap.size 0 (.mk 9 n x s a cap l) := by
    refine ⟨?_, ?_, ?_, ?_, ?_⟩ <;> simp [go_sem, AT.k, AT.n, AT.x, AT.s, AT.a, AT.l, AT.cap]
  have hPl := htw.lt
  have hnp := htw.np
  have CK := Lib.hid (fun (W : World) (hb : Below w.heap.size w W) => tw_k9 n x s a cap l (htw.blw hb) (hT.blw hb (by omega)) (hz.below hb) hn hx hsz hS hl)
  clear htw hT hz hn hx hsz hS hl
  go_enter Tryd.func62, Tryd.ntmps62
  (go_upto_region 1 with fail)
  generalize hW1 : (w.alloc (.cells #[.int .i64 9, .int .i64 n, .int .i64 x, .string ⟨s.toArray⟩, .slice a l.length cap] 29)) = W1 at *
  have hbx : w.heap.size < W1.heap.size := by rw [← hW1]; simp
  clear hW1
  go_wp2_with fail
  refine (encoders_any _).mono ?_
  rintro e w2 ⟨rfl, hb2⟩
  (go_upto_region 2 with fail)
  have hb3 := below_box w2 (.cells #[.nilFunc, .func (.func 82) #[] #[], .func (.func 83) #[] #[], .func (.func 84) #[] #[], .func (.func 85) #[] #[], .func (.func 86) #[] #[], .nilFunc, .func (.func 87) #[] #[], .func (.func 88) #[] #[], .func (.func 89) #[] #[], .func (.func 90) #[] #[], .func (.func 91) #[] #[]] 112)
  have ca : (w2.alloc (.cells #[.nilFunc, .func (.func 82) #[] #[], .func (.func 83) #[] #[], .func (.func 84) #[] #[], .func (.func 85) #[] #[], .func (.func 86) #[] #[], .nilFunc, .func (.func 87) #[] #[], .func (.func 88) #[] #[], .func (.func 89) #[] #[], .func (.func 90) #[] #[], .func (.func 91) #[] #[]] 112)).cell? ⟨w2.heap.size, 9, none⟩ = some (.func (.func 89) #[] #[]) := by simp [go_sem]
  generalize (w2.alloc (.cells #[.nilFunc, .func (.func 82) #[] #[], .func (.func 83) #[] #[], .func (.func 84) #[] #[], .func (.func 85) #[] #[], .func (.func 86) #[] #[], .nilFunc, .func (.func 87) #[] #[], .func (.func 88) #[] #[], .func (.func 89) #[] #[], .func (.func 90) #[] #[], .func (.func 91) #[] #[]] 112)) = W3 at *
  have hb13 := hb2.trans (hb3.mono hb2.size)
  have hbc3 := hbc.keep (hb13.block _ hbx)
  have HB := Lib.hid (hb0.trans (hb13.mono (Nat.le_of_lt hbx)))
  obtain ⟨c0, c1, c2, c3, c4⟩ := hbc3
  simp only [AT.k, AT.n, AT.x, AT.s, AT.a, AT.l, AT.cap, Nat.zero_add] at c0 c1 c2 c3 c4
  clear hb0 hb2 hb3 hb13 hbc
  have q2 := enc_nil
  (go_upto_region 3 with fail)
  go_region_with (go_at_call 89; refine (CK.out _ (by repeat (first | with_reducible exact HB.out | with_reducible refine Below.drew ?_))).mono ?_; rintro e w4 ⟨rfl, va4, vn4, vc4, ua4, un4, uc4, tw4, st4⟩)
  all_goals
    have HQ : Hid (BP N P w (.slice va vn vc) (.slice ua un uc) (.mk 9 n x s a cap l) out S d (.returned (.tuple #[])) w4) := Lib.hid ⟨rfl, va4, vn4, vc4, ua4, un4, uc4, tw4, st4.pre (by repeat (first | with_reducible exact HB.out | with_reducible refine Below.drew ?_))⟩
    clear tw4 st4
    go_wp2
    go_end0
    exact HQ.out
set_option maxHeartbeats 2000000 in
theorem begin_k10 {w : World} {N P vn vc un uc : Nat} {va ua : Option Addr} {out : List UInt8} {S : List GF} {d : Bool} (n x : Int) (s : List UInt8) (a : Option Addr) (cap : Nat) (l : List AT) (htw : TW w N P (.slice va vn vc) (.slice ua un uc) out S d) (hT : (AT.mk 10 n x s a cap l).In w N) (hz : Tz w) (hn : inW n) (hx : inW x) (hsz : out.length + s.length ≤ 1000000000) (hS : S.length ≤ 4194304) (hl : l.length ≤ 1048576) :
    Calls Tryd.prog 62 #[.pointer (some ⟨P, 0, none⟩), .agg #[.int .i64 10, .int .i64 n, .int .i64 x, .string ⟨s.toArray⟩, .slice a l.length cap]] w (BP N P w (.slice va vn vc) (.slice ua un uc) (.mk 10 n x s a cap l) out S d) := by
  have hb0 := vbox w (.cells #[.int .i64 10, .int .i64 n, .int .i64 x, .string ⟨s.toArray⟩, .slice a l.length cap] 29)
  have hbc : CellsAt (w.alloc (.cells #[.int .i64 10, .int .i64 n, .int .i64 x, .string ⟨s.toArray⟩, .slice a l.length cap] 29)) w.heap.size 0 (.mk 10 n x s a cap l) := by
    refine ⟨?_, ?_, ?_, ?_, ?_⟩ <;> simp [go_sem, AT.k, AT.n, AT.x, AT.s, AT.a, AT.l, AT.cap]
  have hPl := htw.lt
  have hnp := htw.np
  have CK := Lib.hid (fun (W : World) (hb : Below w.heap.size w W) => tw_k10 n x s a cap l (htw.blw hb) (hT.blw hb (by omega)) (hz.below hb) hn hx hsz hS hl)
  clear htw hT hz hn hx hsz hS hl
  go_enter Tryd.func62, Tryd.ntmps62
  (go_upto_region 1 with fail)
  generalize hW1 : (w.alloc (.cells #[.int .i64 10, .int .i64 n, .int .i64 x, .string ⟨s.toArray⟩, .slice a l.length cap] 29)) = W1 at *
  have hbx : w.heap.size < W1.heap.size := by rw [← hW1]; simp
  clear hW1
  go_wp2_with fail
  refine (encoders_any _).mono ?_
  rintro e w2 ⟨rfl, hb2⟩
  (go_upto_region 2 with fail)
  have hb3 := below_box w2 (.cells #[.nilFunc, .func (.func 82) #[] #[], .func (.func 83) #[] #[], .func (.func 84) #[] #[], .func (.func 85) #[] #[], .func (.func 86) #[] #[], .nilFunc, .func (.func 87) #[] #[], .func (.func 88) #[] #[], .func (.func 89) #[] #[], .func (.func 90) #[] #[], .func (.func 91) #[] #[]] 112)
  have ca : (w2.alloc (.cells #[.nilFunc, .func (.func 82) #[] #[], .func (.func 83) #[] #[], .func (.func 84) #[] #[], .func (.func 85) #[] #[], .func (.func 86) #[] #[], .nilFunc, .func (.func 87) #[] #[], .func (.func 88) #[] #[], .func (.func 89) #[] #[], .func (.func 90) #[] #[], .func (.func 91) #[] #[]] 112)).cell? ⟨w2.heap.size, 10, none⟩ = some (.func (.func 90) #[] #[]) := by simp [go_sem]
  generalize (w2.alloc (.cells #[.nilFunc, .func (.func 82) #[] #[], .func (.func 83) #[] #[], .func (.func 84) #[] #[], .func (.func 85) #[] #[], .func (.func 86) #[] #[], .nilFunc, .func (.func 87) #[] #[], .func (.func 88) #[] #[], .func (.func 89) #[] #[], .func (.func 90) #[] #[], .func (.func 91) #[] #[]] 112)) = W3 at *
  have hb13 := hb2.trans (hb3.mono hb2.size)
  have hbc3 := hbc.keep (hb13.block _ hbx)
  have HB := Lib.hid (hb0.trans (hb13.mono (Nat.le_of_lt hbx)))
  obtain ⟨c0, c1, c2, c3, c4⟩ := hbc3
  simp only [AT.k, AT.n, AT.x, AT.s, AT.a, AT.l, AT.cap, Nat.zero_add] at c0 c1 c2 c3 c4
  clear hb0 hb2 hb3 hb13 hbc
  have q2 := enc_nil
  (go_upto_region 3 with fail)
  go_region_with (go_at_call 90; refine (CK.out _ (by repeat (first | with_reducible exact HB.out | with_reducible refine Below.drew ?_))).mono ?_; rintro e w4 ⟨rfl, va4, vn4, vc4, ua4, un4, uc4, tw4, st4⟩)
  all_goals
    have HQ : Hid (BP N P w (.slice va vn vc) (.slice ua un uc) (.mk 10 n x s a cap l) out S d (.returned (.tuple #[])) w4) := Lib.hid ⟨rfl, va4, vn4, vc4, ua4, un4, uc4, tw4, st4.pre (by repeat (first | with_reducible exact HB.out | with_reducible refine Below.drew ?_))⟩
    clear tw4 st4
    go_wp2
    go_end0
    exact HQ.out
set_option maxHeartbeats 2000000 in
theorem begin_k11 {w : World} {N P vn vc un uc : Nat} {va ua : Option Addr} {out : List UInt8} {S : List GF} {d : Bool} (n x : Int) (s : List UInt8) (a : Option Addr) (cap : Nat) (l : List AT) (htw : TW w N P (.slice va vn vc) (.slice ua un uc) out S d) (hT : (AT.mk 11 n x s a cap l).In w N) (hz : Tz w) (hn : inW n) (hx : inW x) (hsz : out.length + s.length ≤ 1000000000) (hS : S.length ≤ 4194304) (hl : l.length ≤ 1048576) :
    Calls Tryd.prog 62 #[.pointer (some ⟨P, 0, none⟩), .agg #[.int .i64 11, .int .i64 n, .int .i64 x, .string ⟨s.toArray⟩, .slice a l.length cap]] w (BP N P w (.slice va vn vc) (.slice ua un uc) (.mk 11 n x s a cap l) out S d) := by
  have hb0 := vbox w (.cells #[.int .i64 11, .int .i64 n, .int .i64 x, .string ⟨s.toArray⟩, .slice a l.length cap] 29)
  have hbc : CellsAt (w.alloc (.cells #[.int .i64 11, .int .i64 n, .int .i64 x, .string ⟨s.toArray⟩, .slice a l.length cap] 29)) w.heap.size 0 (.mk 11 n x s a cap l) := by
    refine ⟨?_, ?_, ?_, ?_, ?_⟩ <;> simp [go_sem, AT.k, AT.n, AT.x, AT.s, AT.a, AT.l, AT.cap]
  have hPl := htw.lt
  have hnp := htw.np
  have CK := Lib.hid (fun (W : World) (hb : Below w.heap.size w W) => tw_k11 n x s a cap l (htw.blw hb) (hT.blw hb (by omega)) (hz.below hb) hn hx hsz hS hl)
  clear htw hT hz hn hx hsz hS hl
  go_enter Tryd.func62, Tryd.ntmps62
  (go_upto_region 1 with fail)
  generalize hW1 : (w.alloc (.cells #[.int .i64 11, .int .i64 n, .int .i64 x, .string ⟨s.toArray⟩, .slice a l.length cap] 29)) = W1 at *
  have hbx : w.heap.size < W1.heap.size := by rw [← hW1]; simp
  clear hW1
  go_wp2_with fail
  refine (encoders_any _).mono ?_
  rintro e w2 ⟨rfl, hb2⟩
  (go_upto_region 2 with fail)
  have hb3 := below_box w2 (.cells #[.nilFunc, .func (.func 82) #[] #[], .func (.func 83) #[] #[], .func (.func 84) #[] #[], .func (.func 85) #[] #[], .func (.func 86) #[] #[], .nilFunc, .func (.func 87) #[] #[], .func (.func 88) #[] #[], .func (.func 89) #[] #[], .func (.func 90) #[] #[], .func (.func 91) #[] #[]] 112)
  have ca : (w2.alloc (.cells #[.nilFunc, .func (.func 82) #[] #[], .func (.func 83) #[] #[], .func (.func 84) #[] #[], .func (.func 85) #[] #[], .func (.func 86) #[] #[], .nilFunc, .func (.func 87) #[] #[], .func (.func 88) #[] #[], .func (.func 89) #[] #[], .func (.func 90) #[] #[], .func (.func 91) #[] #[]] 112)).cell? ⟨w2.heap.size, 11, none⟩ = some (.func (.func 91) #[] #[]) := by simp [go_sem]
  generalize (w2.alloc (.cells #[.nilFunc, .func (.func 82) #[] #[], .func (.func 83) #[] #[], .func (.func 84) #[] #[], .func (.func 85) #[] #[], .func (.func 86) #[] #[], .nilFunc, .func (.func 87) #[] #[], .func (.func 88) #[] #[], .func (.func 89) #[] #[], .func (.func 90) #[] #[], .func (.func 91) #[] #[]] 112)) = W3 at *
  have hb13 := hb2.trans (hb3.mono hb2.size)
  have hbc3 := hbc.keep (hb13.block _ hbx)
  have HB := Lib.hid (hb0.trans (hb13.mono (Nat.le_of_lt hbx)))
  obtain ⟨c0, c1, c2, c3, c4⟩ := hbc3
  simp only [AT.k, AT.n, AT.x, AT.s, AT.a, AT.l, AT.cap, Nat.zero_add] at c0 c1 c2 c3 c4
  clear hb0 hb2 hb3 hb13 hbc
  have q2 := enc_nil
  (go_upto_region 3 with fail)
  go_region_with (go_at_call 91; refine (CK.out _ (by repeat (first | with_reducible exact HB.out | with_reducible refine Below.drew ?_))).mono ?_; rintro e w4 ⟨rfl, va4, vn4, vc4, ua4, un4, uc4, tw4, st4⟩)
  all_goals
    have HQ : Hid (BP N P w (.slice va vn vc) (.slice ua un uc) (.mk 11 n x s a cap l) out S d (.returned (.tuple #[])) w4) := Lib.hid ⟨rfl, va4, vn4, vc4, ua4, un4, uc4, tw4, st4.pre (by repeat (first | with_reducible exact HB.out | with_reducible refine Below.drew ?_))⟩
    clear tw4 st4
    go_wp2
    go_end0
    exact HQ.out
set_option maxHeartbeats 2000000 in
theorem begin_no {w : World} {N P vn vc un uc : Nat} {va ua : Option Addr} {out : List UInt8} {S : List GF} {d : Bool} (k n x : Int) (s : List UInt8) (a : Option Addr) (cap : Nat) (l : List AT) (hk : (k < 1 ∨ 11 < k) ∨ k = 6) (htw : TW w N P (.slice va vn vc) (.slice ua un uc) out S d) :
    Calls Tryd.prog 62 #[.pointer (some ⟨P, 0, none⟩), .agg #[.int .i64 k, .int .i64 n, .int .i64 x, .string ⟨s.toArray⟩, .slice a l.length cap]] w (BP N P w (.slice va vn vc) (.slice ua un uc) (.mk k n x s a cap l) out S d) := by
  have hb0 := vbox w (.cells #[.int .i64 k, .int .i64 n, .int .i64 x, .string ⟨s.toArray⟩, .slice a l.length cap] 29)
  have hbc : CellsAt (w.alloc (.cells #[.int .i64 k, .int .i64 n, .int .i64 x, .string ⟨s.toArray⟩, .slice a l.length cap] 29)) w.heap.size 0 (.mk k n x s a cap l) := by
    refine ⟨?_, ?_, ?_, ?_, ?_⟩ <;> simp [go_sem, AT.k, AT.n, AT.x, AT.s, AT.a, AT.l, AT.cap]
  have HH := Lib.hid (fun (W : World) (hb : Below w.heap.size w W) => bp_none (T := .mk k n x s a cap l) (w := w) (hd1_no hk) (opn1_no (by show k ≠ 9; omega) (by show k ≠ 10; omega) (by show k ≠ 11; omega)) (htw.blw hb) (Stp.of_below hb))
  clear htw
  go_enter Tryd.func62, Tryd.ntmps62
  (go_upto_region 1 with fail)
  generalize hW1 : (w.alloc (.cells #[.int .i64 k, .int .i64 n, .int .i64 x, .string ⟨s.toArray⟩, .slice a l.length cap] 29)) = W1 at *
  have hbx : w.heap.size < W1.heap.size := by rw [← hW1]; simp
  clear hW1
  go_wp2_with fail
  refine (encoders_any _).mono ?_
  rintro e w2 ⟨rfl, hb2⟩
  (go_upto_region 2 with fail)
  have hb3 := below_box w2 (.cells #[.nilFunc, .func (.func 82) #[] #[], .func (.func 83) #[] #[], .func (.func 84) #[] #[], .func (.func 85) #[] #[], .func (.func 86) #[] #[], .nilFunc, .func (.func 87) #[] #[], .func (.func 88) #[] #[], .func (.func 89) #[] #[], .func (.func 90) #[] #[], .func (.func 91) #[] #[]] 112)
  have ca0 : (w2.alloc (.cells #[.nilFunc, .func (.func 82) #[] #[], .func (.func 83) #[] #[], .func (.func 84) #[] #[], .func (.func 85) #[] #[], .func (.func 86) #[] #[], .nilFunc, .func (.func 87) #[] #[], .func (.func 88) #[] #[], .func (.func 89) #[] #[], .func (.func 90) #[] #[], .func (.func 91) #[] #[]] 112)).cell? ⟨w2.heap.size, 0, none⟩ = some .nilFunc := by simp [go_sem]
  have ca6 : (w2.alloc (.cells #[.nilFunc, .func (.func 82) #[] #[], .func (.func 83) #[] #[], .func (.func 84) #[] #[], .func (.func 85) #[] #[], .func (.func 86) #[] #[], .nilFunc, .func (.func 87) #[] #[], .func (.func 88) #[] #[], .func (.func 89) #[] #[], .func (.func 90) #[] #[], .func (.func 91) #[] #[]] 112)).cell? ⟨w2.heap.size, 6, none⟩ = some .nilFunc := by simp [go_sem]
  generalize (w2.alloc (.cells #[.nilFunc, .func (.func 82) #[] #[], .func (.func 83) #[] #[], .func (.func 84) #[] #[], .func (.func 85) #[] #[], .func (.func 86) #[] #[], .nilFunc, .func (.func 87) #[] #[], .func (.func 88) #[] #[], .func (.func 89) #[] #[], .func (.func 90) #[] #[], .func (.func 91) #[] #[]] 112)) = W3 at *
  have hb13 := hb2.trans (hb3.mono hb2.size)
  have hbc3 := hbc.keep (hb13.block _ hbx)
  have HQ := Lib.hid (HH.out W3 (hb0.trans (hb13.mono (Nat.le_of_lt hbx))))
  obtain ⟨c0, c1, c2, c3, c4⟩ := hbc3
  simp only [AT.k, AT.n, AT.x, AT.s, AT.a, AT.l, AT.cap, Nat.zero_add] at c0 c1 c2 c3 c4
  clear hb0 hb2 hb3 hb13 hbc
  have q2 := enc_none
  have hcase : k < 0 ∨ (0 ≤ k ∧ 12 ≤ k) ∨ k = 0 ∨ k = 6 := by omega
  rcases hcase with h | ⟨h, h'⟩ | rfl | rfl
  · clear hk
    go_wp2
    go_end0
    exact HQ.out
  · have h2 : ¬ k < 0 := by omega
    clear hk
    go_wp2
    go_end0
    exact HQ.out
  · clear hk
    go_wp2
    go_end0
    exact HQ.out
  · clear hk
    go_wp2
    go_end0
    exact HQ.out
/-- the writer begins a tree -/
theorem begin_any {w : World} {N P vn vc un uc : Nat} {va ua : Option Addr} {out : List UInt8} {S : List GF} {d : Bool} (T : AT) (htw : TW w N P (.slice va vn vc) (.slice ua un uc) out S d) (hT : T.In w N) (hz : Tz w) (hwf : T.pt.Wf) (hsz : out.length + T.s.length ≤ 1000000000) (hS : S.length ≤ 4194304) (hl : T.l.length ≤ 1048576) :
    Calls Tryd.prog 62 #[.pointer (some ⟨P, 0, none⟩), T.val] w (BP N P w (.slice va vn vc) (.slice ua un uc) T out S d) := by
  obtain ⟨k, n, x, s, a, cap, l⟩ := T
  have hr : inW n ∧ inW x := by
    cases hwf with
    | mk _ h2 h3 _ _ _ => exact ⟨h2, h3⟩
  rcases kinds k with hk | rfl | rfl | rfl | rfl | rfl | rfl | rfl | rfl | rfl | rfl
  · exact begin_no k n x s a cap l hk htw
  · exact begin_k1 n x s a cap l htw hT hz hr.1 hr.2 hsz hS hl
  · exact begin_k2 n x s a cap l htw hT hz hr.1 hr.2 hsz hS hl
  · exact begin_k3 n x s a cap l htw hT hz hr.1 hr.2 hsz hS hl
  · exact begin_k4 n x s a cap l htw hT hz hr.1 hr.2 hsz hS hl
  · exact begin_k5 n x s a cap l htw hT hz hr.1 hr.2 hsz hS hl
  · exact begin_k7 n x s a cap l htw hT hz hr.1 hr.2 hsz hS hl
  · exact begin_k8 n x s a cap l htw hT hz hr.1 hr.2 hsz hS hl
  · exact begin_k9 n x s a cap l htw hT hz hr.1 hr.2 hsz hS hl
  · exact begin_k10 n x s a cap l htw hT hz hr.1 hr.2 hsz hS hl
  · exact begin_k11 n x s a cap l htw hT hz hr.1 hr.2 hsz hS hl
end Go.Proofs.YtilgncebhgplaaaDoor
