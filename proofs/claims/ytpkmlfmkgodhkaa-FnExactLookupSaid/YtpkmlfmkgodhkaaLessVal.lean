/- LessVal of the program. -/
import Derived.Test.YtpkmlfmkgodhkaaCmpTrees
namespace Go.Proofs.Ytpkmlfmkgodhkaa
open Go.RowKit
set_option maxRecDepth 100000
theorem lessval_impl (T U : AT) (w : World) (N : Nat) (hwf : T.pt.Wf) (hwf2 : U.pt.Wf) (hin : T.In w N) (hin2 : U.In w N) (hN : N ≤ w.heap.size) (hsz : T.pt.sz ≤ 2097152) : Calls Try.prog 41 #[T.val, U.val] w fun e w' => e = .returned (.bool (T.pt.less U.pt)) ∧ Below w.heap.size w w' := by
  have HC := Lib.hid (fun (w1 : World) (hb : Below w.heap.size w w1) => treesN T U w1 N hwf hwf2 (hin.blw hb hN) (hin2.blw hb hN) (Nat.le_trans hN hb.size) hsz)
  have hl : T.pt.less U.pt = decide (T.pt.cmp numV U.pt < 0) := rfl
  rw [hl]
  generalize T.pt.cmp numV U.pt = r at *
  clear hin hin2 hwf hwf2 hsz
  show Calls Try.prog 41 #[.agg #[.int .i64 T.k, .int .i64 T.n, .int .i64 T.x, .string ⟨T.s.toArray⟩, .slice T.a T.l.length T.cap], .agg #[.int .i64 U.k, .int .i64 U.n, .int .i64 U.x, .string ⟨U.s.toArray⟩, .slice U.a U.l.length U.cap]] w _
  go_enter Try.func41, Try.ntmps41
  go_wp2_with fail
  refine (HC.out _ (two' _ _ _)).mono ?_
  rintro e w1 ⟨rfl, hb1⟩
  have HB := Lib.hid ((two' w (.cells #[.int .i64 T.k, .int .i64 T.n, .int .i64 T.x, .string ⟨T.s.toArray⟩, .slice T.a T.l.length T.cap] 26) (.cells #[.int .i64 U.k, .int .i64 U.n, .int .i64 U.x, .string ⟨U.s.toArray⟩, .slice U.a U.l.length U.cap] 26)).trans (hb1.mono (by simp; omega)))
  clear hb1
  go_wp2
  go_ret
  exact ⟨rfl, HB.out⟩
end Go.Proofs.Ytpkmlfmkgodhkaa
