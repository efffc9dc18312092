/- NamesOf of the program. -/
import Derived.Test.YtpkmlfmkgodhkaaNames
import Derived.Test.YtpkmlfmkgodhkaaSorted
import Derived.Test.YtpkmlfmkgodhkaaCopyImpl
namespace Go.Proofs.Ytpkmlfmkgodhkaa
open Go.RowKit
set_option maxRecDepth 100000
theorem evens_sub {l : List PT} : (evens l).length + PT.szL (evens l) ≤ l.length + PT.szL l := by
  induction l using evens.induct with
  | case1 => simp [evens]
  | case2 => simp [evens]
  | case3 x y l ih => simp only [evens, List.length_cons, PT.szL] at *; omega
theorem names_sz (p : PT) : p.names.length + PT.szL p.names ≤ p.sz := by
  obtain ⟨k, n, x, s, l⟩ := p
  simp only [PT.names, PT.sz]
  split
  · have := evens_sub (l := l); omega
  · simp [PT.szL]
theorem namesof_impl (T : AT) (w : World) (B0 : Nat) (hown : T.Own w B0) (hsz : T.pt.sz ≤ 1048576) : Calls Try.prog 51 #[T.val] w (FreshL w T.pt.names) := by
  have hll : T.l.length ≤ 1048576 := by have := len_le_sz T; omega
  have HNC := Lib.hid (fun (w1 : World) (hb : Below w.heap.size w w1) => names_impl T w1 w.heap.size (hown.in.blw hb (Nat.le_refl _)) hll hb.size)
  have hle : ∀ (w1 : World), Below w.heap.size w w1 → ∀ t ∈ T.names, t.Own w1 0 := fun w1 hb t ht => ((hown.l'.sub t (names_mem ht)).blw hb).base (Nat.zero_le _)
  have HLE := Lib.hid hle
  have hns := names_sz T.pt
  rw [← names_pt T] at hns ⊢
  rw [AT.ptL_length] at hns
  have HLV := Lib.hid (fun (w1 : World) (a : Option Addr) (cap : Nat) (h : OwnL w1 0 a cap T.names) => listval_impl T.names (by omega) w1 0 a cap h)
  clear hown hsz hll hle hns
  show Calls Try.prog 51 #[.agg #[.int .i64 T.k, .int .i64 T.n, .int .i64 T.x, .string ⟨T.s.toArray⟩, .slice T.a T.l.length T.cap]] w _
  generalize T.names = ns at *
  go_enter Try.func51, Try.ntmps51
  go_wp2_with fail
  have hb0 := vbox w (.cells #[.int .i64 T.k, .int .i64 T.n, .int .i64 T.x, .string ⟨T.s.toArray⟩, .slice T.a T.l.length T.cap] 26)
  refine (HNC.out _ hb0).mono ?_
  rintro e w1 ⟨a1, cap1, rfl, hrow, hb1⟩
  have HB1 := Lib.hid (hb0.trans (hb1.mono hb0.size))
  have HO : Hid (OwnL w1 0 a1 cap1 ns) := Lib.hid ⟨own_base' hrow.row (Nat.zero_le _), HLE.out w1 HB1.out⟩
  clear hb0 hb1 hrow
  go_wp2_with fail
  refine (HLV.out w1 a1 cap1 HO.out).mono ?_
  rintro e w2 ⟨V, hp, rfl, ho, hn, hb2⟩
  have HP := Lib.hid hp
  have HOV := Lib.hid ho
  have HN := Lib.hid hn
  have HB2 := Lib.hid (HB1.out.trans (hb2.mono HB1.out.size))
  have hfd : ∀ W : World, (Instr.field 26 (.agg #[.int .i64 V.k, .int .i64 V.n, .int .i64 V.x, .string ⟨V.s.toArray⟩, .slice V.a V.l.length V.cap]) 4).run Try.prog W = .ok (.slice V.a V.l.length V.cap) W := fun W => by kernel_rfl
  clear hp ho hn hb2
  go_wp2
  go_ret
  refine ⟨V.a, V.cap, V.l, ?_, rfl, (HOV.out.base HB1.out.size).l', by rw [← AT.blks_eq]; exact HN.out, HB2.out⟩
  have h := HP.out
  cases V
  simp only [AT.pt, PT.mk.injEq] at h
  exact h.2.2.2.2
end Go.Proofs.Ytpkmlfmkgodhkaa
