/- Marks that go on behind others. -/
import Derived.Test.YtgfebmnlcihpnaaMarkLaw
namespace Go.Proofs.Ytgfebmnlcihpnaa
open Go.RowKit
theorem mark_from2 (X : AT) (w : World) (B c : Nat) (h : X.Own w B) (hnd : X.blks.Nodup) (hb : X.pt.cnt ≤ 2097152) (h1 : 1 ≤ c) (hc : c ≤ 100000000) :
    Calls Try.prog 66 #[X.val, .int .i64 (c : Nat)] w fun e w' => (e = .returned (.int .i64 (c + 4 * PT.cntL (AT.ptL X.l) : Nat)) ∧ True) ∧ OnlyBs X.blks w w' := by
  refine (markVal_any X w B c h hnd h1 (by omega)).mono fun e w' hp => ?_
  exact ⟨⟨hp.1, trivial⟩, hp.2.2⟩
end Go.Proofs.Ytgfebmnlcihpnaa
