/- The model's ReadNumber, from the point on. -/
import Derived.Test.YtmjlbglnlpfadaaDoorReadExp
namespace Go.Proofs.YtmjlbglnlpfadaaDoor
open Go.RowKit
set_option maxRecDepth 100000 in
set_option maxHeartbeats 8000000 in
theorem read_point (l : List UInt8) (i : Nat) (m : Num) (w : World) (b : Nat) (neg : Bool) (W : List UInt8) (sg : Int) (hl : l.length ≤ 1048576) (HM : Hid (m = readN l i)) (hsg : Hid (sg = if neg = true then -1 else 1))
    (hbL : (b : Int) ≤ l.length) (hWI : (W.length : Int) ≤ l.length) (hp2 : Hid (parts l i = partsF l neg W b)) (hwd : Hid (∀ c ∈ W, isD c = true))
    (a : Act) (ha : a = rdF (slot a)) (h0 : slot a 0 = .string ⟨l.toArray⟩) (h1 : slot a 1 = .int .i64 b) (h8 : slot a 8 = .int .i64 sg) (h10 : slot a 10 = .string ⟨W.toArray⟩) :
    (tailOf 9 Tryd.f18).wp Tryd.prog (bodyPost Tryd.prog Tryd.f18 (fun e w' => e = .returned (numT m) ∧ w = w')) a w := by
  have hL : (l.length : Int) ≤ 1048576 := by omega
  rw [tail_9 (fn := Tryd.f18) rfl]
  generalize slot a = f at *
  subst ha
  unfold rdF
  dsimp only
  rw [h0, h1, h8, h10]
  clear h0 h1 h8 h10
  go_upto_region 15 with fail
  go_cut [68] from 20 (fun v wx => v = .bool (atC l b 46) ∧ w = wx)
  case first =>
    by_cases h : (b : Int) < l.length
    · have hn : b < l.length := by omega
      have ix := fun W1 => str_indexZ l (b) ((b : Int)) (by omega) hn W1
      have hb0 := atC_bool hn 46 46 rfl
      go_wp2
      go_meet
      case rel => exact ⟨by first | rfl | exact bool_v (by simp [hb0]), rfl⟩
    · have hb0 := atC_out (l := l) (i := b) (c := 46) (by omega)
      go_wp2
      go_meet
      case rel => exact ⟨bool_v hb0.symm, rfl⟩
  case rest =>
    obtain ⟨rfl, rfl⟩ := hcut
    have hbN : b ≤ l.length := by omega
    go_upto_if 68 with fail
    go_cut [1, 10, 11] from 20 (fun v1 v10 v11 wx => ∃ (c : Nat) (F T : List UInt8), v1 = .int .i64 c ∧ v10 = .string ⟨T.toArray⟩ ∧ v11 = .int .i64 F.length ∧ (c : Int) ≤ l.length ∧ (T.length : Int) ≤ 2097152 ∧ (F.length : Int) ≤ l.length ∧ Hid (parts l i = partsE l neg W F c ∧ T = W ++ F ∧ ∀ x ∈ T, isD x = true) ∧ w = wx)
    case first =>
      cases hc : atC l b 46
      · have hp3 : Hid (parts l i = partsE l neg W [] b ∧ W = W ++ [] ∧ ∀ x ∈ W, isD x = true) := Lib.hid ⟨by rw [hp2.out]; unfold partsF; rw [hc]; rfl, by simp, hwd.out⟩
        clear hp2 hwd
        go_wp2
        go_meet
        case rel => exact ⟨b, [], W, rfl, rfl, rfl, hbL, by omega, by simp, hp3, rfl⟩
      · have hlt : b + 1 ≤ l.length := atC_lt hc
        have hltI : (b : Int) + 1 ≤ l.length := by omega
        have cd := fun W1 => l4digits_any l (b + 1) W1 hlt hl
        rw [show ((b + 1 : Nat) : Int) = (b : Int) + 1 by omega] at cd
        cases hd : atD l (b + 1)
        · have hno := Lib.hid (num_no HM.out (by rw [hp2.out]; unfold partsF; rw [hc, hd]; rfl : parts l i = noParts (b + 1)))
          rw [dEnd_stop hd, show ((b + 1 : Nat) : Int) = (b : Int) + 1 by omega] at cd
          clear hp2 hd hc hwd
          go_wp2_with (go_at_call 38; refine (cd _).mono ?_; rintro e w' ⟨rfl, rfl⟩)
          refine bodyPost_ret (results_tmp4 rfl _ _ _) rfl ?_
          exact ⟨num_v hno.out, rfl⟩
        · obtain ⟨c, hce⟩ : ∃ c, c = dEnd l (b + 1) := ⟨_, rfl⟩
          have hcb : b + 1 < c := by have := dEnd_ge l (b + 1 + 1); have := dEnd_step hd; omega
          have hcl := dEnd_le hlt
          rw [← hce] at cd hcl
          have hp3 : Hid (parts l i = partsE l neg W (cut l (b + 1) c) c) := Lib.hid (by rw [hp2.out, hce]; unfold partsF; rw [hc, hd]; rfl)
          have hfd : ∀ x ∈ cut l (b + 1) c, isD x = true := by rw [hce]; exact cut_digs
          have hfl := cut_len (l := l) (i := b + 1) (j := c) (by omega) hcl
          have ec := ext_cut l (b + 1) c
          obtain ⟨F, hF⟩ : ∃ F, F = cut l (b + 1) c := ⟨_, rfl⟩
          have ec2 : (ByteArray.mk l.toArray).extract (b + 1) c = ⟨F.toArray⟩ := by rw [ec, hF]; rfl
          rw [← hF] at hp3 hfd hfl
          have hcat := cat_eq W F
          obtain ⟨T, hT⟩ : ∃ T, T = W ++ F := ⟨_, rfl⟩
          have hp4 : Hid (parts l i = partsE l neg W F c ∧ T = W ++ F ∧ ∀ x ∈ T, isD x = true) := Lib.hid ⟨hp3.out, hT, fun x hx => by
            rw [hT, List.mem_append] at hx
            rcases hx with hx | hx
            · exact hwd.out x hx
            · exact hfd x hx⟩
          have hTl : (T.length : Int) ≤ 2097152 := by rw [hT]; simp; omega
          rw [← hT] at hcat
          have hcL : (c : Int) ≤ l.length := by omega
          have hcb2 : (b : Int) + 1 ≤ c := by omega
          have hne : ((c : Int) == (b : Int) + 1) = false := by simp; omega
          have hFl2 : (c : Int) - b - 1 = F.length := by omega
          have tn : ((b : Int) + 1).toNat = b + 1 := by omega
          have tp : (0 : Int) ≤ (b : Int) + 1 := by omega
          have hFI : (F.length : Int) ≤ l.length := by omega
          clear hp2 hp3 hc hd hce hcb hcl hfd hfl ec hF hT hwd hlt
          go_wp2_with (go_at_call 38; refine (cd _).mono ?_; rintro e w' ⟨rfl, rfl⟩)
          go_meet
          case rel => exact ⟨c, F, T, rfl, rfl, by first | rfl | exact int_v hFl2, hcL, hTl, hFI, hp4, rfl⟩
    case rest =>
      obtain ⟨c, F, T, rfl, rfl, rfl, hcL, hTL, hFL, hp3, rfl⟩ := hcut
      rename ∀ (a : Act) (w : World), Code.wp _ _ _ a w → _ => hK
      have hend := read_exp l i m w c neg W F T sg hl HM hsg hcL hTL hFL hp3
      rw [tail_13 (fn := Tryd.f18) rfl] at hend
      have HE := Lib.hid hend
      clear hend
      refine hK _ _ ?_
      refine wp_seq_k (fun K1 hK1 => ?_)
      have HK1 := Lib.hid hK1
      clear hK1 hK
      go_wp2
      refine HK1.out _ _ ?_
      refine wp_seq_k (fun K2 hK2 => ?_)
      have HK2 := Lib.hid hK2
      clear hK2 HK1
      go_wp2
      refine HK2.out _ _ ?_
      exact HE.out _ rfl rfl rfl rfl rfl rfl rfl rfl
end Go.Proofs.YtmjlbglnlpfadaaDoor
