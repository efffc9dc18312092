/- What the model's ReadNumber returns. -/
import Derived.Test.YtmjlbglnlpfadaaDoorReadPoint
namespace Go.Proofs.YtmjlbglnlpfadaaDoor
open Go.RowKit
set_option maxRecDepth 100000 in
set_option maxHeartbeats 8000000 in
theorem readnum_spec (l : List UInt8) (z : Int) (w : World) (hl : l.length ≤ 1048576) : Calls Tryd.prog 18 #[.string ⟨l.toArray⟩, .int .i64 z] w fun e w' => e = .returned (readT l z) ∧ w = w' := by
  have hL : (l.length : Int) ≤ 1048576 := by omega
  by_cases hz : z < 0
  · rw [readT_out (.inl hz)]
    go_enter Tryd.func18, Tryd.ntmps18
    go_wp2
    refine bodyPost_ret (results_tmp4 rfl _ _ _) rfl ?_
    exact ⟨rfl, rfl⟩
  · by_cases hz2 : (l.length : Int) < z
    · rw [readT_out (.inr hz2)]
      go_enter Tryd.func18, Tryd.ntmps18
      go_wp2
      refine bodyPost_ret (results_tmp4 rfl _ _ _) rfl ?_
      exact ⟨rfl, rfl⟩
    · obtain ⟨i, rfl⟩ : ∃ i : Nat, z = i := ⟨z.toNat, by omega⟩
      have hi : i ≤ l.length := by omega
      have hI : (i : Int) ≤ l.length := by omega
      rw [readT_in hi]
      obtain ⟨m, hm⟩ : ∃ m, m = readN l i := ⟨_, rfl⟩
      rw [← hm]
      have HM := Lib.hid hm
      clear hm hz hz2
      go_enter Tryd.func18, Tryd.ntmps18
      go_upto_region 4 with fail
      go_cut [38] from 20 (fun v wx => v = .bool (atC l i 45) ∧ w = wx)
      case first =>
        by_cases h : (i : Int) < l.length
        · have hn : i < l.length := by omega
          have ix := fun W1 => str_indexZ l (i) ((i : Int)) (by omega) hn W1
          have hb0 := atC_bool hn 45 45 rfl
          go_wp2
          go_meet
          case rel => exact ⟨by first | rfl | exact bool_v (by simp [hb0]), rfl⟩
        · have hb0 := atC_out (l := l) (i := i) (c := 45) (by omega)
          go_wp2
          go_meet
          case rel => exact ⟨bool_v hb0.symm, rfl⟩
      case rest =>
        obtain ⟨rfl, rfl⟩ := hcut
        go_upto_if 38 with fail
        go_cut [1, 8] from 20 (fun v1 v8 wx => ∃ (a : Nat) (neg : Bool) (sg : Int), v1 = .int .i64 a ∧ v8 = .int .i64 sg ∧ Hid (sg = if neg = true then -1 else 1) ∧ (a : Int) ≤ l.length ∧ Hid (parts l i = partsW l neg a) ∧ w = wx)
        case first =>
          cases hc : atC l i 45
          · have hp : Hid (parts l i = partsW l false i) := Lib.hid (by unfold parts; rw [hc]; rfl)
            go_wp2
            go_meet
            case rel => exact ⟨i, false, _, rfl, rfl, Lib.hid rfl, hI, hp, rfl⟩
          · have hp : Hid (parts l i = partsW l true (i + 1)) := Lib.hid (by unfold parts; rw [hc]; rfl)
            have hlt : (i : Int) + 1 ≤ l.length := by have := atC_lt hc; omega
            go_wp2
            go_meet
            case rel => exact ⟨i + 1, true, _, by go_num, rfl, Lib.hid rfl, by omega, hp, rfl⟩
        case rest =>
          obtain ⟨a, neg, sg, rfl, rfl, hsg, ha, hp, rfl⟩ := hcut
          have haN : a ≤ l.length := by omega
          have cd := fun W1 => l4digits_any l a W1 haN hl
          cases hd : atD l a
          · have hno := Lib.hid (num_no HM.out (by rw [hp.out]; unfold partsW; rw [hd]; rfl : parts l i = noParts a))
            rw [dEnd_stop hd] at cd
            clear hp hd
            go_wp2_with (go_at_call 38; refine (cd _).mono ?_; rintro e w' ⟨rfl, rfl⟩)
            refine bodyPost_ret (results_tmp4 rfl _ _ _) rfl ?_
            exact ⟨num_v hno.out, rfl⟩
          · have hp2 : Hid (parts l i = partsF l neg (cut l a (wEnd l a)) (wEnd l a)) := Lib.hid (by rw [hp.out]; unfold partsW; rw [hd]; rfl)
            have hlt : a < l.length := atD_lt hd
            have hwd : Hid (∀ c ∈ cut l a (wEnd l a), isD c = true) := Lib.hid wEnd_digs
            have hwl := wEnd_le haN
            have hwg := wEnd_gt hd
            obtain ⟨q, hq⟩ : ∃ q, q = dEnd l a := ⟨_, rfl⟩
            have hw1 : Hid (wEnd l a = if atC l a 48 = true then a + 1 else q) := Lib.hid (by rw [hq]; rfl)
            have hqa : a < q := by have := dEnd_ge l (a + 1); have := dEnd_step hd; omega
            have hql := dEnd_le haN
            rw [← hq] at cd hql
            have hqb : ((q : Int) == a) = false := by simp; omega
            have ix := fun W1 => str_index l a hlt W1
            have hb0 := atC_bool hlt 48 48 rfl
            obtain ⟨b, hbe⟩ : ∃ b, b = wEnd l a := ⟨_, rfl⟩
            rw [← hbe] at hp2 hwd hwl hwg hw1
            have hbL : (b : Int) ≤ l.length := by omega
            have hab : (a : Int) ≤ b := by omega
            have haI : (a : Int) + 1 ≤ l.length := by omega
            have hW1 : (cut l a b).length ≤ l.length := by unfold cut; simp; omega
            have ec := ext_cut l a b
            obtain ⟨W, hW⟩ : ∃ W, W = cut l a b := ⟨_, rfl⟩
            have ec2 : (ByteArray.mk l.toArray).extract a b = ⟨W.toArray⟩ := by rw [ec, hW]; rfl
            rw [← hW] at hp2 hwd hW1
            have hWI : (W.length : Int) ≤ l.length := by omega
            clear hp hd hq hbe hwl hwg hqa hql hW hW1 ec
            go_upto_if 52 with (go_at_call 38; refine (cd _).mono ?_; rintro e w' ⟨rfl, rfl⟩)
            go_cut [1] from 20 (fun v1 wx => v1 = .int .i64 b ∧ w = wx)
            case first =>
              cases hc : atC l a 48
              · have hw2 := hw1.out
                rw [hc, if_neg (by decide)] at hw2
                have hw3 : (b : Int) = q := by omega
                clear hw2
                go_wp2
                go_meet
                case rel => exact ⟨int_v hw3.symm, rfl⟩
              · have hw2 := hw1.out
                rw [hc, if_pos rfl] at hw2
                have hw3 : (b : Int) = a + 1 := by omega
                clear hw2
                go_wp2
                go_meet
                case rel => exact ⟨int_v hw3.symm, rfl⟩
            case rest =>
              obtain ⟨rfl, rfl⟩ := hcut
              clear hw1 hqb ix hb0 cd haI ha hlt
              rename ∀ (a : Act) (w : World), Code.wp _ _ _ a w → _ => hK
              have hend := read_point l i m w b neg W sg hl HM hsg hbL hWI hp2 hwd
              rw [tail_9 (fn := Tryd.f18) rfl] at hend
              have HE := Lib.hid hend
              clear hend
              refine hK _ _ ?_
              refine wp_seq_k (fun K1 hK1 => ?_)
              have HK1 := Lib.hid hK1
              clear hK1 hK
              go_wp2
              refine HK1.out _ _ ?_
              exact HE.out _ rfl rfl rfl rfl rfl
end Go.Proofs.YtmjlbglnlpfadaaDoor
