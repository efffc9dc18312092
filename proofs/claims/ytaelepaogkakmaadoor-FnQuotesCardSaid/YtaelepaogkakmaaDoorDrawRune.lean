/- What the model's draws for characters return: a number, a short string, a short list of numbers. -/
import Derived.Test.YtaelepaogkakmaaDoorStrDraw
import Derived.Test.YtaelepaogkakmaaDoorBent
import Derived.Test.YtaelepaogkakmaaDoorDrawAny
import Derived.Test.YtaelepaogkakmaaDoorConv
import Derived.Test.YtaelepaogkakmaaDoorFromRunes
import Derived.Test.YtaelepaogkakmaaDoorTextOk
import Derived.Test.YtaelepaogkakmaaDoorRunesOf
namespace Go.Proofs.YtaelepaogkakmaaDoor
open Go.RowKit
set_option maxRecDepth 100000
theorem own_base_t {w : World} {B B' E n : Nat} {v : Value} {xs : List Value} (h : w.ownsRow B E 1 v n xs) (hB : B' ≤ B) : w.ownsRow B' E 1 v n xs := own_base h hB
theorem text_any (w : World) (B : Nat) (hC : Cur w B) : Calls Tryd.prog 54 #[.pointer (some ⟨B, 0, none⟩)] w (StrPost B (fun l => l.length ≤ 1000) w) := by
  obtain ⟨i0, hi, hz0, hz1, hz2⟩ := info_parts intInfo'
  have hBl := hC.lt
  go_enter Tryd.func54, Tryd.ntmps54
  go_wp2_with fail
  refine (once_any w B 2 hC (by decide)).mono ?_
  rintro e w1 ⟨b, rfl, ho, hc⟩
  have hs1 := ho.size
  cases b
  · have hc' := hc.alloc (.cells #[] 3)
    have ho' := ho.alloc (.cells #[] 3)
    have hown := own_base (own_new0 w1 3) hs1
    have HO := Lib.hid ho'
    have HW := Lib.hid hown
    have hs : w1.heap.size < (w1.alloc (.cells #[] 3)).heap.size := by simp
    clear ho hc hC ho' hown
    go_wp2_with fail
    refine (below_any _ B 4 hc' (by decide)).mono ?_
    rintro e w2 ⟨x, ⟨hx0, hx1⟩, rfl, ho2, hc2⟩
    obtain ⟨x, rfl⟩ : ∃ q : Nat, x = q := ⟨x.toNat, by omega⟩
    have hown2 := own_only HW.out ho2 (by simp [Value.ownBlock]; omega)
    have hO2 := HO.out.trans ho2
    have H2 := Lib.hid hown2
    have HO2 := Lib.hid hO2
    have HC2 := Lib.hid hc2
    clear hs HO HW hc' ho2 hc2 hown2 hO2
    go_wp2
    go_loopw [3, 4] (fun v i wr => ∃ (q : Nat) (acc : List Int), i = .int .i64 q ∧ acc.length + q ≤ 4 ∧ wr.ownsRow w.heap.size 3 1 v acc.length (iv acc) ∧ Only B w wr ∧ Cur wr B) (fun _ i _ => (intOf i).toNat)
    case atStart => exact ⟨x, [], rfl, by simp; omega, H2.out, HO2.out, HC2.out⟩
    case round =>
      obtain ⟨q, acc, rfl, hq, hown, hO, hcr⟩ := hrel
      have H3 := Lib.hid hown
      have HO3 := Lib.hid hO
      have HQ := Lib.hid hq
      by_cases hq0 : (0 : Int) < q
      · have HQ0 := Lib.hid hq0
        have hq5 : (q : Int) ≤ 5 := by omega
        clear hown hO hq
        go_wp2_with fail
        refine (rune_any wr B hcr).mono ?_
        rintro e w3 ⟨y, hy, rfl, ho3, hc3⟩
        have hown3 := own_only H3.out ho3 (fun e => by have := (H3.out.lt _ e).1; omega)
        have hO3 := HO3.out.trans ho3
        have hs3 := HO3.out.size
        have hs4 := ho3.size
        have HO4 := Lib.hid hO3
        have HC3 := Lib.hid hc3
        have H4 := Lib.hid hown3
        clear hcr hown3 hO3 hc3 ho3
        go_wp2_with (at_builtin; refine wpList_append_own _ rfl _ _ 37 rfl w.heap.size 3 i0 (.int .i64 0) 1 8 Tryd.underlying37 hi hz0 hz1 hz2 rfl (by decide) _ _ _ rfl (H4.out.alloc _) ⟨w3.heap.size, 0, none⟩ 1 1 [.int .i64 y] rfl rfl ?c1 ?c2 ?c3 ?c4 ?c5 ?_)
        case c1 =>
          intro j u hj
          match j, hj with
          | 0, hj => simp at hj; subst hj; simp [Addr.add]
          | (j + 1), hj => simp at hj
        case c2 => intro u hu; simp at hu; rcases hu with rfl; rfl
        case c3 => have := HQ.out; unfold maxLen; omega
        case c4 => have := HQ.out; omega
        case c5 => simp; omega
        intro v' w4 hown4 hgrow _
        have hb4 : Below w.heap.size w3 w4 := below_step (Below.refl _ _) (HO4.out.size) H4.out hgrow
        have H5 := Lib.hid hown4
        have HO5 := Lib.hid (HO4.out.then_below hb4 (Nat.le_refl _))
        have HC5 := Lib.hid (HC3.out.below hb4 hBl)
        clear hown4 hgrow hb4
        go_wp2
        go_roundw
        case rel =>
          have := HQ.out
          have := HQ0.out
          refine ⟨q - 1, acc ++ [y], by go_num, by simp; omega, ?_, HO5.out, HC5.out⟩
          rw [List.length_append, iv_append]; exact H5.out
        case measure => have := HQ0.out; simp [intOf]; omega
      · have cf := fromrunes_spec wr _ acc (own_reads H3.out) (by omega)
        have hfl := flat_len acc
        generalize hf : flat acc = fl at *
        have HF := Lib.hid hf
        have HFL := Lib.hid hfl
        have HC3 := Lib.hid hcr
        clear hown hO hq hcr hf hfl
        go_wp2_with fail
        refine cf.mono ?_
        rintro e w3 ⟨rfl, hb⟩
        have hs3 := HO3.out.size
        have HO4 := Lib.hid (HO3.out.then_below hb hs3)
        have HC4 := Lib.hid (HC3.out.below hb (by omega))
        clear cf hb
        go_wp2
        go_ret
        exact ⟨fl, by have := HFL.out; have := HQ.out; show fl.length ≤ 1000; omega, rfl, HO4.out, HC4.out⟩
  · have hd := str_lit w1 B [[], [97], [98], [107, 101, 121], [120, 32, 121], [49], [195, 169], [34], [92]] 9 (fun l => l.length ≤ 1000) hc (by decide) (by decide) (by decide)
    go_wp2_with fail
    refine hd.mono ?_
    rintro e w2 ⟨l, hx, rfl, ho2, hc2⟩
    go_wp2
    go_ret
    exact ⟨_, hx, rfl, ho.trans ho2, hc2⟩
theorem strbent_any (w : World) (B : Nat) (hC : Cur w B) : Calls Tryd.prog 30 #[.pointer (some ⟨B, 0, none⟩)] w (StrPost B (fun l => l.length ≤ 1001) w) := by
  have hBl := hC.lt
  go_enter Tryd.func30, Tryd.ntmps30
  go_wp2_with fail
  refine (once_any w B 5 hC (by decide)).mono ?_
  rintro e w1 ⟨b, rfl, ho, hc⟩
  have hs1 := ho.size
  cases b
  · go_wp2_with fail
    refine (text_any w1 B hc).mono ?_
    rintro e w2 ⟨l, hl, rfl, ho2, hc2⟩
    go_wp2
    go_ret
    exact ⟨l, Nat.le_succ_of_le hl, rfl, ho.trans ho2, hc2⟩
  · go_wp2_with fail
    refine (text_any w1 B hc).mono ?_
    rintro e w2 ⟨l, hl, rfl, ho2, hc2⟩
    obtain ⟨cap, w3, hcv, hR, hb3, _⟩ := conv_bytes w2 l
    have hO2 := ho.trans ho2
    have hs2 := hO2.size
    have hO3 := hO2.then_below hb3 hs2
    have hC3 := hc2.below hb3 (by omega)
    have hl' : l.length ≤ 1000 := hl
    have cb := bent_any w3 B w2.heap.size 0 cap l hC3 (slice_cells hR).2 (by omega)
    generalize (ByteArray.mk l.toArray) = s at *
    have HO := Lib.hid hO3
    have HL := Lib.hid hl'
    clear ho ho2 hO2 hO3 hC3 hc2 hR hb3 hc hC hl hl'
    go_wp2_with (go_at_call 35; refine cb.mono ?_; rintro e w4 ⟨v4, l4, hl4, rfl, hn4, o4, ho4, hc4⟩; have hcv4 := conv_str w4 v4 l4 (own_slc o4); generalize hs4 : (ByteArray.mk l4.toArray) = s4 at hcv4)
    have HS := Lib.hid hs4
    clear hs4
    go_ret
    exact ⟨l4, by have h1 : l4.length ≤ l.length + 1 := hl4; have := HL.out; show l4.length ≤ 1001; omega, by rw [HS.out]; rfl, HO.out.trans ho4, hc4⟩
end Go.Proofs.YtaelepaogkakmaaDoor
