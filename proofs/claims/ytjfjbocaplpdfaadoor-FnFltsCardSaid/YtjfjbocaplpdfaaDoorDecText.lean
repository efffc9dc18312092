/- What DecText of the program and of the model returns: the decimal representation. -/
import Derived.Test.YtjfjbocaplpdfaaDoorDecNew
import Derived.Test.YtjfjbocaplpdfaaDoorNumText
import Derived.Test.YtjfjbocaplpdfaaDoorTextMath
import Derived.Test.YtjfjbocaplpdfaaDoorMem
import Derived.Deep.QuietTactic
import Derived.BigQuiet
import Derived.IntWalk
namespace Go.Proofs.YtjfjbocaplpdfaaDoor
open Go.RowKit
theorem cat_text (s a b : List UInt8) : ((⟨s.toArray⟩ : ByteArray) ++ ⟨a.toArray⟩ ++ ⟨#[46]⟩ ++ ⟨b.toArray⟩) = ⟨(s ++ (a ++ [46] ++ b)).toArray⟩ := by
  rw [show (⟨#[46]⟩ : ByteArray) = ⟨([46] : List UInt8).toArray⟩ from rfl, cat_eq, cat_eq, cat_eq]; simp
theorem text_ret {s a b t : List UInt8} (h : t = s ++ (a ++ [46] ++ b)) : Ending.returned (.string ((⟨s.toArray⟩ : ByteArray) ++ ⟨a.toArray⟩ ++ ⟨#[46]⟩ ++ ⟨b.toArray⟩)) = .returned (.string ⟨t.toArray⟩) := by rw [cat_text, h]
theorem repeat_eq (c : Nat) : Lib.repeatL [48] c = List.replicate c 48 := by
  induction c with
  | zero => rfl
  | succ c ih => show [48] ++ Lib.repeatL [48] c = _; rw [ih, List.replicate_succ]; rfl
def strLen : Value → Nat
  | .string s => s.size
  | _ => 0
theorem size_b (l : List UInt8) : (ByteArray.mk l.toArray).size = l.length := by simp [ByteArray.size]
set_option maxRecDepth 100000 in
set_option maxHeartbeats 2000000 in
theorem dectext_spec (n x : Int) (w : World) (h0 : -9223372036854775808 ≤ n) (h1 : n ≤ 9223372036854775807) :
    Calls Tryd.prog 36 #[.agg #[.int .i64 n, .int .i64 x]] w fun e w' => e = .returned (.string ⟨(decText n x).toArray⟩) ∧ Below w.heap.size w w' := by
  have cd := fun W => decok_spec n x W h0 h1
  have cn := fun W => numtext_spec n W h0 h1
  cases hv : decOk n x
  · rw [hv] at cd
    rw [decText_bad hv]
    go_enter Tryd.func36, Tryd.ntmps36
    go_wp2_with (go_at_call 51; refine (cd _).mono ?_; rintro e w1 ⟨rfl, hb1⟩)
    go_ret
    exact ⟨rfl, (below_box _ _).trans (hb1.mono (by simp))⟩
  · rw [hv] at cd
    obtain ⟨r0, r1, r2, _, r4⟩ := decOk_range hv
    by_cases hx : x = 0
    · subst hx
      rw [decText_int hv]
      generalize Lib.itoa n = T at *
      clear r4 hv
      go_enter Tryd.func36, Tryd.ntmps36
      go_wp2_with fail
      refine (cd _).mono ?_
      rintro e w1 ⟨rfl, hb1⟩
      obtain ⟨hcl, hfz⟩ := bcell hb1
      have k0 : w1.cell? ⟨w.heap.size, 0, none⟩ = some (.int .i64 n) := (hcl _ _ (by simp)).trans (by simp [go_sem])
      have k1 : w1.cell? ⟨w.heap.size, 1, none⟩ = some (.int .i64 0) := (hcl _ _ (by simp)).trans (by simp [go_sem])
      clear hcl hfz
      go_wp2_with fail
      refine (cn _).mono ?_
      rintro e w2 ⟨rfl, hb2⟩
      go_wp2
      go_ret
      exact ⟨rfl, ((below_box _ _).trans (hb1.mono (by simp))).trans (hb2.mono (by have := hb1.size; simp at this; omega))⟩
    · have hl := dec_len 16 n.natAbs r2
      obtain ⟨dn, hdn⟩ : ∃ dn, dn = Lib.decDigits n.natAbs := ⟨_, rfl⟩
      have hne := decDigits_ne n.natAbs
      rw [← hdn] at hl hne
      have hl1 : 1 ≤ dn.length := by cases dn with | nil => exact absurd rfl hne | cons _ _ => simp
      by_cases hn : n < 0
      · rw [decText_neg hv hx hn]
        rw [itoa_lt hn, ← hdn] at cn
        unfold fracT
        rw [← hdn]
        clear r4 hv hne hdn
        have e1 : ((ByteArray.mk (45 :: dn).toArray).extract 1 (dn.length + 1)) = ⟨dn.toArray⟩ := by rw [ext_cut]; simp
        go_enter Tryd.func36, Tryd.ntmps36
        go_wp2_with fail
        refine (cd _).mono ?_
        rintro e w1 ⟨rfl, hb1⟩
        obtain ⟨hcl, hfz⟩ := bcell hb1
        have k0 : w1.cell? ⟨w.heap.size, 0, none⟩ = some (.int .i64 n) := (hcl _ _ (by simp)).trans (by simp [go_sem])
        have k1 : w1.cell? ⟨w.heap.size, 1, none⟩ = some (.int .i64 x) := (hcl _ _ (by simp)).trans (by simp [go_sem])
        clear hcl hfz
        go_wp2_with fail
        refine (cn _).mono ?_
        rintro e w2 ⟨rfl, hb2⟩
        obtain ⟨hcl, hfz⟩ := bcell hb2
        have hz : w.heap.size < w1.heap.size := by have := hb1.size; simp at this; omega
        have m0 : w2.cell? ⟨w.heap.size, 0, none⟩ = some (.int .i64 n) := (hcl _ _ hz).trans k0
        have m1 : w2.cell? ⟨w.heap.size, 1, none⟩ = some (.int .i64 x) := (hcl _ _ hz).trans k1
        clear hcl hfz
        have hend : Below w.heap.size w w2 := ((below_box _ _).trans (hb1.mono (by simp))).trans (hb2.mono (by omega))
        go_wp2
        go_loop [3] (fun t => ∃ l : List UInt8, t = .string ⟨l.toArray⟩ ∧ IsPad dn (1 - x) l) (fun t => 17 - strLen t)
        case atStart => exact ⟨_, rfl, isPad_start _ _⟩
        case round =>
          obtain ⟨l, rfl, hp⟩ := hrel
          have hlen := isPad_length hp
          have hl2 : l.length ≤ 17 := by omega
          have hl3 : 1 ≤ l.length := by omega
          clear hlen hl
          by_cases hlt : (l.length : Int) < 1 - x
          · have hs := isPad_step hp hlt
            have hcat := cat_eq [48] l
            go_wp2
            go_round
            case rel => exact ⟨_, rfl, hs⟩
            case measure => simp only [strLen, size_b, List.length_cons]; omega
          · have hp2 := Lib.hid (isPad_end hp hlt)
            have hk0 : 1 ≤ (l.length : Int) + x := by omega
            have hk1 : (l.length : Int) + x ≤ l.length := by omega
            clear hp
            go_wp2_with fail
            obtain ⟨k, hk⟩ : ∃ k : Nat, (k : Int) = (l.length : Int) + x := ⟨((l.length : Int) + x).toNat, by omega⟩
            have hpe := Lib.hid (point_eq r1 hk)
            rw [← hk] at hk0 hk1 ⊢
            have e2 : (ByteArray.mk l.toArray).extract 0 k = ⟨(l.take k).toArray⟩ := by rw [ext_cut]; simp
            have e3 : (ByteArray.mk l.toArray).extract k l.length = ⟨(l.drop k).toArray⟩ := by rw [ext_cut, List.take_of_length_le (by simp)]
            clear hk
            go_quiet (fail)
            go_wp2
            go_ret
            exact ⟨text_ret (s := [45]) (by rw [← hp2.out, hpe.out]; rfl), below_drewN hend _⟩
      · rw [decText_pos hv hx hn]
        rw [itoa_ge hn, ← hdn] at cn
        unfold fracT
        rw [← hdn]
        clear r4 hv hne hdn
        go_enter Tryd.func36, Tryd.ntmps36
        go_wp2_with fail
        refine (cd _).mono ?_
        rintro e w1 ⟨rfl, hb1⟩
        obtain ⟨hcl, hfz⟩ := bcell hb1
        have k0 : w1.cell? ⟨w.heap.size, 0, none⟩ = some (.int .i64 n) := (hcl _ _ (by simp)).trans (by simp [go_sem])
        have k1 : w1.cell? ⟨w.heap.size, 1, none⟩ = some (.int .i64 x) := (hcl _ _ (by simp)).trans (by simp [go_sem])
        clear hcl hfz
        go_wp2_with fail
        refine (cn _).mono ?_
        rintro e w2 ⟨rfl, hb2⟩
        obtain ⟨hcl, hfz⟩ := bcell hb2
        have hz : w.heap.size < w1.heap.size := by have := hb1.size; simp at this; omega
        have m0 : w2.cell? ⟨w.heap.size, 0, none⟩ = some (.int .i64 n) := (hcl _ _ hz).trans k0
        have m1 : w2.cell? ⟨w.heap.size, 1, none⟩ = some (.int .i64 x) := (hcl _ _ hz).trans k1
        clear hcl hfz
        have hend : Below w.heap.size w w2 := ((below_box _ _).trans (hb1.mono (by simp))).trans (hb2.mono (by omega))
        go_wp2
        go_loop [3] (fun t => ∃ l : List UInt8, t = .string ⟨l.toArray⟩ ∧ IsPad dn (1 - x) l) (fun t => 17 - strLen t)
        case atStart => exact ⟨_, rfl, isPad_start _ _⟩
        case round =>
          obtain ⟨l, rfl, hp⟩ := hrel
          have hlen := isPad_length hp
          have hl2 : l.length ≤ 17 := by omega
          have hl3 : 1 ≤ l.length := by omega
          clear hlen hl
          by_cases hlt : (l.length : Int) < 1 - x
          · have hs := isPad_step hp hlt
            have hcat := cat_eq [48] l
            go_wp2
            go_round
            case rel => exact ⟨_, rfl, hs⟩
            case measure => simp only [strLen, size_b, List.length_cons]; omega
          · have hp2 := Lib.hid (isPad_end hp hlt)
            have hk0 : 1 ≤ (l.length : Int) + x := by omega
            have hk1 : (l.length : Int) + x ≤ l.length := by omega
            clear hp
            go_wp2_with fail
            obtain ⟨k, hk⟩ : ∃ k : Nat, (k : Int) = (l.length : Int) + x := ⟨((l.length : Int) + x).toNat, by omega⟩
            have hpe := Lib.hid (point_eq r1 hk)
            rw [← hk] at hk0 hk1 ⊢
            have e2 : (ByteArray.mk l.toArray).extract 0 k = ⟨(l.take k).toArray⟩ := by rw [ext_cut]; simp
            have e3 : (ByteArray.mk l.toArray).extract k l.length = ⟨(l.drop k).toArray⟩ := by rw [ext_cut, List.take_of_length_le (by simp)]
            clear hk
            go_quiet (fail)
            go_wp2
            go_ret
            exact ⟨text_ret (s := []) (by rw [← hp2.out, hpe.out]; rfl), below_drewN hend _⟩
set_option maxRecDepth 100000 in
set_option maxHeartbeats 2000000 in
theorem dectext_impl (n x : Int) (w : World) (h0 : -9223372036854775808 ≤ n) (h1 : n ≤ 9223372036854775807) (htab : Lib.TabIs Tryd.prog w "internal/strconv.uint64pow10" .u64 Lib.pow10Tab) :
    Calls Tryd.prog 22 #[.agg #[.int .i64 n, .int .i64 x]] w fun e w' => e = .returned (.string ⟨(decText n x).toArray⟩) ∧ Below w.heap.size w w' := by
  have cd := fun W => decok_impl n x W h0 h1
  have cn := fun W (hb : Below w.heap.size w W) => numtext_impl n W h0 h1 (var_below hb htab)
  clear htab
  cases hv : decOk n x
  · rw [hv] at cd
    rw [decText_bad hv]
    go_enter Tryd.func22, Tryd.ntmps22
    go_wp2_with (go_at_call 21; refine (cd _).mono ?_; rintro e w1 ⟨rfl, hb1⟩)
    go_ret
    exact ⟨rfl, (below_box _ _).trans (hb1.mono (by simp))⟩
  · rw [hv] at cd
    obtain ⟨r0, r1, r2, _, r4⟩ := decOk_range hv
    by_cases hx : x = 0
    · subst hx
      rw [decText_int hv]
      generalize Lib.itoa n = T at *
      clear r4 hv
      go_enter Tryd.func22, Tryd.ntmps22
      go_wp2_with fail
      refine (cd _).mono ?_
      rintro e w1 ⟨rfl, hb1⟩
      have hb := (below_box _ _).trans (hb1.mono (by simp))
      obtain ⟨hcl, hfz⟩ := bcell hb1
      have k0 : w1.cell? ⟨w.heap.size, 0, none⟩ = some (.int .i64 n) := (hcl _ _ (by simp)).trans (by simp [go_sem])
      have k1 : w1.cell? ⟨w.heap.size, 1, none⟩ = some (.int .i64 0) := (hcl _ _ (by simp)).trans (by simp [go_sem])
      clear hcl hfz
      go_wp2_with fail
      refine (cn _ hb).mono ?_
      rintro e w2 ⟨rfl, hb2⟩
      go_wp2
      go_ret
      exact ⟨rfl, hb.trans (hb2.mono (by have := hb1.size; simp at this; omega))⟩
    · have hl := dec_len 16 n.natAbs r2
      obtain ⟨dn, hdn⟩ : ∃ dn, dn = Lib.decDigits n.natAbs := ⟨_, rfl⟩
      have hne := decDigits_ne n.natAbs
      rw [← hdn] at hl hne
      have hl1 : 1 ≤ dn.length := by cases dn with | nil => exact absurd rfl hne | cons _ _ => simp
      by_cases hn : n < 0
      · rw [decText_neg hv hx hn]
        rw [itoa_lt hn, ← hdn] at cn
        unfold fracT
        rw [← hdn]
        clear r4 hv hne hdn
        have e1 : ((ByteArray.mk (45 :: dn).toArray).extract 1 (dn.length + 1)) = ⟨dn.toArray⟩ := by rw [ext_cut]; simp
        go_enter Tryd.func22, Tryd.ntmps22
        go_wp2_with fail
        refine (cd _).mono ?_
        rintro e w1 ⟨rfl, hb1⟩
        have hb := (below_box _ _).trans (hb1.mono (by simp))
        obtain ⟨hcl, hfz⟩ := bcell hb1
        have k0 : w1.cell? ⟨w.heap.size, 0, none⟩ = some (.int .i64 n) := (hcl _ _ (by simp)).trans (by simp [go_sem])
        have k1 : w1.cell? ⟨w.heap.size, 1, none⟩ = some (.int .i64 x) := (hcl _ _ (by simp)).trans (by simp [go_sem])
        clear hcl hfz
        go_wp2_with fail
        refine (cn _ hb).mono ?_
        rintro e w2 ⟨rfl, hb2⟩
        obtain ⟨hcl, hfz⟩ := bcell hb2
        have hz : w.heap.size < w1.heap.size := by have := hb1.size; simp at this; omega
        have m0 : w2.cell? ⟨w.heap.size, 0, none⟩ = some (.int .i64 n) := (hcl _ _ hz).trans k0
        have m1 : w2.cell? ⟨w.heap.size, 1, none⟩ = some (.int .i64 x) := (hcl _ _ hz).trans k1
        clear hcl hfz
        have hend : Below w.heap.size w w2 := hb.trans (hb2.mono (by omega))
        have hz2 : w.heap.size < w2.heap.size := Nat.lt_of_lt_of_le hz hb2.size
        clear cn cd hb
        go_wp2_with fail
        go_quiet (fail)
        by_cases hm : 0 < 1 - x - (dn.length : Int)
        · obtain ⟨c, hc⟩ : ∃ c : Nat, (c : Int) = 1 - x - (dn.length : Int) := ⟨(1 - x - (dn.length : Int)).toNat, by omega⟩
          have hc17 : c ≤ 17 := by omega
          have cr := fun W => Tryd.strings_Repeat ⟨#[48]⟩ c W (by omega) (by show 1 * c ≤ _; omega)
          rw [show Lib.repeatL (ByteArray.mk #[48]).data.toList c = List.replicate c 48 from repeat_eq c, hc] at cr
          obtain ⟨rp, hrp⟩ : ∃ rp : List UInt8, rp = List.replicate c 48 := ⟨_, rfl⟩
          have hrl : rp.length = c := by rw [hrp]; simp
          rw [← hrp] at cr
          obtain ⟨l, hll⟩ : ∃ l, l = rp ++ dn := ⟨_, rfl⟩
          have hcat := cat_eq rp dn
          rw [← hll] at hcat
          have hlen : (l.length : Int) = 1 - x := by rw [hll]; simp; omega
          have hp2 : Hid (l = pad (1 - x).toNat dn) := Lib.hid (by unfold pad; rw [hll, hrp]; congr 2; omega)
          have hrb : rp.length ≤ 17 := by omega
          clear hll hrp hrl hc hc17
          go_wp2_with fail
          refine (cr _).mono ?_
          rintro e w3 ⟨rfl, hb3⟩
          obtain ⟨hcl, hfz⟩ := bcell hb3
          have q1 : w3.cell? ⟨w.heap.size, 1, none⟩ = some (.int .i64 x) := (hcl _ _ (by simpa using hz2)).trans (by simpa [go_sem] using m1)
          clear hcl hfz
          have hend : Below w.heap.size w w3 := by first | exact hend.trans (hb3.mono (by omega)) | exact (below_drewN hend _).trans (hb3.mono (by simp; omega))
          have hk0 : 1 ≤ (l.length : Int) + x := by omega
          have hk1 : (l.length : Int) + x ≤ l.length := by omega
          have hl17 : l.length ≤ 17 := by omega
          clear hm hl hl1 hlen
          go_wp2_with fail
          obtain ⟨k, hk⟩ : ∃ k : Nat, (k : Int) = (l.length : Int) + x := ⟨((l.length : Int) + x).toNat, by omega⟩
          have hpe := Lib.hid (point_eq r1 hk)
          rw [← hk] at hk0 hk1 ⊢
          have e2 : (ByteArray.mk l.toArray).extract 0 k = ⟨(l.take k).toArray⟩ := by rw [ext_cut]; simp
          have e3 : (ByteArray.mk l.toArray).extract k l.length = ⟨(l.drop k).toArray⟩ := by rw [ext_cut, List.take_of_length_le (by simp)]
          clear hk
          go_quiet (fail)
          go_wp2
          go_ret
          exact ⟨text_ret (s := [45]) (by rw [← hp2.out, hpe.out]; rfl), below_drewN hend _⟩
        · obtain ⟨l, hll⟩ : ∃ l, l = dn := ⟨_, rfl⟩
          have hp2 : Hid (l = pad (1 - x).toNat dn) := Lib.hid (by rw [pad_none (by omega), hll])
          rw [← hll] at hl hl1 hm ⊢
          have hk0 : 1 ≤ (l.length : Int) + x := by omega
          have hk1 : (l.length : Int) + x ≤ l.length := by omega
          clear hll
          go_wp2_with fail
          obtain ⟨k, hk⟩ : ∃ k : Nat, (k : Int) = (l.length : Int) + x := ⟨((l.length : Int) + x).toNat, by omega⟩
          have hpe := Lib.hid (point_eq r1 hk)
          rw [← hk] at hk0 hk1 ⊢
          have e2 : (ByteArray.mk l.toArray).extract 0 k = ⟨(l.take k).toArray⟩ := by rw [ext_cut]; simp
          have e3 : (ByteArray.mk l.toArray).extract k l.length = ⟨(l.drop k).toArray⟩ := by rw [ext_cut, List.take_of_length_le (by simp)]
          clear hk
          go_quiet (fail)
          go_wp2
          go_ret
          exact ⟨text_ret (s := [45]) (by rw [← hp2.out, hpe.out]; rfl), by first | exact below_drewN hend _ | exact below_drewN (below_drewN hend _) _⟩
      · rw [decText_pos hv hx hn]
        rw [itoa_ge hn, ← hdn] at cn
        unfold fracT
        rw [← hdn]
        clear r4 hv hne hdn
        go_enter Tryd.func22, Tryd.ntmps22
        go_wp2_with fail
        refine (cd _).mono ?_
        rintro e w1 ⟨rfl, hb1⟩
        have hb := (below_box _ _).trans (hb1.mono (by simp))
        obtain ⟨hcl, hfz⟩ := bcell hb1
        have k0 : w1.cell? ⟨w.heap.size, 0, none⟩ = some (.int .i64 n) := (hcl _ _ (by simp)).trans (by simp [go_sem])
        have k1 : w1.cell? ⟨w.heap.size, 1, none⟩ = some (.int .i64 x) := (hcl _ _ (by simp)).trans (by simp [go_sem])
        clear hcl hfz
        go_wp2_with fail
        refine (cn _ hb).mono ?_
        rintro e w2 ⟨rfl, hb2⟩
        obtain ⟨hcl, hfz⟩ := bcell hb2
        have hz : w.heap.size < w1.heap.size := by have := hb1.size; simp at this; omega
        have m0 : w2.cell? ⟨w.heap.size, 0, none⟩ = some (.int .i64 n) := (hcl _ _ hz).trans k0
        have m1 : w2.cell? ⟨w.heap.size, 1, none⟩ = some (.int .i64 x) := (hcl _ _ hz).trans k1
        clear hcl hfz
        have hend : Below w.heap.size w w2 := hb.trans (hb2.mono (by omega))
        have hz2 : w.heap.size < w2.heap.size := Nat.lt_of_lt_of_le hz hb2.size
        clear cn cd hb
        by_cases hm : 0 < 1 - x - (dn.length : Int)
        · obtain ⟨c, hc⟩ : ∃ c : Nat, (c : Int) = 1 - x - (dn.length : Int) := ⟨(1 - x - (dn.length : Int)).toNat, by omega⟩
          have hc17 : c ≤ 17 := by omega
          have cr := fun W => Tryd.strings_Repeat ⟨#[48]⟩ c W (by omega) (by show 1 * c ≤ _; omega)
          rw [show Lib.repeatL (ByteArray.mk #[48]).data.toList c = List.replicate c 48 from repeat_eq c, hc] at cr
          obtain ⟨rp, hrp⟩ : ∃ rp : List UInt8, rp = List.replicate c 48 := ⟨_, rfl⟩
          have hrl : rp.length = c := by rw [hrp]; simp
          rw [← hrp] at cr
          obtain ⟨l, hll⟩ : ∃ l, l = rp ++ dn := ⟨_, rfl⟩
          have hcat := cat_eq rp dn
          rw [← hll] at hcat
          have hlen : (l.length : Int) = 1 - x := by rw [hll]; simp; omega
          have hp2 : Hid (l = pad (1 - x).toNat dn) := Lib.hid (by unfold pad; rw [hll, hrp]; congr 2; omega)
          have hrb : rp.length ≤ 17 := by omega
          clear hll hrp hrl hc hc17
          go_wp2_with fail
          refine (cr _).mono ?_
          rintro e w3 ⟨rfl, hb3⟩
          obtain ⟨hcl, hfz⟩ := bcell hb3
          have q1 : w3.cell? ⟨w.heap.size, 1, none⟩ = some (.int .i64 x) := (hcl _ _ (by simpa using hz2)).trans (by simpa [go_sem] using m1)
          clear hcl hfz
          have hend : Below w.heap.size w w3 := by first | exact hend.trans (hb3.mono (by omega)) | exact (below_drewN hend _).trans (hb3.mono (by simp; omega))
          have hk0 : 1 ≤ (l.length : Int) + x := by omega
          have hk1 : (l.length : Int) + x ≤ l.length := by omega
          have hl17 : l.length ≤ 17 := by omega
          clear hm hl hl1 hlen
          go_wp2_with fail
          obtain ⟨k, hk⟩ : ∃ k : Nat, (k : Int) = (l.length : Int) + x := ⟨((l.length : Int) + x).toNat, by omega⟩
          have hpe := Lib.hid (point_eq r1 hk)
          rw [← hk] at hk0 hk1 ⊢
          have e2 : (ByteArray.mk l.toArray).extract 0 k = ⟨(l.take k).toArray⟩ := by rw [ext_cut]; simp
          have e3 : (ByteArray.mk l.toArray).extract k l.length = ⟨(l.drop k).toArray⟩ := by rw [ext_cut, List.take_of_length_le (by simp)]
          clear hk
          go_quiet (fail)
          go_wp2
          go_ret
          exact ⟨text_ret (s := []) (by rw [← hp2.out, hpe.out]; rfl), below_drewN hend _⟩
        · obtain ⟨l, hll⟩ : ∃ l, l = dn := ⟨_, rfl⟩
          have hp2 : Hid (l = pad (1 - x).toNat dn) := Lib.hid (by rw [pad_none (by omega), hll])
          rw [← hll] at hl hl1 hm ⊢
          have hk0 : 1 ≤ (l.length : Int) + x := by omega
          have hk1 : (l.length : Int) + x ≤ l.length := by omega
          clear hll
          go_wp2_with fail
          obtain ⟨k, hk⟩ : ∃ k : Nat, (k : Int) = (l.length : Int) + x := ⟨((l.length : Int) + x).toNat, by omega⟩
          have hpe := Lib.hid (point_eq r1 hk)
          rw [← hk] at hk0 hk1 ⊢
          have e2 : (ByteArray.mk l.toArray).extract 0 k = ⟨(l.take k).toArray⟩ := by rw [ext_cut]; simp
          have e3 : (ByteArray.mk l.toArray).extract k l.length = ⟨(l.drop k).toArray⟩ := by rw [ext_cut, List.take_of_length_le (by simp)]
          clear hk
          go_quiet (fail)
          go_wp2
          go_ret
          exact ⟨text_ret (s := []) (by rw [← hp2.out, hpe.out]; rfl), by first | exact below_drewN hend _ | exact below_drewN (below_drewN hend _) _⟩
end Go.Proofs.YtjfjbocaplpdfaaDoor
