/- A head's bytes: PutHead of both sides. -/
import Derived.Test.YtblaaiggmhadfaaDoorHeadFor
import Derived.Test.YtblaaiggmhadfaaDoorPutBig
import Derived.Test.YtblaaiggmhadfaaDoorTz
import Derived.IntWalk
import Derived.Deep.RegionHeld3
import Derived.Deep.CutRange
namespace Go.Proofs.YtblaaiggmhadfaaDoor
open Go.RowKit
set_option maxRecDepth 100000
theorem info_impl {w : World} {b : Nat} {h : Hd} (H : HB w b h) (o : hdOk h) (hT : Tz w) : Calls Tryd.prog 44 #[.pointer (some ⟨b, 0, none⟩)] w fun e w' => e = .returned (.int .i64 (hdInfo h)) ∧ w = w' := by
  have hc := hdOk_cases o
  obtain ⟨k, n, x⟩ := h
  have c1 := H.c1
  have c2 := H.c2
  simp only at c1 c2 hc
  obtain ⟨_, _, hc⟩ := hc
  clear H o
  have wide : ∀ v : Int, (x = 1 ∧ v = 0) ∨ (x = 2 ∧ v = 1) ∨ (x = 4 ∧ v = 2) ∨ (x = 8 ∧ v = 3) → Calls Tryd.prog 44 #[.pointer (some ⟨b, 0, none⟩)] w fun e w' => e = .returned (.int .i64 (24 + v)) ∧ w = w' := fun v hv => by
    have ct := tz_any hT hv
    have e1 : (x == -1) = false := by rw [beq_eq_false_iff_ne]; omega
    have e2 : (x == 0) = false := by rw [beq_eq_false_iff_ne]; omega
    have e3 : 1 ≤ x := by omega
    have e4 : x ≤ 8 := by omega
    have e5 : 0 ≤ v := by omega
    have e6 : v ≤ 3 := by omega
    clear hv hc hT
    go_enter Tryd.func44, Tryd.ntmps44
    go_wp2_with fail
    refine ct.mono ?_
    rintro e w' ⟨rfl, rfl⟩
    go_wp2
    go_ret
    exact ⟨rfl, rfl⟩
  rcases hc with hc | hc | hc | hc | hc | hc
  · obtain ⟨rfl, hn⟩ := hc
    rw [show hdInfo ⟨k, n, 0⟩ = n from rfl]
    clear wide hn
    go_enter Tryd.func44, Tryd.ntmps44
    go_wp2
    go_ret
    exact ⟨rfl, rfl⟩
  · obtain ⟨rfl, hn⟩ := hc
    exact wide 0 (by omega)
  · obtain ⟨rfl, hn⟩ := hc
    exact wide 1 (by omega)
  · obtain ⟨rfl, hn⟩ := hc
    exact wide 2 (by omega)
  · obtain rfl := hc
    exact wide 3 (by omega)
  · obtain ⟨rfl, hn⟩ := hc
    rw [show hdInfo ⟨k, n, -1⟩ = 31 from rfl]
    clear wide
    go_enter Tryd.func44, Tryd.ntmps44
    go_wp2
    go_ret
    exact ⟨rfl, rfl⟩
theorem below_grow {a w w' : World} (h : Below a.heap.size a w) (k : Below w.heap.size w w') : Below a.heap.size a w' := h.trans (k.mono h.size)
theorem putlit (W : World) (g : Nat) (i : UInt8) (n x : Int) (hcl : W.cell? ⟨g, 0, none⟩ = some (.int .u8 i.toNat)) : Calls Tryd.prog 45 #[.slice (some ⟨g, 0, none⟩) 1 1, .int .i64 n, .int .i64 x] W (Fresh W ([i] ++ bigL n x)) :=
  putbig_impl W _ [i] n x ⟨g, 0, 1, rfl, fun j u hu => by
    cases j with
    | zero => simp [bv] at hu; subst hu; exact hcl
    | succ j => simp [bv] at hu⟩ (by simp)
theorem byte_val {I : Int} (h0 : 0 ≤ I) (h1 : I < 256) : ((UInt8.ofNat I.toNat).toNat : Int) = I := by rw [UInt8.toNat_ofNat']; omega
theorem hdB_cons {h : Hd} (o : hdOk h) : hdB h = [UInt8.ofNat (32 * h.k + hdInfo h).toNat] ++ bigL h.n h.w := by
  rw [hdB_yes o, List.singleton_append]
  congr 1
  have hc := hdOk_cases o
  by_cases hw : fitB h.n h.w
  · rw [bigL_yes hw]
  · rw [bigL_no hw]
    have : h.w.toNat = 0 := by
      rcases hc.2.2 with g | g | g | g | g | g
      · omega
      · exact absurd (fit_mk (by omega)) hw
      · exact absurd (fit_mk (by omega)) hw
      · exact absurd (fit_mk (by omega)) hw
      · exact absurd (fit_mk (by omega)) hw
      · omega
    rw [this]
    simp [be]
set_option maxHeartbeats 2000000 in
theorem enc_impl {w : World} {b : Nat} {h : Hd} (H : HB w b h) (h0 : -9223372036854775808 ≤ h.n) (hT : Tz w) : Calls Tryd.prog 28 #[.pointer (some ⟨b, 0, none⟩)] w fun e w' => ∃ v, e = .returned v ∧ Slc w' v (bv (hdB h)) ∧ Below w.heap.size w w' := by
  have ck := ok_impl H h0
  by_cases ho : hdOk h
  · rw [decide_eq_true ho] at ck
    rw [hdB_cons ho]
    have HO := Lib.hid ho
    have hc := hdOk_cases ho
    have hr := info_range ho
    have HI := Lib.hid (fun (W : World) (hb : Below w.heap.size w W) => info_impl (H.below hb) ho (hT.below hb))
    have HX := Lib.hid H
    obtain ⟨f, hf⟩ : ∃ f, f = hdInfo h := ⟨_, rfl⟩
    rw [← hf] at hr HI ⊢
    clear hf
    obtain ⟨k, n, x⟩ := h
    simp only at hc ⊢
    obtain ⟨⟨k0, k7⟩, _⟩ := hc
    obtain ⟨f0, f31⟩ := hr
    have hw8 : IntKind.u8.wrap (32 * k + f) = 32 * k + f := by rw [IntKind.wrap_u8]; omega
    have hv8 : ((UInt8.ofNat (32 * k + f).toNat).toNat : Int) = 32 * k + f := byte_val (by omega) (by omega)
    have HV := Lib.hid hv8
    clear hv8 ho H hT h0
    go_enter Tryd.func28, Tryd.ntmps28
    go_wp2_with fail
    refine ck.mono ?_
    rintro e w1 ⟨rfl, hb1⟩
    have G1 := HX.out.below hb1
    obtain ⟨a0, a1, a2, af⟩ := G1
    simp only at a0 a1 a2
    have HB1 := Lib.hid hb1
    clear hb1 ck
    go_wp2_with fail
    go_quiet ((exact quiet_eq (HI.out _ (below_drewN HB1.out _))))
    go_wp2_with fail
    have hb2 := below_drewN HB1.out nq
    have d1 : (w1.drewN nq).cell? ⟨b, 1, none⟩ = some (.int .i64 n) := a1
    have d2 : (w1.drewN nq).cell? ⟨b, 2, none⟩ = some (.int .i64 x) := a2
    generalize w1.drewN nq = w2 at *
    have hlt := cell_lt d1
    have HB2 := Lib.hid hb2
    have HS := Lib.hid (fun (W : World) (hb : Below w2.heap.size w2 W) => (⟨hb, (hb.cell (p := ⟨b, 1, none⟩) hlt).trans d1, (hb.cell (p := ⟨b, 2, none⟩) hlt).trans d2⟩ : Below w2.heap.size w2 W ∧ W.cell? ⟨b, 1, none⟩ = some (.int .i64 n) ∧ W.cell? ⟨b, 2, none⟩ = some (.int .i64 x)))
    have HC := Lib.hid (fun (W : World) (hc : W.cell? ⟨w2.heap.size, 0, none⟩ = some (.int .u8 (32 * k + f))) => putlit W w2.heap.size (UInt8.ofNat (32 * k + f).toNat) n x (by rw [HV.out]; exact hc))
    clear a0 a1 a2 af hb2 HI HX d1 d2
    go_region_held3 (fun W => Below w2.heap.size w2 W ∧ W.cell? ⟨b, 1, none⟩ = some (.int .i64 n) ∧ W.cell? ⟨b, 2, none⟩ = some (.int .i64 x)) ((refine HS.out _ ?_; first | with_reducible assumption | with_reducible exact (Below.refl _ _).drew | with_reducible exact (Below.refl _ _).alloc (Nat.le_refl _) _ | with_reducible exact ((Below.refl _ _).alloc (Nat.le_refl _) _).drew | with_reducible exact ((Below.refl _ _).drew).alloc (Nat.le_refl _) _)) ((first | (go_at_call 45; go_split_ands; refine (HC.out _ (by simp [go_sem])).mono ?_; rintro e w8 ⟨v8, rfl, hn8, o8, b8⟩; have bb8 := below_grow (by with_reducible assumption) b8)))
    all_goals
      have HO8 := Lib.hid (own_slc o8)
      have HB8 := Lib.hid (HB2.out.trans (bb8.mono HB2.out.size))
      clear o8 b8 bb8 hn8
      go_wp2
      go_ret
      exact ⟨_, rfl, HO8.out, HB8.out⟩
  · rw [decide_eq_false ho] at ck
    rw [hdB_no ho]
    clear ho H hT h0
    go_enter Tryd.func28, Tryd.ntmps28
    go_wp2_with fail
    refine ck.mono ?_
    rintro e w1 ⟨rfl, hb1⟩
    go_wp2
    go_ret
    exact ⟨_, rfl, .inl ⟨rfl, rfl⟩, hb1⟩
theorem hdB_le (h : Hd) : (hdB h).length ≤ 9 := by
  by_cases o : hdOk h
  · rw [hdB_cons o, List.length_append]
    have := bigL_len h.n h.w
    simp; omega
  · rw [hdB_no o]; simp
theorem puthead_impl (w : World) (v : Value) (l : List UInt8) (h : Hd) (hv : Sl w v (bv l)) (hl : l.length ≤ 1099511627776) (h0 : -9223372036854775808 ≤ h.n) (hT : Tz w) :
    Calls Tryd.prog 7 #[v, h.val] w (Fresh w (l ++ hdB h)) := by
  have HV := Lib.hid hv
  have hb0 := below_box w (.cells #[.int .i64 h.k, .int .i64 h.n, .int .i64 h.w] 25)
  have ce := enc_impl (hb_new w h 25) h0 (hT.below hb0)
  have HB0 := Lib.hid hb0
  have h9 := hdB_le h
  obtain ⟨E, hE⟩ : ∃ E, E = hdB h := ⟨_, rfl⟩
  rw [← hE] at ce h9 ⊢
  clear hE hb0
  obtain ⟨b, o, cap, e, _⟩ := hv
  rw [bv_length] at e
  subst e
  obtain ⟨k, n, x⟩ := h
  go_enter Tryd.func7, Tryd.ntmps7
  go_wp2_with fail
  refine ce.mono ?_
  rintro e w1 ⟨u, rfl, hu, hb⟩
  have HB1 := Lib.hid (HB0.out.trans (hb.mono HB0.out.size))
  have cj := joined_any w1 _ u l E (HV.out.below HB1.out) hu hl (by omega)
  clear hb hu ce
  go_wp2_with fail
  refine cj.mono ?_
  rintro e w2 ⟨v2, rfl, hn, ho, hb⟩
  have HR := Lib.hid (And.intro hn (And.intro ho (HB1.out.trans (hb.mono HB1.out.size))))
  clear hn ho hb cj
  go_wp2
  go_ret
  exact ⟨_, rfl, HR.out.1, own_base HR.out.2.1 HB1.out.size, HR.out.2.2⟩
set_option maxHeartbeats 4000000 in
theorem puthead_spec (w : World) (v : Value) (l : List UInt8) (h : Hd) (hv : Sl w v (bv l)) (hl : l.length < 1099511627776) :
    Calls Tryd.prog 14 #[v, h.val] w (Fresh w (l ++ hdB h)) := by
  obtain ⟨i0, hi, hz0, hz1, hz2⟩ := info_parts byteInfo'
  obtain ⟨b, o, cap, e, hc⟩ := hv
  rw [bv_length] at e
  subst e
  have hb0 := below_box w (.cells #[.int .i64 h.k, .int .i64 h.n, .int .i64 h.w] 25)
  have hh := hb_new w h 25
  have hc0 : ∀ j u, (bv l)[j]? = some u → (w.alloc (.cells #[.int .i64 h.k, .int .i64 h.n, .int .i64 h.w] 25)).cell? ⟨b, o + j, none⟩ = some u := fun j u hu => (hb0.cell (p := ⟨b, o + j, none⟩) (cell_lt (hc j u hu))).trans (hc j u hu)
  clear hc
  have ck := fun W => headok_spec h W
  obtain ⟨E, hE⟩ : ∃ E, E = hdB h := ⟨_, rfl⟩
  rw [← hE]
  have HE := Lib.hid hE
  have HCS := Lib.hid (fun (o : hdOk h) => hdOk_cases o)
  have HCN := Lib.hid (fun (o : hdOk h) => hdB_cons o)
  have HNO := Lib.hid (fun (o : ¬ hdOk h) => hdB_no o)
  clear hE
  have HB0 := Lib.hid hb0
  have HH0 := Lib.hid hh
  have HC0 := Lib.hid hc0
  clear hb0 hh hc0
  obtain ⟨k, n, x⟩ := h
  simp only [Hd.val] at HB0 HH0 HC0 HCS HCN ck
  go_enter Tryd.func14, Tryd.ntmps14
  (go_upto_region 1 with fail)
  generalize (w.alloc (.cells #[.int .i64 k, .int .i64 n, .int .i64 x] 25)) = W0 at *
  have c1 : ∀ o', ∀ j u, (bv l)[j]? = some u → (W0.alloc o').cell? ((⟨b, o, none⟩ : Addr).add j) = some u := by
    intro o' j u hu
    rw [addr_add, (below_alloc W0 o').cell (p := ⟨b, o + j, none⟩) (cell_lt (HC0.out j u hu))]
    exact HC0.out j u hu
  go_wp2_with (at_builtin; refine wpList_append_own _ rfl _ _ 22 rfl W0.heap.size 5 i0 (.int .u8 0) 1 1 Tryd.underlying22 hi hz0 hz1 hz2 rfl (by decide) _ _ _ rfl (World.ownsRow_made W0 #[] 0 (Nat.le_refl _) (by decide) rfl) ⟨b, o, none⟩ l.length cap (bv l) rfl (by simp) (c1 _) (bv_cell l) ?c3 ?c4 ?c5 ?_)
  case c3 => unfold maxLen; omega
  case c4 => omega
  case c5 => simp
  intro v1 w1 hown hgrow hnil
  have hb1 : Below W0.heap.size W0 w1 := (below_alloc W0 _).trans (grown_belowN hgrow (by simp) (by simp [Value.ownBlock]))
  have HN := Lib.hid hnil
  have HO := Lib.hid (show w1.ownsRow W0.heap.size 5 1 v1 l.length (bv l) by simpa using hown)
  have HB1 := Lib.hid hb1
  have HH1 := Lib.hid (HH0.out.below hb1)
  clear hgrow hnil c1 hown hb1
  obtain ⟨a0, a1, a2, af⟩ := HH1.out
  simp only at a0 a1 a2
  clear af
  go_wp2_with fail
  refine (ck _).mono ?_
  rintro e w2 ⟨rfl, hb2⟩
  have HB2 := Lib.hid (HB1.out.trans (hb2.mono HB1.out.size))
  have HH2 := Lib.hid (HH1.out.below hb2)
  have HO2 := Lib.hid (own_below HO.out hb2)
  clear a0 a1 a2 hb2 ck HO HH1
  obtain ⟨a0, a1, a2, af⟩ := HH2.out
  simp only at a0 a1 a2
  clear af
  by_cases hok : hdOk ⟨k, n, x⟩
  · have hd := decide_eq_true hok
    have hcs := HCS.out hok
    have HL := Lib.hid (HE.out.trans (HCN.out hok))
    have hr := info_range hok
    obtain ⟨f, hf⟩ : ∃ f, f = hdInfo ⟨k, n, x⟩ := ⟨_, rfl⟩
    rw [← hf] at hr HL
    obtain ⟨⟨k0, k7⟩, _, hcs⟩ := hcs
    obtain ⟨f0, f31⟩ := hr
    have hw8 : IntKind.u8.wrap (32 * k + f) = 32 * k + f := by rw [IntKind.wrap_u8]; omega
    have hm8 : (32 * k + f) % 256 = 32 * k + f := by omega
    have hv8 : ((UInt8.ofNat (32 * k + f).toNat).toNat : Int) = 32 * k + f := byte_val (by omega) (by omega)
    have HV := Lib.hid hv8
    clear hok hv8 HE HCS HCN HNO
    have hown := HO2.out
    rcases hcs with ⟨rfl, hn⟩ | ⟨rfl, hn⟩ | ⟨rfl, hn⟩ | ⟨rfl, hn⟩ | rfl | ⟨rfl, hn, _⟩
    · have hff : f = n := hf
      subst hff
      clear hf hn
      go_wp2_with (at_builtin; refine wpList_append_own _ rfl _ _ 22 rfl W0.heap.size 5 i0 (.int .u8 0) 1 1 Tryd.underlying22 hi hz0 hz1 hz2 rfl (by decide) _ _ _ rfl (hown.alloc _) ⟨w2.heap.size, 0, none⟩ 1 1 [.int .u8 (32 * k + f)] rfl rfl ?c1 ?c2 ?c3 ?c4 ?c5 ?_)
      case c1 =>
        intro j u hj
        match j, hj with
        | 0, hj => simp at hj; subst hj; simp [Addr.add]
        | (j + 1), hj => simp at hj
      case c2 => intro u hu; simp at hu; rcases hu with rfl; rfl
      case c3 => unfold maxLen; omega
      case c4 => omega
      case c5 => have := HB2.out.size; simp; omega
      intro v2 w3 hown2 hgrow hnil2
      have hb3 := below_step HB2.out HB2.out.size hown hgrow
      have HB3 := Lib.hid hb3
      have HN3 := Lib.hid hnil2
      have e8 : bv l ++ [Value.int .u8 (32 * k + f)] = bv (l ++ [UInt8.ofNat (32 * k + f).toNat]) := by rw [bv_append]; simp only [bv, List.map_cons, List.map_nil]; rw [HV.out]
      have ho3 := hown2
      rw [e8, show l.length + 1 = (l ++ [UInt8.ofNat (32 * k + f).toNat]).length by simp] at ho3
      have HO3 := Lib.hid ho3
      have HH3 := Lib.hid (HH0.out.below hb3)
      clear hgrow hown2 hown hb3 hnil2 e8 ho3 a0 a1 a2
      obtain ⟨a0, a1, a2, af⟩ := HH3.out
      simp only at a0 a1 a2
      clear af
      go_wp2
      go_ret
      refine ⟨_, rfl, HN3.out, ?_, HB0.out.trans (HB3.out.mono HB0.out.size)⟩
      rw [HL.out, bigL_no (fun g => by have := fit_un g; omega), List.append_nil]
      exact own_base HO3.out HB0.out.size
    · have hff : f = 24 := hf
      subst hff
      clear hf
      go_wp2_with (at_builtin; refine wpList_append_own _ rfl _ _ 22 rfl W0.heap.size 5 i0 (.int .u8 0) 1 1 Tryd.underlying22 hi hz0 hz1 hz2 rfl (by decide) _ _ _ rfl (hown.alloc _) ⟨w2.heap.size, 0, none⟩ 1 1 [.int .u8 (32 * k + 24)] rfl rfl ?c1 ?c2 ?c3 ?c4 ?c5 ?_)
      case c1 =>
        intro j u hj
        match j, hj with
        | 0, hj => simp at hj; subst hj; simp [Addr.add]
        | (j + 1), hj => simp at hj
      case c2 => intro u hu; simp at hu; rcases hu with rfl; rfl
      case c3 => unfold maxLen; omega
      case c4 => omega
      case c5 => have := HB2.out.size; simp; omega
      intro v2 w3 hown2 hgrow hnil2
      have hb3 := below_step HB2.out HB2.out.size hown hgrow
      have HB3 := Lib.hid hb3
      have HN3 := Lib.hid hnil2
      have e8 : bv l ++ [Value.int .u8 (32 * k + 24)] = bv (l ++ [UInt8.ofNat (32 * k + 24).toNat]) := by rw [bv_append]; simp only [bv, List.map_cons, List.map_nil]; rw [HV.out]
      have ho3 := hown2
      rw [e8, show l.length + 1 = (l ++ [UInt8.ofNat (32 * k + 24).toNat]).length by simp] at ho3
      have HO3 := Lib.hid ho3
      have HH3 := Lib.hid (HH0.out.below hb3)
      clear hgrow hown2 hown hb3 hnil2 e8 ho3 a0 a1 a2
      obtain ⟨a0, a1, a2, af⟩ := HH3.out
      simp only at a0 a1 a2
      clear af
      have cp := putbig_spec w3 v2 (l ++ [UInt8.ofNat (32 * k + 24).toNat]) n 1 (own_sl HO3.out HN3.out) (by simp; omega)
      go_wp2_with fail
      refine cp.mono ?_
      rintro e w4 ⟨v4, rfl, hn4, o4, b4⟩
      have HO4 := Lib.hid o4
      have HB4 := Lib.hid (HB3.out.trans (b4.mono HB3.out.size))
      have HN4 := Lib.hid hn4
      clear o4 b4 hn4 cp
      go_wp2
      go_ret
      refine ⟨_, rfl, HN4.out, ?_, HB0.out.trans (HB4.out.mono HB0.out.size)⟩
      rw [HL.out, ← List.append_assoc]
      exact own_base HO4.out (Nat.le_trans HB0.out.size HB3.out.size)
    · have hff : f = 25 := hf
      subst hff
      clear hf
      go_wp2_with (at_builtin; refine wpList_append_own _ rfl _ _ 22 rfl W0.heap.size 5 i0 (.int .u8 0) 1 1 Tryd.underlying22 hi hz0 hz1 hz2 rfl (by decide) _ _ _ rfl (hown.alloc _) ⟨w2.heap.size, 0, none⟩ 1 1 [.int .u8 (32 * k + 25)] rfl rfl ?c1 ?c2 ?c3 ?c4 ?c5 ?_)
      case c1 =>
        intro j u hj
        match j, hj with
        | 0, hj => simp at hj; subst hj; simp [Addr.add]
        | (j + 1), hj => simp at hj
      case c2 => intro u hu; simp at hu; rcases hu with rfl; rfl
      case c3 => unfold maxLen; omega
      case c4 => omega
      case c5 => have := HB2.out.size; simp; omega
      intro v2 w3 hown2 hgrow hnil2
      have hb3 := below_step HB2.out HB2.out.size hown hgrow
      have HB3 := Lib.hid hb3
      have HN3 := Lib.hid hnil2
      have e8 : bv l ++ [Value.int .u8 (32 * k + 25)] = bv (l ++ [UInt8.ofNat (32 * k + 25).toNat]) := by rw [bv_append]; simp only [bv, List.map_cons, List.map_nil]; rw [HV.out]
      have ho3 := hown2
      rw [e8, show l.length + 1 = (l ++ [UInt8.ofNat (32 * k + 25).toNat]).length by simp] at ho3
      have HO3 := Lib.hid ho3
      have HH3 := Lib.hid (HH0.out.below hb3)
      clear hgrow hown2 hown hb3 hnil2 e8 ho3 a0 a1 a2
      obtain ⟨a0, a1, a2, af⟩ := HH3.out
      simp only at a0 a1 a2
      clear af
      have cp := putbig_spec w3 v2 (l ++ [UInt8.ofNat (32 * k + 25).toNat]) n 2 (own_sl HO3.out HN3.out) (by simp; omega)
      go_wp2_with fail
      refine cp.mono ?_
      rintro e w4 ⟨v4, rfl, hn4, o4, b4⟩
      have HO4 := Lib.hid o4
      have HB4 := Lib.hid (HB3.out.trans (b4.mono HB3.out.size))
      have HN4 := Lib.hid hn4
      clear o4 b4 hn4 cp
      go_wp2
      go_ret
      refine ⟨_, rfl, HN4.out, ?_, HB0.out.trans (HB4.out.mono HB0.out.size)⟩
      rw [HL.out, ← List.append_assoc]
      exact own_base HO4.out (Nat.le_trans HB0.out.size HB3.out.size)
    · have hff : f = 26 := hf
      subst hff
      clear hf
      go_wp2_with (at_builtin; refine wpList_append_own _ rfl _ _ 22 rfl W0.heap.size 5 i0 (.int .u8 0) 1 1 Tryd.underlying22 hi hz0 hz1 hz2 rfl (by decide) _ _ _ rfl (hown.alloc _) ⟨w2.heap.size, 0, none⟩ 1 1 [.int .u8 (32 * k + 26)] rfl rfl ?c1 ?c2 ?c3 ?c4 ?c5 ?_)
      case c1 =>
        intro j u hj
        match j, hj with
        | 0, hj => simp at hj; subst hj; simp [Addr.add]
        | (j + 1), hj => simp at hj
      case c2 => intro u hu; simp at hu; rcases hu with rfl; rfl
      case c3 => unfold maxLen; omega
      case c4 => omega
      case c5 => have := HB2.out.size; simp; omega
      intro v2 w3 hown2 hgrow hnil2
      have hb3 := below_step HB2.out HB2.out.size hown hgrow
      have HB3 := Lib.hid hb3
      have HN3 := Lib.hid hnil2
      have e8 : bv l ++ [Value.int .u8 (32 * k + 26)] = bv (l ++ [UInt8.ofNat (32 * k + 26).toNat]) := by rw [bv_append]; simp only [bv, List.map_cons, List.map_nil]; rw [HV.out]
      have ho3 := hown2
      rw [e8, show l.length + 1 = (l ++ [UInt8.ofNat (32 * k + 26).toNat]).length by simp] at ho3
      have HO3 := Lib.hid ho3
      have HH3 := Lib.hid (HH0.out.below hb3)
      clear hgrow hown2 hown hb3 hnil2 e8 ho3 a0 a1 a2
      obtain ⟨a0, a1, a2, af⟩ := HH3.out
      simp only at a0 a1 a2
      clear af
      have cp := putbig_spec w3 v2 (l ++ [UInt8.ofNat (32 * k + 26).toNat]) n 4 (own_sl HO3.out HN3.out) (by simp; omega)
      go_wp2_with fail
      refine cp.mono ?_
      rintro e w4 ⟨v4, rfl, hn4, o4, b4⟩
      have HO4 := Lib.hid o4
      have HB4 := Lib.hid (HB3.out.trans (b4.mono HB3.out.size))
      have HN4 := Lib.hid hn4
      clear o4 b4 hn4 cp
      go_wp2
      go_ret
      refine ⟨_, rfl, HN4.out, ?_, HB0.out.trans (HB4.out.mono HB0.out.size)⟩
      rw [HL.out, ← List.append_assoc]
      exact own_base HO4.out (Nat.le_trans HB0.out.size HB3.out.size)
    · have hff : f = 27 := hf
      subst hff
      clear hf
      go_wp2_with (at_builtin; refine wpList_append_own _ rfl _ _ 22 rfl W0.heap.size 5 i0 (.int .u8 0) 1 1 Tryd.underlying22 hi hz0 hz1 hz2 rfl (by decide) _ _ _ rfl (hown.alloc _) ⟨w2.heap.size, 0, none⟩ 1 1 [.int .u8 (32 * k + 27)] rfl rfl ?c1 ?c2 ?c3 ?c4 ?c5 ?_)
      case c1 =>
        intro j u hj
        match j, hj with
        | 0, hj => simp at hj; subst hj; simp [Addr.add]
        | (j + 1), hj => simp at hj
      case c2 => intro u hu; simp at hu; rcases hu with rfl; rfl
      case c3 => unfold maxLen; omega
      case c4 => omega
      case c5 => have := HB2.out.size; simp; omega
      intro v2 w3 hown2 hgrow hnil2
      have hb3 := below_step HB2.out HB2.out.size hown hgrow
      have HB3 := Lib.hid hb3
      have HN3 := Lib.hid hnil2
      have e8 : bv l ++ [Value.int .u8 (32 * k + 27)] = bv (l ++ [UInt8.ofNat (32 * k + 27).toNat]) := by rw [bv_append]; simp only [bv, List.map_cons, List.map_nil]; rw [HV.out]
      have ho3 := hown2
      rw [e8, show l.length + 1 = (l ++ [UInt8.ofNat (32 * k + 27).toNat]).length by simp] at ho3
      have HO3 := Lib.hid ho3
      have HH3 := Lib.hid (HH0.out.below hb3)
      clear hgrow hown2 hown hb3 hnil2 e8 ho3 a0 a1 a2
      obtain ⟨a0, a1, a2, af⟩ := HH3.out
      simp only at a0 a1 a2
      clear af
      have cp := putbig_spec w3 v2 (l ++ [UInt8.ofNat (32 * k + 27).toNat]) n 8 (own_sl HO3.out HN3.out) (by simp; omega)
      go_wp2_with fail
      refine cp.mono ?_
      rintro e w4 ⟨v4, rfl, hn4, o4, b4⟩
      have HO4 := Lib.hid o4
      have HB4 := Lib.hid (HB3.out.trans (b4.mono HB3.out.size))
      have HN4 := Lib.hid hn4
      clear o4 b4 hn4 cp
      go_wp2
      go_ret
      refine ⟨_, rfl, HN4.out, ?_, HB0.out.trans (HB4.out.mono HB0.out.size)⟩
      rw [HL.out, ← List.append_assoc]
      exact own_base HO4.out (Nat.le_trans HB0.out.size HB3.out.size)
    · obtain rfl := hn
      have hff : f = 31 := hf
      subst hff
      clear hf
      go_wp2_with (at_builtin; refine wpList_append_own _ rfl _ _ 22 rfl W0.heap.size 5 i0 (.int .u8 0) 1 1 Tryd.underlying22 hi hz0 hz1 hz2 rfl (by decide) _ _ _ rfl (hown.alloc _) ⟨w2.heap.size, 0, none⟩ 1 1 [.int .u8 (32 * k + 31)] rfl rfl ?c1 ?c2 ?c3 ?c4 ?c5 ?_)
      case c1 =>
        intro j u hj
        match j, hj with
        | 0, hj => simp at hj; subst hj; simp [Addr.add]
        | (j + 1), hj => simp at hj
      case c2 => intro u hu; simp at hu; rcases hu with rfl; rfl
      case c3 => unfold maxLen; omega
      case c4 => omega
      case c5 => have := HB2.out.size; simp; omega
      intro v2 w3 hown2 hgrow hnil2
      have hb3 := below_step HB2.out HB2.out.size hown hgrow
      have HB3 := Lib.hid hb3
      have HN3 := Lib.hid hnil2
      have e8 : bv l ++ [Value.int .u8 (32 * k + 31)] = bv (l ++ [UInt8.ofNat (32 * k + 31).toNat]) := by rw [bv_append]; simp only [bv, List.map_cons, List.map_nil]; rw [HV.out]
      have ho3 := hown2
      rw [e8, show l.length + 1 = (l ++ [UInt8.ofNat (32 * k + 31).toNat]).length by simp] at ho3
      have HO3 := Lib.hid ho3
      have HH3 := Lib.hid (HH0.out.below hb3)
      clear hgrow hown2 hown hb3 hnil2 e8 ho3 a0 a1 a2
      obtain ⟨a0, a1, a2, af⟩ := HH3.out
      simp only at a0 a1 a2
      clear af
      go_wp2
      go_ret
      refine ⟨_, rfl, HN3.out, ?_, HB0.out.trans (HB3.out.mono HB0.out.size)⟩
      rw [HL.out, bigL_no (fun g => by have := fit_un g; omega), List.append_nil]
      exact own_base HO3.out HB0.out.size
  · have hd := decide_eq_false hok
    have HL := Lib.hid (HE.out.trans (HNO.out hok))
    clear hok
    go_wp2
    go_ret
    refine ⟨_, rfl, HN.out, ?_, HB0.out.trans (HB2.out.mono HB0.out.size)⟩
    rw [HL.out, List.append_nil]
    exact own_base HO2.out HB0.out.size
end Go.Proofs.YtblaaiggmhadfaaDoor
