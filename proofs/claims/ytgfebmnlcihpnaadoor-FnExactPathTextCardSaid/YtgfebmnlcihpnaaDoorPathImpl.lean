/- PathText of the program. -/
import Derived.Test.YtgfebmnlcihpnaaDoorStepText
import Derived.Test.YtgfebmnlcihpnaaDoorPathSpec
import Derived.Lib.SlBytesConst
import Derived.Test.YtgfebmnlcihpnaaDoorAppendStr
namespace Go.Proofs.YtgfebmnlcihpnaaDoor
open Go.RowKit
set_option maxRecDepth 100000
theorem step_pos (t : PT) (s : St) : 0 < (stepTx t s).length := by
  unfold stepTx
  split
  · simp
  · split <;> simp
/-- the head of PathText's loop: the value reached lies in the argument's box -/
structure AtV (w wr : World) (Y : AT) : Prop where
  x : VC wr w.heap.size Y.k Y.n Y.x ⟨Y.s.toArray⟩ Y.a Y.l.length Y.cap
  xf : ∀ o, wr.frozen? ⟨w.heap.size, o, none⟩ = false
  below : Below w.heap.size w wr
  lt : w.heap.size + 1 ≤ wr.heap.size
theorem AtV.keep {w wr w' : World} {Y : AT} (h : AtV w wr Y) (hb : Below (w.heap.size + 1) wr w') : AtV w w' Y where
  x := by
    have e : ∀ q, w'.cell? ⟨w.heap.size, q, none⟩ = wr.cell? ⟨w.heap.size, q, none⟩ := fun q => hb.cell (p := ⟨w.heap.size, q, none⟩) (by show w.heap.size < _; omega)
    exact ⟨(e _).trans h.x.c0, (e _).trans h.x.c1, (e _).trans h.x.c2, (e _).trans h.x.c3, (e _).trans h.x.c4⟩
  xf o := (hb.frozen (p := ⟨w.heap.size, o, none⟩) (by show w.heap.size < _; omega)).trans (h.xf o)
  below := h.below.trans (hb.mono (by omega))
  lt := Nat.le_trans h.lt hb.size
theorem AtV.next {w W : World} {Y G : AT} (h : AtV w W Y) :
    AtV w (((((W.setCell ⟨w.heap.size, 0, none⟩ (.int .i64 G.k)).setCell ⟨w.heap.size, 1, none⟩ (.int .i64 G.n)).setCell ⟨w.heap.size, 2, none⟩ (.int .i64 G.x)).setCell ⟨w.heap.size, 3, none⟩ (.string ⟨G.s.toArray⟩)).setCell ⟨w.heap.size, 4, none⟩ (.slice G.a G.l.length G.cap)) G where
  x := vset5 h.x
  xf := frozen_set5 h.xf
  below := bset (bset (bset (bset (bset h.below (Nat.le_refl _)) (Nat.le_refl _)) (Nat.le_refl _)) (Nat.le_refl _)) (Nat.le_refl _)
  lt := by have := h.lt; simpa [World.setCell] using this
theorem Txt.five {w : World} {base B : Nat} {v : Value} {xs : List UInt8} {v0 v1 v2 v3 v4 : Value} (h : Txt w base v xs) (hB : B < base) : Txt (((((w.setCell ⟨B, 0, none⟩ v0).setCell ⟨B, 1, none⟩ v1).setCell ⟨B, 2, none⟩ v2).setCell ⟨B, 3, none⟩ v3).setCell ⟨B, 4, none⟩ v4) base v xs :=
  h.kept (fun k hk _ => by
    have hne : k ≠ B := by omega
    exact (Below.heap_setCell _ _ _ _ hne).trans ((Below.heap_setCell _ _ _ _ hne).trans ((Below.heap_setCell _ _ _ _ hne).trans ((Below.heap_setCell _ _ _ _ hne).trans (Below.heap_setCell _ _ _ _ hne))))) (by simp [World.setCell])
theorem Txt.blw {w w' : World} {base : Nat} {v : Value} {xs : List UInt8} (h : Txt w base v xs) (hb : Below w.heap.size w w') : Txt w' base v xs := h.kept (fun k _ hk => hb.block k hk) hb.size
theorem AT.In.sub' {w : World} {N : Nat} {T : AT} (h : T.In w N) {j : Nat} (hj : j < T.l.length) : (T.l[j]).In w N := h.lv'.sub _ (List.getElem_mem hj)
set_option maxHeartbeats 4000000 in
theorem pathtext_impl (T : AT) (l : List St) (a : Option Addr) (cap : Nat) (w : World) (N : Nat) (hin : T.In w N) (hs : SAt w N a cap l) (hsz : T.pt.sz ≤ 1048576) (hl : l.length ≤ 1048576) (hN : N ≤ w.heap.size) (hi : ∀ s ∈ l, -9223372036854775808 ≤ s.1 ∧ s.1 ≤ 9223372036854775807) (htab : Lib.TabIs Tryd.prog w "internal/strconv.uint64pow10" .u64 Lib.pow10Tab) :
    Calls Tryd.prog 21 #[T.val, .slice a l.length cap] w fun e w' => e = .returned (.string ⟨(36 :: tailTx l T.pt).toArray⟩) ∧ Below w.heap.size w w' := by
  have HS := Lib.hid hs
  have HI := Lib.hid hi
  obtain ⟨r, hr⟩ : ∃ r, r = 36 :: tailTx l T.pt := ⟨_, rfl⟩
  rw [← hr]
  have HR := Lib.hid hr
  have HSZ := Lib.hid hsz
  clear hs hsz hr hi
  show Calls Tryd.prog 21 #[.agg #[.int .i64 T.k, .int .i64 T.n, .int .i64 T.x, .string ⟨T.s.toArray⟩, .slice T.a T.l.length T.cap], .slice a l.length cap] w _
  have HTAB := Lib.hid (fun W (hb : Below w.heap.size w W) => tab_below hb htab)
  have HIN := Lib.hid hin
  clear hin htab
  have kc : (convert 22 22 (.slice (some ⟨w.heap.size + 1, 0, none⟩) 1 1)).run Tryd.prog ((w.alloc (.cells #[.int .i64 T.k, .int .i64 T.n, .int .i64 T.x, .string ⟨T.s.toArray⟩, .slice T.a T.l.length T.cap] 26)).alloc (.cells #[.int .u8 36] 5)) = .ok (.slice (some ⟨w.heap.size + 1, 0, none⟩) 1 1) ((w.alloc (.cells #[.int .i64 T.k, .int .i64 T.n, .int .i64 T.x, .string ⟨T.s.toArray⟩, .slice T.a T.l.length T.cap] 26)).alloc (.cells #[.int .u8 36] 5 (1, 2))) := by
    have := Lib.run_convert_bytes_const (P := Tryd.prog) (w.alloc (.cells #[.int .i64 T.k, .int .i64 T.n, .int .i64 T.x, .string ⟨T.s.toArray⟩, .slice T.a T.l.length T.cap] 26)) 22 5 #[.int .u8 36] 1 1 Tryd.underlying22 Tryd.underlying5
    simpa using this
  go_enter Tryd.func21, Tryd.ntmps21
  go_wp2_with fail
  have hst : AtV w ((w.alloc (.cells #[.int .i64 T.k, .int .i64 T.n, .int .i64 T.x, .string ⟨T.s.toArray⟩, .slice T.a T.l.length T.cap] 26)).alloc (.cells #[.int .u8 36] 5 (1, 2))) T := by
    refine ⟨⟨?_, ?_, ?_, ?_, ?_⟩, fun o => ?_, boxes2 _ _ _, by simp⟩ <;> simp [go_sem]
  have htx : Txt ((w.alloc (.cells #[.int .i64 T.k, .int .i64 T.n, .int .i64 T.x, .string ⟨T.s.toArray⟩, .slice T.a T.l.length T.cap] 26)).alloc (.cells #[.int .u8 36] 5 (1, 2))) (w.heap.size + 1) (.slice (some ⟨w.heap.size + 1, 0, none⟩) 1 1) [36] :=
    .inr ⟨w.heap.size + 1, rfl, Nat.le_refl _, by simp, fun j u hu => by
      have hj := (List.getElem?_eq_some_iff.1 hu).1
      obtain rfl : j = 0 := by simp at hj; omega
      have hc := World.cell?_alloc_mark (w.alloc (.cells #[.int .i64 T.k, .int .i64 T.n, .int .i64 T.x, .string ⟨T.s.toArray⟩, .slice T.a T.l.length T.cap] 26)) #[.int .u8 36] 5 (1, 2) 0
      simp at hc
      simp [bv] at hu
      rw [← hu]
      simpa using hc⟩
  generalize ((w.alloc (.cells #[.int .i64 T.k, .int .i64 T.n, .int .i64 T.x, .string ⟨T.s.toArray⟩, .slice T.a T.l.length T.cap] 26)).alloc (.cells #[.int .u8 36] 5 (1, 2))) = W0 at *
  generalize (Value.slice (some ⟨w.heap.size + 1, 0, none⟩) 1 1) = tv0 at *
  have HST := Lib.hid hst
  have HTX := Lib.hid htx
  clear hst htx kc
  go_loopw [5, 14] (fun t i wr => ∃ (tv : Value) (i' : Nat) (Y : AT) (acc : List UInt8), tv = t ∧ i = .int .i64 i' ∧ i' ≤ l.length ∧ Hid (r = acc ++ tailTx (l.drop i') Y.pt) ∧ Hid (acc.length ≤ 1 + i' * 1048700) ∧ Hid (Txt wr (w.heap.size + 1) tv acc) ∧ Hid (AtV w wr Y) ∧ Hid (Y.In w N) ∧ Hid (Y.pt.sz ≤ 1048576)) (fun _ i _ => l.length - (intOf i).toNat)
  case atStart => exact ⟨tv0, 0, T, [36], rfl, rfl, Nat.zero_le _, HR, Lib.hid (by simp), HTX, HST, HIN, HSZ⟩
  case round =>
    obtain ⟨tv, i', Y, acc, rfl, rfl, hi', HRi, HAC, HTXi, HAV, HYI, HYS⟩ := hrel
    by_cases hlt : i' < l.length
    · obtain ⟨g, o, rfl, hgN, p0, p1⟩ := HS.out.cell i' hlt
      have hbel := HAV.out.below
      replace p0 := (hbel.cell (p := ⟨g, o + i' * 2, none⟩) (by show g < w.heap.size; omega)).trans p0
      replace p1 := (hbel.cell (p := ⟨g, o + i' * 2 + 1, none⟩) (by show g < w.heap.size; omega)).trans p1
      have HD := Lib.hid (HRi.out.trans (by rw [List.drop_eq_getElem_cons hlt]))
      have HII := Lib.hid (HI.out l[i'] (List.getElem_mem hlt))
      obtain ⟨s, hs⟩ : ∃ s : St, s = l[i'] := ⟨_, rfl⟩
      rw [← hs] at p0 p1 HD HII
      have hyl : Y.l.length ≤ 1048576 := by have := len_le_sz Y; have := HYS.out; omega
      have HEL0 := Lib.hid (fun W => element_impl Y s W hyl)
      have HAVA := Lib.hid (HAV.out.keep ((vbox wr (.cells #[.int .i64 s.1, .bool s.2] 34)).mono HAV.out.lt))
      have HTXA := Lib.hid (HTXi.out.blw (vbox wr (.cells #[.int .i64 s.1, .bool s.2] 34)))
      have hsb : (wr.alloc (.cells #[.int .i64 s.1, .bool s.2] 34)).cell? ⟨wr.heap.size, 0, none⟩ = some (.int .i64 s.1) ∧ (wr.alloc (.cells #[.int .i64 s.1, .bool s.2] 34)).cell? ⟨wr.heap.size, 1, none⟩ = some (.bool s.2) := by constructor <;> simp [go_sem]
      have HSB := Lib.hid hsb
      obtain ⟨c0, c1, c2, c3, c4⟩ := HAVA.out.x
      obtain ⟨s0, s1⟩ := hsb
      have hzs := HAV.out.x.lt
      clear hs hbel
      cases hp : plc Y.k Y.l.length s with
      | none =>
        have HEL : Hid (∀ W : World, Calls Tryd.prog 34 #[.agg #[.int .i64 Y.k, .int .i64 Y.n, .int .i64 Y.x, .string ⟨Y.s.toArray⟩, .slice Y.a Y.l.length Y.cap], .agg #[.int .i64 s.1, .bool s.2]] W fun e w' => e = .returned (.tuple #[.int .i64 0, .bool false]) ∧ Below W.heap.size W w') := Lib.hid (fun W => by have := HEL0.out W; rw [plV_no hp] at this; exact this)
        have HF : Hid (r = acc) := Lib.hid (by rw [HD.out, tail_none hp, List.append_nil])
        clear hp HEL0 HD
        go_wp2_with fail
        generalize (wr.alloc (.cells #[.int .i64 s.1, .bool s.2] 34)) = W1 at *
        refine (HEL.out _).mono ?_
        rintro e w2 ⟨rfl, hb2⟩
        have HAV2 := Lib.hid (HAVA.out.keep (hb2.mono HAVA.out.lt))
        have HTX2 := Lib.hid (HTXA.out.blw hb2)
        have hcv := conv_str w2 tv acc HTX2.out.slc
        clear c0 c1 c2 c3 c4 s0 s1 hb2
        go_wp2
        go_ret
        exact ⟨by rw [HF.out]; rfl, HAV2.out.below⟩
      | some j =>
        have hj := plc_lt hp
        have HEL : Hid (∀ W : World, Calls Tryd.prog 34 #[.agg #[.int .i64 Y.k, .int .i64 Y.n, .int .i64 Y.x, .string ⟨Y.s.toArray⟩, .slice Y.a Y.l.length Y.cap], .agg #[.int .i64 s.1, .bool s.2]] W fun e w' => e = .returned (.tuple #[.int .i64 (j : Int), .bool true]) ∧ Below W.heap.size W w') := Lib.hid (fun W => by
          have := HEL0.out W
          have e : plV Y.k Y.l.length s = .tuple #[.int .i64 (j : Int), .bool true] := by unfold plV; rw [hp]
          rw [e] at this; exact this)
        obtain ⟨b, o2, ha, hbN, hC⟩ := HYI.out.lv'.cell j hj
        have HC := Lib.hid hC
        have HGI := Lib.hid (HYI.out.sub' hj)
        have HS2 : Hid ((Y.l[j]).pt.sz ≤ 1048576) := Lib.hid (Nat.le_trans (sz_sub (by rw [ptl]; exact List.mem_map_of_mem (List.getElem_mem hj))) HYS.out)
        have HTT0 := Lib.hid (fun (W : World) (hb : Below w.heap.size w W) => steptext_impl Y s j W N (HYI.out.blw hb hN) (Nat.le_trans hN hb.size) hp HYS.out HII.out (HTAB.out W hb))
        have htb := step_bound Y s HYS.out HII.out
        have hpos := step_pos Y.pt s
        obtain ⟨tx, htx⟩ : ∃ tx, tx = stepTx Y.pt s := ⟨_, rfl⟩
        have HF : Hid (r = (acc ++ tx) ++ tailTx (l.drop (i' + 1)) (Y.l[j]).pt) := Lib.hid (by rw [HD.out, tail_some hp hj, htx, List.append_assoc])
        rw [← htx] at HTT0 htb hpos
        have HTT : Hid (∀ (W : World), Below w.heap.size w W → Calls Tryd.prog 44 #[.agg #[.int .i64 Y.k, .int .i64 Y.n, .int .i64 Y.x, .string ⟨Y.s.toArray⟩, .slice Y.a Y.l.length Y.cap], .agg #[.int .i64 s.1, .bool s.2]] W fun e w' => e = .returned (.string ⟨tx.toArray⟩) ∧ Below W.heap.size W w') := Lib.hid HTT0.out
        have hac := HAC.out
        have HAC2 : Hid ((acc ++ tx).length ≤ 1 + (i' + 1) * 1048700) := Lib.hid (by rw [List.length_append]; omega)
        have hsum : acc.length + tx.length ≤ 140737488355328 := by omega
        have HSUM := Lib.hid hsum
        have HPOS := Lib.hid hpos
        obtain ⟨G, hG⟩ : ∃ G, G = Y.l[j] := ⟨_, rfl⟩
        rw [← hG] at HC HF HS2 HGI
        have HA := Lib.hid ha
        clear hp HEL0 HD ha hC hG HTT0 htx hac htb hsum hpos
        go_wp2_with fail
        generalize (wr.alloc (.cells #[.int .i64 s.1, .bool s.2] 34)) = W1 at *
        refine (HEL.out _).mono ?_
        rintro e w2 ⟨rfl, hb2⟩
        have HAV2 := Lib.hid (HAVA.out.keep (hb2.mono HAVA.out.lt))
        have HTX2 := Lib.hid (HTXA.out.blw hb2)
        clear c0 c1 c2 c3 c4 s0 s1
        obtain ⟨c0, c1, c2, c3, c4⟩ := HAV2.out.x
        have s0 := keep_below hb2 HSB.out.1
        have s1 := keep_below hb2 HSB.out.2
        clear hb2
        go_wp2_with fail
        refine (HTT.out _ HAV2.out.below).mono ?_
        rintro e w3 ⟨rfl, hb3⟩
        have HAV3 := Lib.hid (HAV2.out.keep (hb3.mono HAV2.out.lt))
        have HTX3 := Lib.hid (HTX2.out.blw hb3)
        clear c0 c1 c2 c3 c4 s0 s1 hb3
        go_wp2_with (refine wpList_append_txt (by rfl) _ _ (by rfl) _ (w.heap.size + 1) tv acc tx (by rfl) (by rfl) HTX3.out HPOS.out HSUM.out HAV3.out.lt ?_)
        intro tv2 w4 htx4 hb4
        have HAV4 := Lib.hid (HAV3.out.keep hb4)
        have HTX4 := Lib.hid htx4
        have HNX := Lib.hid (HAV4.out.next (G := G))
        have HTX5 := Lib.hid (HTX4.out.five (v0 := .int .i64 G.k) (v1 := .int .i64 G.n) (v2 := .int .i64 G.x) (v3 := .string ⟨G.s.toArray⟩) (v4 := .slice G.a G.l.length G.cap) (Nat.lt_succ_self w.heap.size))
        clear hb4 htx4
        obtain ⟨c0, c1, c2, c3, c4⟩ := HAV4.out.x
        have xf := HAV4.out.xf
        obtain ⟨f0, f1, f2, f3, f4⟩ := HC.out.keep (HAV4.out.below.block b (by omega))
        rw [HA.out] at c4
        have hj1 : (j : Int) < Y.l.length := by omega
        go_wp2
        go_roundw
        case rel => exact ⟨tv2, i' + 1, G, acc ++ tx, rfl, by go_num, by omega, HF, HAC2, HTX5, HNX, HGI, HS2⟩
        case measure => simp [intOf]; omega
    · have HF : Hid (r = acc) := Lib.hid (by rw [HRi.out, List.drop_eq_nil_of_le (by omega)]; simp [tailTx])
      have hcv := conv_str wr tv acc HTXi.out.slc
      go_wp2
      go_ret
      exact ⟨by rw [HF.out]; rfl, HAV.out.below⟩
end Go.Proofs.YtgfebmnlcihpnaaDoor
