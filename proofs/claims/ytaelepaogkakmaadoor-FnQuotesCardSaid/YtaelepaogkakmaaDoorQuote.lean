/- Quote: the program's and the model's answers. -/
import Derived.Test.YtaelepaogkakmaaDoorEscape
import Derived.Test.YtaelepaogkakmaaDoorTextOk
import Derived.Test.YtaelepaogkakmaaDoorRunesOf
namespace Go.Proofs.YtaelepaogkakmaaDoor
open Go.RowKit Go.Maps
set_option maxRecDepth 100000
theorem own_ne_obj {w : World} {B E n b : Nat} {v : Value} {xs : List Value} {o : Obj} (h : w.ownsRow B E 1 v n xs) (hb : w.heap[b]? = some o) (ho : ∀ C T fz, o ≠ .cells C T fz) : v.ownBlock ≠ some b := by
  intro e
  rcases h.2 with ⟨rfl, _⟩ | ⟨g, cap, cur, rfl, _, hg, _⟩
  · simp [Value.ownBlock] at e
  · simp [Value.ownBlock] at e
    subst e
    rw [hg] at hb
    injection hb with hb
    exact ho _ _ _ hb.symm
theorem MapL.ne {w : World} {B E n b : Nat} {v : Value} {xs : List Value} (h : w.ownsRow B E 1 v n xs) (hM : MapL w b) : some b ≠ v.ownBlock := by
  obtain ⟨D, ⟨es, clock, hb, _⟩, _⟩ := hM
  exact fun e => own_ne_obj h hb (fun _ _ _ g => by cases g) e.symm
theorem quote_impl_none (l : List UInt8) (w : World) (hl : l.length ≤ 1073741824) (hr : runes l = none) : Calls Tryd.prog 9 #[.string ⟨l.toArray⟩] w fun e w' => e = .returned (.string ⟨(quoteL l).toArray⟩) ∧ Below w.heap.size w w' := by
  have ct := textok_impl l w (by omega)
  rw [hr] at ct
  rw [quoteL_none hr]
  generalize (ByteArray.mk l.toArray) = s at *
  go_enter Tryd.func9, Tryd.ntmps9
  go_wp2_with fail
  refine ct.mono ?_
  rintro e w1 ⟨rfl, b1⟩
  go_wp2
  go_ret
  exact ⟨rfl, b1⟩
theorem lit_own (w : World) (x : UInt8) : (w.alloc (.cells #[.int .u8 x.toNat] 5)).ownsRow w.heap.size 5 1 (.slice (some ⟨w.heap.size, 0, none⟩) 1 1) 1 (bv [x]) :=
  World.ownsRow_lit w #[.int .u8 x.toNat] 1 (Nat.le_refl _) (by decide) rfl
set_option maxHeartbeats 2000000 in
theorem quote_impl_some (l : List UInt8) (rs : List Int) (w : World) (hl : l.length ≤ 1073741824) (hr : runes l = some rs) : Calls Tryd.prog 9 #[.string ⟨l.toArray⟩] w fun e w' => e = .returned (.string ⟨(quoteL l).toArray⟩) ∧ Below w.heap.size w w' := by
  obtain ⟨i0, hi, hz0, hz1, hz2⟩ := info_parts byteInfo'
  have ct := textok_impl l w (by omega)
  have hr0 : runesAt l 0 = some rs := hr
  rw [hr] at ct
  have hlen := runes_len _ l rs (Nat.le_refl _) hr
  rw [quoteL_some hr]
  have hsz := size_l l
  have hszz : ((ByteArray.mk l.toArray).size : Int) = l.length := by rw [hsz]
  clear hr
  have CL := Lib.hid (fun w => letters_impl w)
  have CA := Lib.hid (fun w B v l n b h0 h1 ho hB hl hM => appescape_impl w B v l n b h0 h1 ho hB hl hM)
  generalize hs : (ByteArray.mk l.toArray) = s at *
  have HS := Lib.hid hs
  clear hs
  go_enter Tryd.func9, Tryd.ntmps9
  go_wp2_with fail
  refine ct.mono ?_
  rintro e w1 ⟨rfl, b1⟩
  have B1 := Lib.hid b1
  clear ct b1
  go_wp2_with fail
  refine (CL.out w1).mono ?_
  rintro e w2 ⟨bm, rfl, hbm, hM, b2⟩
  have hb := B1.out.trans (b2.mono B1.out.size)
  have HB := Lib.hid hb
  have HM := Lib.hid hM
  have HO := Lib.hid (own_base (lit_own w2 34) hb.size)
  clear hb hM b2
  go_wp2
  generalize hW3 : w2.alloc (.cells #[.int .u8 34] 5) = w3 at *
  have HB3 := Lib.hid (show Below w.heap.size w w3 by rw [← hW3]; exact HB.out.alloc HB.out.size _)
  have HM3 := Lib.hid (show MapL w3 bm by rw [← hW3]; exact HM.out.below (below_alloc w2 _) HM.out.lt)
  have HO3 := Lib.hid (show w3.ownsRow w.heap.size 5 1 (.slice (some ⟨w2.heap.size, 0, none⟩) 1 1) 1 (bv [34]) by rw [← hW3]; exact HO.out)
  have hz : w2.heap.size + 1 = w3.heap.size := by rw [← hW3]; simp
  clear HM HB HO hW3
  rw [hz]
  have HZ := Lib.hid hz
  clear hz
  go_loopw [4] (fun v wr => ∃ (pos : Nat) (acc rest : List Int), wr.heap[w3.heap.size]? = some (.stringIter s pos) ∧ wr.ownsRow w.heap.size 5 1 v (34 :: escsL acc).length (bv (34 :: escsL acc)) ∧ MapL wr bm ∧ Below w.heap.size w wr ∧ pos ≤ l.length ∧ runesAt l pos = some rest ∧ acc ++ rest = rs) (fun _ wr => l.length - wr.iterPos w3.heap.size)
  case atStart => exact ⟨0, [], rs, World.iter_heap w3 s 0, own_below HO3.out ((Below.refl w3.heap.size w3).alloc (Nat.le_refl _) _), HM3.out.below ((Below.refl w3.heap.size w3).alloc (Nat.le_refl _) _) HM3.out.lt, HB3.out.alloc HB3.out.size _, Nat.zero_le _, hr0, rfl⟩
  case round =>
    obtain ⟨pos, acc, rest, hit, hown, hM, hb, hpos, hra, hac⟩ := hrel
    have hal : acc.length ≤ rs.length := by rw [← hac]; simp
    have hel := escsL_len acc
    have hd : Utf8.decode s pos = dec l pos := by rw [← HS.out]; rfl
    by_cases hp : pos < l.length
    · have hpz : pos < s.size := by omega
      have HP0 := Lib.hid (show wr.iterPos w3.heap.size = pos by unfold World.iterPos; rw [hit])
      have hnx : ∀ ty, (Instr.next (.pointer (some ⟨w3.heap.size, 0, none⟩)) true ty).run Tryd.prog wr = _ := fun ty => Lib.run_next_any_at wr w3.heap.size s pos ty hit hpz
      rw [hd] at hnx
      have hwd := dec_pos hp
      have hle : (dec l pos).1 ≤ 2147483647 := by rw [← hd]; exact decode_le s pos
      have hgood : dec l pos ≠ (65533, 1) := by
        intro g
        rw [runesAt_bad hp g] at hra
        cases hra
      rw [runesAt_good hp hgood, Option.map_eq_some_iff] at hra
      obtain ⟨rest', hra, rfl⟩ := hra
      generalize hk : (dec l pos).2 = k at *
      generalize hq : (dec l pos).1 = q at *
      generalize hwr : wr.iterAt w3.heap.size s (pos + k) = w4 at *
      have hon := iter_only wr w3.heap.size s (pos + k)
      rw [hwr] at hon
      have hit2 : w4.heap[w3.heap.size]? = some (.stringIter s (pos + k)) := by rw [← hwr]; exact iter_new hit
      have hown2 := own_only hown hon (own_ne_iter hown hit)
      have hM2 : MapL w4 bm := by
        obtain ⟨D, ⟨es, clock, hbm', hrest⟩, hD⟩ := hM
        refine ⟨D, ⟨es, clock, ?_, hrest⟩, hD⟩
        have hne : bm ≠ w3.heap.size := by intro e; subst e; rw [hit] at hbm'; cases hbm'
        rw [hon.block bm (Array.getElem?_eq_some_iff.1 hbm').1 hne]; exact hbm'
      have hb2 := only_below hb hon HB3.out.size hb.size
      have hlen2 := hb2.size
      have ca := CA.out w4 w.heap.size _ _ (q : Int) bm (by omega) (by omega) hown2 hlen2 (by simp; omega) hM2
      have HI := Lib.hid hit2
      have HW := Lib.hid hwd
      have HR := Lib.hid hra
      have HA := Lib.hid hac
      have HB2 := Lib.hid hb2
      have HM2 := Lib.hid hM2
      have HO2 := Lib.hid hown2
      have hq1 : (q : Int) ≤ 2147483647 := by omega
      clear hon hgood hd hown hb hwr hit hpz hk hq hit2 hwd hra hac hal hel hb2 hM2 hown2 hM hle hlen2
      go_wp2_with fail
      refine ca.mono ?_
      rintro e w5 ⟨v', rfl, hown3, hg⟩
      have hkeep : w5.heap[w3.heap.size]? = some (.stringIter s (pos + k)) := by
        have h1 : w3.heap.size < w4.heap.size := (Array.getElem?_eq_some_iff.1 HI.out).1
        rw [hg.block _ h1 (fun e => own_ne_iter HO2.out HI.out e.symm)]
        exact HI.out
      have HK := Lib.hid hkeep
      have HX : w5.iterPos w3.heap.size = pos + k := by unfold World.iterPos; rw [hkeep]
      have HM5 := Lib.hid (HM2.out.kept hg (MapL.ne HO2.out HM2.out))
      have HB5 := Lib.hid (HB2.out.trans (grown_belowN hg HB2.out.size (fun k hk => (HO2.out.lt k hk).1)))
      have HO5 := Lib.hid hown3
      clear hkeep hown3 hg ca HO2 HM2 HB2
      go_wp2
      go_roundw
      case rel =>
        have hw := HW.out
        refine ⟨pos + k, acc ++ [(q : Int)], rest', HK.out, ?_, HM5.out, HB5.out, hw.2, HR.out, by rw [List.append_assoc]; exact HA.out⟩
        have e1 : 34 :: escsL (acc ++ [(q : Int)]) = (34 :: escsL acc) ++ escL q := by rw [escsL_app]; simp [escsL]
        rw [e1]
        exact HO5.out
      case measure =>
        have hw := HW.out
        have := HP0.out
        omega
    · have hpz : ¬ pos < s.size := by omega
      have hnx : ∀ ty, (Instr.next (.pointer (some ⟨w3.heap.size, 0, none⟩)) true ty).run Tryd.prog wr = _ := fun ty => Lib.run_next_end_at wr w3.heap.size s pos ty hit hpz
      rw [runesAt_end hp] at hra
      injection hra with hra
      subst hra
      rw [List.append_nil] at hac
      subst hac
      have HO2 := Lib.hid hown
      have HB2 := Lib.hid hb
      clear hown hb hit hd hM
      go_wp2_with (at_builtin; refine wpList_append_own _ rfl _ _ 22 rfl w.heap.size 5 i0 (.int .u8 0) 1 1 Tryd.underlying22 hi hz0 hz1 hz2 rfl (by decide) _ _ _ rfl (HO2.out.alloc _) ⟨wr.heap.size, 0, none⟩ 1 1 [.int .u8 34] rfl rfl ?c1 ?c2 ?c3 ?c4 ?c5 ?_)
      case c1 => exact cell_one_new wr (.int .u8 34) 5
      case c2 => intro u hu; simp at hu; rcases hu with rfl; rfl
      case c3 => simp; unfold maxLen; omega
      case c4 => simp; omega
      case c5 => have := HB2.out.size; simp; omega
      intro v' w5 hown3 hg _
      have hb5 := below_step HB2.out HB2.out.size HO2.out hg
      have hcat : bv (34 :: escsL acc) ++ [.int .u8 34] = bv (34 :: (escsL acc ++ [34])) := by simp [bv]
      rw [hcat] at hown3
      have hcv := conv_str w5 _ _ (own_slc hown3)
      have HB5 := Lib.hid hb5
      generalize hs2 : (ByteArray.mk (34 :: (escsL acc ++ [34])).toArray) = s2 at *
      have HS2 := Lib.hid hs2
      clear hown3 hg hb5 hcat hs2 HB2 HO2
      go_wp2
      go_ret
      exact ⟨by rw [HS2.out]; rfl, HB5.out⟩
theorem quote_impl (l : List UInt8) (w : World) (hl : l.length ≤ 1073741824) : Calls Tryd.prog 9 #[.string ⟨l.toArray⟩] w fun e w' => e = .returned (.string ⟨(quoteL l).toArray⟩) ∧ Below w.heap.size w w' := by
  cases hr : runes l with
  | none => exact quote_impl_none l w hl hr
  | some rs => exact quote_impl_some l rs w hl hr
theorem quote_spec_none (l : List UInt8) (w : World) (hl : l.length ≤ 1073741824) (hr : runes l = none) : Calls Tryd.prog 14 #[.string ⟨l.toArray⟩] w fun e w' => e = .returned (.string ⟨(quoteL l).toArray⟩) ∧ Below w.heap.size w w' := by
  have ct := textok_spec l w (by omega)
  rw [hr] at ct
  rw [quoteL_none hr]
  generalize (ByteArray.mk l.toArray) = s at *
  go_enter Tryd.func14, Tryd.ntmps14
  go_wp2_with fail
  refine ct.mono ?_
  rintro e w1 ⟨rfl, b1⟩
  go_wp2
  go_ret
  exact ⟨rfl, b1⟩
set_option maxHeartbeats 2000000 in
theorem quote_spec_some (l : List UInt8) (rs : List Int) (w : World) (hl : l.length ≤ 1073741824) (hr : runes l = some rs) : Calls Tryd.prog 14 #[.string ⟨l.toArray⟩] w fun e w' => e = .returned (.string ⟨(quoteL l).toArray⟩) ∧ Below w.heap.size w w' := by
  have ct := textok_spec l w (by omega)
  have CR := Lib.hid (fun w => runesof_spec_some l rs w hl hr)
  rw [hr] at ct
  have hlen := runes_len _ l rs (Nat.le_refl _) hr
  rw [quoteL_some hr]
  clear hr
  have CE := Lib.hid (fun n w => escapeof_spec n w)
  generalize hs : (ByteArray.mk l.toArray) = s at *
  clear hs
  go_enter Tryd.func14, Tryd.ntmps14
  go_wp2_with fail
  refine ct.mono ?_
  rintro e w1 ⟨rfl, b1⟩
  have B1 := Lib.hid b1
  clear ct b1
  go_wp2_with fail
  refine (CR.out w1).mono ?_
  rintro e w2 ⟨v, rfl, hown, b2⟩
  obtain ⟨a, cap, rfl, hcs⟩ := reads_int (own_reads hown)
  have HB := Lib.hid (B1.out.trans (b2.mono B1.out.size))
  have HC := Lib.hid hcs
  clear b2 hown hcs
  go_wp2
  go_loopw [3, 5] (fun out i wr => ∃ (i' : Nat), i = .int .i64 i' ∧ i' ≤ rs.length ∧ out = .string ⟨(34 :: escsL (rs.take i')).toArray⟩ ∧ Below w2.heap.size w2 wr) (fun _ i _ => rs.length - (intOf i).toNat)
  case atStart => exact ⟨0, rfl, Nat.zero_le _, rfl, Below.refl _ _⟩
  case round =>
    obtain ⟨i, rfl, hi', rfl, hb⟩ := hrel
    have hel := escsL_len (rs.take i)
    have htk : (rs.take i).length ≤ i := by simp; omega
    by_cases hlt : i < rs.length
    · obtain ⟨b', o, rfl, hcl⟩ := HC.out i hlt
      have hcl' : wr.cell? ⟨b', o + i, none⟩ = some (.int .i64 rs[i]) := by rw [hb.cell (p := ⟨b', o + i, none⟩) (cell_lt hcl)]; exact hcl
      have HT := Lib.hid (escsL_take rs i hlt)
      have HL := Lib.hid hlt
      have HBB := Lib.hid hb
      have hqe := escL_len rs[i]
      generalize rs[i] = q at *
      have ce := CE.out q wr
      generalize hF : (34 :: escsL (rs.take i)) = F at *
      have hFl : F.length ≤ 6 * rs.length + 1 := by rw [← hF]; simp; omega
      have HF := Lib.hid hF
      have hcat : ¬ (9223372036854775807 < F.length + (escL q).length) := by omega
      clear hcl hb hel htk hF hqe
      generalize hE : escL q = E at *
      have HE := Lib.hid hE
      clear hE
      go_wp2_with fail
      refine ce.mono ?_
      rintro e w3 ⟨rfl, b3⟩
      have HB3 := Lib.hid (HBB.out.trans (b3.mono HBB.out.size))
      clear b3 ce
      go_wp2
      go_roundw
      case rel =>
        refine ⟨i + 1, by go_num, HL.out, ?_, HB3.out⟩
        rw [HT.out, ba_app, ← HF.out]
        simp
      case measure => have := HL.out; simp [intOf]; omega
    · obtain rfl : i = rs.length := by omega
      rw [List.take_of_length_le (Nat.le_refl _)] at hel ⊢
      have hcat : ¬ (9223372036854775807 < (34 :: escsL rs).length + [(34 : UInt8)].length) := by simp; omega
      have HB4 := Lib.hid (HB.out.trans (hb.mono HB.out.size))
      generalize hF : (34 :: escsL rs) = F at *
      have HF := Lib.hid hF
      clear hel htk hb hF
      go_wp2
      go_ret
      refine ⟨?_, HB4.out⟩
      have e1 : 34 :: (escsL rs ++ [34]) = F ++ [34] := by rw [← HF.out]; rfl
      rw [e1]
      exact congrArg (fun x => Ending.returned (.string x)) (ba_app F [34])
theorem quote_spec (l : List UInt8) (w : World) (hl : l.length ≤ 1073741824) : Calls Tryd.prog 14 #[.string ⟨l.toArray⟩] w fun e w' => e = .returned (.string ⟨(quoteL l).toArray⟩) ∧ Below w.heap.size w w' := by
  cases hr : runes l with
  | none => exact quote_spec_none l w hl hr
  | some rs => exact quote_spec_some l rs w hl hr
/-- nothing is escaped -/
def bareB (l : List UInt8) : Bool := quoteL l == 34 :: (l ++ [34])
theorem ba_two (l : List UInt8) : (ByteArray.mk #[34]) ++ (ByteArray.mk l.toArray) ++ (ByteArray.mk #[34]) = ByteArray.mk (34 :: (l ++ [34])).toArray := by
  apply ByteArray.ext; simp
theorem ba_two_list (l : List UInt8) : ((ByteArray.mk #[34]) ++ (ByteArray.mk l.toArray) ++ (ByteArray.mk #[34])).toList = 34 :: (l ++ [34]) := by rw [ba_two]; simp
theorem bare_impl (l : List UInt8) (w : World) (hl : l.length ≤ 1073741824) : Calls Tryd.prog 15 #[.string ⟨l.toArray⟩] w fun e w' => e = .returned (.bool (bareB l)) ∧ Below w.heap.size w w' := by
  have cq := quote_impl l w hl
  have h1 : ¬ (9223372036854775807 < [(34 : UInt8)].length + l.length) := by simp; omega
  have h2 : ¬ (9223372036854775807 < (34 :: l).length + [(34 : UInt8)].length) := by simp; omega
  have h3 := ba_two_list l
  have e : (quoteL l == 34 :: (l ++ [34])) = bareB l := rfl
  generalize bareB l = bb at *
  generalize quoteL l = q at *
  go_enter Tryd.func15, Tryd.ntmps15
  go_wp2_with fail
  refine cq.mono ?_
  rintro e w1 ⟨rfl, b1⟩
  go_wp2
  go_ret
  exact ⟨by simp only [h3, e]; rfl, b1⟩
theorem bare_spec (l : List UInt8) (w : World) (hl : l.length ≤ 1073741824) : Calls Tryd.prog 16 #[.string ⟨l.toArray⟩] w fun e w' => e = .returned (.bool (bareB l)) ∧ Below w.heap.size w w' := by
  have ct := textok_spec l w (by omega)
  have CQ := Lib.hid (fun w => quote_spec l w hl)
  have h1 : ¬ (9223372036854775807 < [(34 : UInt8)].length + l.length) := by simp; omega
  have h2 : ¬ (9223372036854775807 < (34 :: l).length + [(34 : UInt8)].length) := by simp; omega
  have h3 := ba_two_list l
  cases hr : runes l with
  | none =>
    have hf : bareB l = false := by unfold bareB; rw [quoteL_none hr]; rfl
    rw [hf]
    rw [hr] at ct
    clear hr hf
    go_enter Tryd.func16, Tryd.ntmps16
    go_wp2_with fail
    refine ct.mono ?_
    rintro e w1 ⟨rfl, b1⟩
    go_wp2
    go_ret
    exact ⟨rfl, b1⟩
  | some rs =>
    rw [hr] at ct
    have e : (quoteL l == 34 :: (l ++ [34])) = bareB l := rfl
    generalize bareB l = bb at *
    generalize quoteL l = q at *
    clear hr
    go_enter Tryd.func16, Tryd.ntmps16
    go_wp2_with fail
    refine ct.mono ?_
    rintro e w1 ⟨rfl, b1⟩
    have B1 := Lib.hid b1
    clear b1
    go_wp2_with fail
    refine (CQ.out w1).mono ?_
    rintro e w2 ⟨rfl, b2⟩
    have B2 := Lib.hid (B1.out.trans (b2.mono B1.out.size))
    clear b2 ct
    go_wp2
    go_ret
    exact ⟨by simp only [h3, e]; rfl, B2.out⟩
end Go.Proofs.YtaelepaogkakmaaDoor
