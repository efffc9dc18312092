import Derived.Test.YtnikcgmbkmbloaaGreatDoorG9
import Derived.Test.YtnikcgmbkmbloaaGreatDoorG8
import Derived.Test.YtnikcgmbkmbloaaGreatDoorG4
/- The characters of a string: the program's and the model's answers, and that they own their memory. -/
namespace Go.Proofs.YtnikcgmbkmbloaaGreatDoor
open Go.RowKit
set_option maxRecDepth 100000
theorem intInfo' : (Tryz.prog.info? 3).map (fun i => (i.zero, i.size, i.bytes)) = some (some (.int .i64 0), 1, 8) := by kernel_rfl
theorem own_ne_iter {w : World} {B E n b : Nat} {v : Value} {xs : List Value} {s : ByteArray} {p : Nat} (h : w.ownsRow B E 1 v n xs) (hb : w.heap[b]? = some (.stringIter s p)) : v.ownBlock ≠ some b := by
  intro e
  rcases h.2 with ⟨rfl, _⟩ | ⟨g, cap, cur, rfl, _, hg, _⟩
  · simp [Value.ownBlock] at e
  · simp [Value.ownBlock] at e
    subst e
    rw [hg] at hb
    cases hb
theorem own_ne_cells {w : World} {B E n b T : Nat} {v : Value} {xs : List Value} {C : Array Value} {fz : Nat × Nat} (h : w.ownsRow B E 1 v n xs) (hb : w.heap[b]? = some (.cells C T fz)) (hT : E ≠ T) : v.ownBlock ≠ some b := by
  intro e
  rcases h.2 with ⟨rfl, _⟩ | ⟨g, cap, cur, rfl, _, hg, _⟩
  · simp [Value.ownBlock] at e
  · simp [Value.ownBlock] at e
    subst e
    rw [hg] at hb
    injection hb with hb
    injection hb with _ hb _
    exact hT hb
theorem iter_only (w : World) (k : Nat) (s : ByteArray) (p : Nat) : Only k w (w.iterAt k s p) :=
  ⟨rfl, rfl, rfl, by simp [World.iterAt], fun i _ hi => by simp [World.iterAt, Array.getElem?_setIfInBounds]; intro e; exact absurd e.symm hi⟩
theorem iter_new {w : World} {k : Nat} {s s' : ByteArray} {p p' : Nat} (h : w.heap[k]? = some (.stringIter s' p')) : (w.iterAt k s p).heap[k]? = some (.stringIter s p) := by
  have hk : k < w.heap.size := (Array.getElem?_eq_some_iff.1 h).1
  simp [World.iterAt, hk]
theorem reads_block {w w' : World} {b len cap : Nat} {xs : List Value} (h : Reads w (.slice (some ⟨b, 0, none⟩) len cap) xs) (hb : w'.heap[b]? = w.heap[b]?) : Reads w' (.slice (some ⟨b, 0, none⟩) len cap) xs := by
  obtain ⟨a, c, e, hc⟩ := h
  refine ⟨a, c, e, fun j hj => ?_⟩
  obtain ⟨b', o, ha, hcl⟩ := hc j hj
  refine ⟨b', o, ha, ?_⟩
  injection e with e1 e2 e3
  rw [ha] at e1
  injection e1 with e1
  injection e1 with e1 e4
  subst e1
  rw [World.cell?_of_block (w := w) (w' := w') hb]; exact hcl
/-- what RunesOf hands on: a row of its own that holds the ints l -/
def FreshI (w : World) (l : List Int) (e : Ending) (w' : World) : Prop := ∃ v', e = .returned v' ∧ w'.ownsRow w.heap.size 3 1 v' l.length (iv l) ∧ Below w.heap.size w w'
theorem own_new0 (w : World) (E : TypeId) : (w.alloc (.cells #[] E)).ownsRow w.heap.size E 1 (.slice (some ⟨w.heap.size, 0, none⟩) 0 0) 0 [] := World.ownsRow_made w #[] 0 (Nat.le_refl _) (by decide) rfl
theorem runesof_spec_none (l : List UInt8) (w : World) (hl : l.length ≤ 1073741824) (hr : runes l = none) : Calls Tryz.prog 137 #[.string ⟨l.toArray⟩] w (FreshI w []) := by
  have ct := fun w => textok_spec l w (by omega)
  rw [hr] at ct
  have CT := Lib.hid ct
  clear ct hr
  generalize (ByteArray.mk l.toArray) = s at *
  go_enter Tryz.func137, Tryz.ntmps137
  go_wp2_with fail
  refine (CT.out _).mono ?_
  rintro e w1 ⟨rfl, b1⟩
  have ho := own_below (own_new0 w 3) b1
  have hb : Below w.heap.size w w1 := ((Below.refl w.heap.size w).alloc (Nat.le_refl _) _).trans (b1.mono (by simp))
  clear b1
  go_wp2
  go_ret
  exact ⟨_, rfl, ho, hb⟩
theorem runesof_spec_some (l : List UInt8) (rs : List Int) (w : World) (hl : l.length ≤ 1073741824) (hr : runes l = some rs) : Calls Tryz.prog 137 #[.string ⟨l.toArray⟩] w (FreshI w rs) := by
  obtain ⟨i0, hi, hz0, hz1, hz2⟩ := info_parts intInfo'
  have ct := fun w => textok_spec l w (by omega)
  have hr0 : runesAt l 0 = some rs := hr
  rw [hr] at ct
  have CT := Lib.hid ct
  have CV := Lib.hid (fun w => conv_bytes w l)
  clear ct hr
  generalize (ByteArray.mk l.toArray) = s at *
  go_enter Tryz.func137, Tryz.ntmps137
  go_wp2_with fail
  refine (CT.out _).mono ?_
  rintro e w1 ⟨rfl, b1⟩
  have ho := own_below (own_new0 w 3) b1
  have hb : Below w.heap.size w w1 := ((Below.refl w.heap.size w).alloc (Nat.le_refl _) _).trans (b1.mono (by simp))
  obtain ⟨cap, w2, hcv, hR, hb2, C, fz, hC⟩ := CV.out w1
  have HO := Lib.hid (own_below ho hb2)
  have HB := Lib.hid (hb.trans (hb2.mono hb.size))
  have HR := Lib.hid hR
  have HC := Lib.hid hC
  clear b1 ho hb hb2 hR hC
  go_wp2
  go_loopw [3, 5] (fun v i wr => ∃ (pos : Nat) (acc rest : List Int), i = .int .i64 pos ∧ wr.heap[w1.heap.size]? = w2.heap[w1.heap.size]? ∧ wr.ownsRow w.heap.size 3 1 v acc.length (iv acc) ∧ Below w.heap.size w wr ∧ pos ≤ l.length ∧ runesAt l pos = some rest ∧ acc ++ rest = rs ∧ acc.length ≤ pos) (fun _ i _ => l.length - (intOf i).toNat)
  case atStart => exact ⟨0, [], rs, rfl, rfl, HO.out, HB.out, Nat.zero_le _, hr0, rfl, Nat.le_refl _⟩
  case round =>
    obtain ⟨pos, acc, rest, rfl, hit, hown, hb, hpos, hra, hac, hal⟩ := hrel
    have HP := Lib.hid hpos
    by_cases hp : pos < l.length
    · have hwd := dec_pos hp
      have hgood : dec l pos ≠ (65533, 1) := by
        intro g
        rw [runesAt_bad hp g] at hra
        cases hra
      have cg := get_spec_any wr _ l pos (reads_block HR.out hit) (by omega)
      rw [show getV l pos = .tuple #[.int .i64 (dec l pos).1, .int .i64 (pos + (dec l pos).2), .bool true] from getV_good hp rfl (fun g => hgood (Prod.ext g.1 g.2))] at cg
      rw [runesAt_good hp hgood, Option.map_eq_some_iff] at hra
      obtain ⟨rest', hra, rfl⟩ := hra
      generalize hk : (dec l pos).2 = k at *
      generalize hq : (dec l pos).1 = q at *
      have HI := Lib.hid hit
      have HW := Lib.hid hwd
      have HRA := Lib.hid hra
      have HA := Lib.hid hac
      have HL := Lib.hid hal
      have HO2 := Lib.hid hown
      have HB2 := Lib.hid hb
      clear hgood hk hq hit hwd hra hac hal hown hb
      go_wp2_with (first | (go_at_call 144; refine cg.mono ?_; rintro e w' ⟨rfl, rfl⟩) | (at_builtin; refine wpList_append_own _ rfl _ _ 118 rfl w.heap.size 3 i0 (.int .i64 0) 1 8 Tryz.underlying118 hi hz0 hz1 hz2 rfl (by decide) _ _ _ rfl (HO2.out.alloc _) ⟨wr.heap.size, 0, none⟩ 1 1 [.int .i64 q] rfl rfl ?c1 ?c2 ?c3 ?c4 ?c5 ?_))
      case c1 =>
        intro j u hj
        match j, hj with
        | 0, hj => simp at hj; subst hj; simp [Addr.add]
        | (j + 1), hj => simp at hj
      case c2 => intro u hu; simp at hu; rcases hu with rfl; rfl
      case c3 => have := HL.out; have := HP.out; unfold maxLen; omega
      case c4 => have := HL.out; have := HP.out; omega
      case c5 => have := HB2.out.size; simp; omega
      intro v' w3 hown3 hgrow _
      have hne := own_ne_cells HO2.out (HI.out.trans HC.out) (by decide)
      have hkeep : w3.heap[w1.heap.size]? = w2.heap[w1.heap.size]? := by
        have h1 : w1.heap.size < wr.heap.size := (Array.getElem?_eq_some_iff.1 (HI.out.trans HC.out)).1
        rw [hgrow.block _ (by simp; omega) (fun e => hne e.symm)]
        exact (heap_alloc_old wr _ h1).trans HI.out
      have hb3 := below_step HB2.out HB2.out.size HO2.out hgrow
      have HK := Lib.hid hkeep
      have HB3 := Lib.hid hb3
      have HO3 := Lib.hid hown3
      clear hkeep hb3 hown3 hgrow hne
      go_wp2
      go_roundw
      case rel =>
        have hw := HW.out
        refine ⟨pos + k, acc ++ [(q : Int)], rest', by go_num, HK.out, ?_, HB3.out, hw.2, HRA.out, by rw [List.append_assoc]; exact HA.out, by have := HL.out; simp; omega⟩
        rw [List.length_append, iv_append]; exact HO3.out
      case measure =>
        have hw := HW.out
        simp [intOf]
        omega
    · rw [runesAt_end hp] at hra
      injection hra with hra
      subst hra
      rw [List.append_nil] at hac
      subst hac
      have HO2 := Lib.hid hown
      have HB2 := Lib.hid hb
      clear hown hb hit
      go_wp2
      go_ret
      exact ⟨_, rfl, HO2.out, HB2.out⟩
theorem runesof_spec (l : List UInt8) (w : World) (hl : l.length ≤ 1073741824) : Calls Tryz.prog 137 #[.string ⟨l.toArray⟩] w (FreshI w ((runes l).getD [])) := by
  cases hr : runes l with
  | none => exact runesof_spec_none l w hl hr
  | some rs => exact runesof_spec_some l rs w hl hr
end Go.Proofs.YtnikcgmbkmbloaaGreatDoor
/- Quote: the program's and the model's answers. -/
namespace Go.Proofs.YtnikcgmbkmbloaaGreatDoor
open Go.RowKit Go.Maps
set_option maxRecDepth 100000
theorem own_ne_obj {w : World} {B E n b : Nat} {v : Value} {xs : List Value} {o : Obj} (h : w.ownsRow B E 1 v n xs) (hb : w.heap[b]? = some o) (ho : ∀ C T fz, o ≠ .cells C T fz) : v.ownBlock ≠ some b := by
  intro e
  rcases h.2 with ⟨rfl, _⟩ | ⟨g, cap, cur, rfl, _, hg, _⟩
  · simp [Value.ownBlock] at e
  · simp [Value.ownBlock] at e
    subst e
    rw [hg] at hb
    injection hb with hb
    exact ho _ _ _ hb.symm
theorem MapL.ne {w : World} {B E n b : Nat} {v : Value} {xs : List Value} (h : w.ownsRow B E 1 v n xs) (hM : MapL w b) : some b ≠ v.ownBlock := by
  obtain ⟨D, ⟨es, clock, hb, _⟩, _⟩ := hM
  exact fun e => own_ne_obj h hb (fun _ _ _ g => by cases g) e.symm
theorem quote_impl_none (l : List UInt8) (w : World) (hl : l.length ≤ 1073741824) (hr : runes l = none) : Calls Tryz.prog 163 #[.string ⟨l.toArray⟩] w fun e w' => e = .returned (.string ⟨(quoteL l).toArray⟩) ∧ Below w.heap.size w w' := by
  have ct := textok_impl l w (by omega)
  rw [hr] at ct
  rw [quoteL_none hr]
  generalize (ByteArray.mk l.toArray) = s at *
  go_enter Tryz.func163, Tryz.ntmps163
  go_wp2_with fail
  refine ct.mono ?_
  rintro e w1 ⟨rfl, b1⟩
  go_wp2
  go_ret
  exact ⟨rfl, b1⟩
theorem lit_own (w : World) (x : UInt8) : (w.alloc (.cells #[.int .u8 x.toNat] 5)).ownsRow w.heap.size 5 1 (.slice (some ⟨w.heap.size, 0, none⟩) 1 1) 1 (bv [x]) :=
  World.ownsRow_lit w #[.int .u8 x.toNat] 1 (Nat.le_refl _) (by decide) rfl
set_option maxHeartbeats 2000000 in
theorem quote_impl_some (l : List UInt8) (rs : List Int) (w : World) (hl : l.length ≤ 1073741824) (hr : runes l = some rs) : Calls Tryz.prog 163 #[.string ⟨l.toArray⟩] w fun e w' => e = .returned (.string ⟨(quoteL l).toArray⟩) ∧ Below w.heap.size w w' := by
  obtain ⟨i0, hi, hz0, hz1, hz2⟩ := info_parts byteInfo'
  have ct := textok_impl l w (by omega)
  have hr0 : runesAt l 0 = some rs := hr
  rw [hr] at ct
  have hlen := runes_len _ l rs (Nat.le_refl _) hr
  rw [quoteL_some hr]
  have hsz := size_l l
  have hszz : ((ByteArray.mk l.toArray).size : Int) = l.length := by rw [hsz]
  clear hr
  have CL := Lib.hid (fun w => letters_impl w)
  have CA := Lib.hid (fun w B v l n b h0 h1 ho hB hl hM => appescape_impl w B v l n b h0 h1 ho hB hl hM)
  generalize hs : (ByteArray.mk l.toArray) = s at *
  have HS := Lib.hid hs
  clear hs
  go_enter Tryz.func163, Tryz.ntmps163
  go_wp2_with fail
  refine ct.mono ?_
  rintro e w1 ⟨rfl, b1⟩
  have B1 := Lib.hid b1
  clear ct b1
  go_wp2_with fail
  refine (CL.out w1).mono ?_
  rintro e w2 ⟨bm, rfl, hbm, hM, b2⟩
  have hb := B1.out.trans (b2.mono B1.out.size)
  have HB := Lib.hid hb
  have HM := Lib.hid hM
  have HO := Lib.hid (own_base (lit_own w2 34) hb.size)
  clear hb hM b2
  go_wp2
  generalize hW3 : w2.alloc (.cells #[.int .u8 34] 5) = w3 at *
  have HB3 := Lib.hid (show Below w.heap.size w w3 by rw [← hW3]; exact HB.out.alloc HB.out.size _)
  have HM3 := Lib.hid (show MapL w3 bm by rw [← hW3]; exact HM.out.below (below_alloc w2 _) HM.out.lt)
  have HO3 := Lib.hid (show w3.ownsRow w.heap.size 5 1 (.slice (some ⟨w2.heap.size, 0, none⟩) 1 1) 1 (bv [34]) by rw [← hW3]; exact HO.out)
  have hz : w2.heap.size + 1 = w3.heap.size := by rw [← hW3]; simp
  clear HM HB HO hW3
  rw [hz]
  have HZ := Lib.hid hz
  clear hz
  go_loopw [4] (fun v wr => ∃ (pos : Nat) (acc rest : List Int), wr.heap[w3.heap.size]? = some (.stringIter s pos) ∧ wr.ownsRow w.heap.size 5 1 v (34 :: escsL acc).length (bv (34 :: escsL acc)) ∧ MapL wr bm ∧ Below w.heap.size w wr ∧ pos ≤ l.length ∧ runesAt l pos = some rest ∧ acc ++ rest = rs) (fun _ wr => l.length - wr.iterPos w3.heap.size)
  case atStart => exact ⟨0, [], rs, World.iter_heap w3 s 0, own_below HO3.out ((Below.refl w3.heap.size w3).alloc (Nat.le_refl _) _), HM3.out.below ((Below.refl w3.heap.size w3).alloc (Nat.le_refl _) _) HM3.out.lt, HB3.out.alloc HB3.out.size _, Nat.zero_le _, hr0, rfl⟩
  case round =>
    obtain ⟨pos, acc, rest, hit, hown, hM, hb, hpos, hra, hac⟩ := hrel
    have hal : acc.length ≤ rs.length := by rw [← hac]; simp
    have hel := escsL_len acc
    have hd : Utf8.decode s pos = dec l pos := by rw [← HS.out]; rfl
    by_cases hp : pos < l.length
    · have hpz : pos < s.size := by omega
      have HP0 := Lib.hid (show wr.iterPos w3.heap.size = pos by unfold World.iterPos; rw [hit])
      have hnx : ∀ ty, (Instr.next (.pointer (some ⟨w3.heap.size, 0, none⟩)) true ty).run Tryz.prog wr = _ := fun ty => Lib.run_next_any_at wr w3.heap.size s pos ty hit hpz
      rw [hd] at hnx
      have hwd := dec_pos hp
      have hle : (dec l pos).1 ≤ 2147483647 := by rw [← hd]; exact decode_le s pos
      have hgood : dec l pos ≠ (65533, 1) := by
        intro g
        rw [runesAt_bad hp g] at hra
        cases hra
      rw [runesAt_good hp hgood, Option.map_eq_some_iff] at hra
      obtain ⟨rest', hra, rfl⟩ := hra
      generalize hk : (dec l pos).2 = k at *
      generalize hq : (dec l pos).1 = q at *
      generalize hwr : wr.iterAt w3.heap.size s (pos + k) = w4 at *
      have hon := iter_only wr w3.heap.size s (pos + k)
      rw [hwr] at hon
      have hit2 : w4.heap[w3.heap.size]? = some (.stringIter s (pos + k)) := by rw [← hwr]; exact iter_new hit
      have hown2 := own_only hown hon (own_ne_iter hown hit)
      have hM2 : MapL w4 bm := by
        obtain ⟨D, ⟨es, clock, hbm', hrest⟩, hD⟩ := hM
        refine ⟨D, ⟨es, clock, ?_, hrest⟩, hD⟩
        have hne : bm ≠ w3.heap.size := by intro e; subst e; rw [hit] at hbm'; cases hbm'
        rw [hon.block bm (Array.getElem?_eq_some_iff.1 hbm').1 hne]; exact hbm'
      have hb2 := only_below hb hon HB3.out.size hb.size
      have hlen2 := hb2.size
      have ca := CA.out w4 w.heap.size _ _ (q : Int) bm (by omega) (by omega) hown2 hlen2 (by simp; omega) hM2
      have HI := Lib.hid hit2
      have HW := Lib.hid hwd
      have HR := Lib.hid hra
      have HA := Lib.hid hac
      have HB2 := Lib.hid hb2
      have HM2 := Lib.hid hM2
      have HO2 := Lib.hid hown2
      have hq1 : (q : Int) ≤ 2147483647 := by omega
      clear hon hgood hd hown hb hwr hit hpz hk hq hit2 hwd hra hac hal hel hb2 hM2 hown2 hM hle hlen2
      go_wp2_with fail
      refine ca.mono ?_
      rintro e w5 ⟨v', rfl, hown3, hg⟩
      have hkeep : w5.heap[w3.heap.size]? = some (.stringIter s (pos + k)) := by
        have h1 : w3.heap.size < w4.heap.size := (Array.getElem?_eq_some_iff.1 HI.out).1
        rw [hg.block _ h1 (fun e => own_ne_iter HO2.out HI.out e.symm)]
        exact HI.out
      have HK := Lib.hid hkeep
      have HX : w5.iterPos w3.heap.size = pos + k := by unfold World.iterPos; rw [hkeep]
      have HM5 := Lib.hid (HM2.out.kept hg (MapL.ne HO2.out HM2.out))
      have HB5 := Lib.hid (HB2.out.trans (grown_belowN hg HB2.out.size (fun k hk => (HO2.out.lt k hk).1)))
      have HO5 := Lib.hid hown3
      clear hkeep hown3 hg ca HO2 HM2 HB2
      go_wp2
      go_roundw
      case rel =>
        have hw := HW.out
        refine ⟨pos + k, acc ++ [(q : Int)], rest', HK.out, ?_, HM5.out, HB5.out, hw.2, HR.out, by rw [List.append_assoc]; exact HA.out⟩
        have e1 : 34 :: escsL (acc ++ [(q : Int)]) = (34 :: escsL acc) ++ escL q := by rw [escsL_app]; simp [escsL]
        rw [e1]
        exact HO5.out
      case measure =>
        have hw := HW.out
        have := HP0.out
        omega
    · have hpz : ¬ pos < s.size := by omega
      have hnx : ∀ ty, (Instr.next (.pointer (some ⟨w3.heap.size, 0, none⟩)) true ty).run Tryz.prog wr = _ := fun ty => Lib.run_next_end_at wr w3.heap.size s pos ty hit hpz
      rw [runesAt_end hp] at hra
      injection hra with hra
      subst hra
      rw [List.append_nil] at hac
      subst hac
      have HO2 := Lib.hid hown
      have HB2 := Lib.hid hb
      clear hown hb hit hd hM
      go_wp2_with (at_builtin; refine wpList_append_own _ rfl _ _ 22 rfl w.heap.size 5 i0 (.int .u8 0) 1 1 Tryz.underlying22 hi hz0 hz1 hz2 rfl (by decide) _ _ _ rfl (HO2.out.alloc _) ⟨wr.heap.size, 0, none⟩ 1 1 [.int .u8 34] rfl rfl ?c1 ?c2 ?c3 ?c4 ?c5 ?_)
      case c1 => exact cell_one_new wr (.int .u8 34) 5
      case c2 => intro u hu; simp at hu; rcases hu with rfl; rfl
      case c3 => simp; unfold maxLen; omega
      case c4 => simp; omega
      case c5 => have := HB2.out.size; simp; omega
      intro v' w5 hown3 hg _
      have hb5 := below_step HB2.out HB2.out.size HO2.out hg
      have hcat : bv (34 :: escsL acc) ++ [.int .u8 34] = bv (34 :: (escsL acc ++ [34])) := by simp [bv]
      rw [hcat] at hown3
      have hcv := conv_str w5 _ _ (own_slc hown3)
      have HB5 := Lib.hid hb5
      generalize hs2 : (ByteArray.mk (34 :: (escsL acc ++ [34])).toArray) = s2 at *
      have HS2 := Lib.hid hs2
      clear hown3 hg hb5 hcat hs2 HB2 HO2
      go_wp2
      go_ret
      exact ⟨by rw [HS2.out]; rfl, HB5.out⟩
theorem quote_impl (l : List UInt8) (w : World) (hl : l.length ≤ 1073741824) : Calls Tryz.prog 163 #[.string ⟨l.toArray⟩] w fun e w' => e = .returned (.string ⟨(quoteL l).toArray⟩) ∧ Below w.heap.size w w' := by
  cases hr : runes l with
  | none => exact quote_impl_none l w hl hr
  | some rs => exact quote_impl_some l rs w hl hr
theorem quote_spec_none (l : List UInt8) (w : World) (hl : l.length ≤ 1073741824) (hr : runes l = none) : Calls Tryz.prog 93 #[.string ⟨l.toArray⟩] w fun e w' => e = .returned (.string ⟨(quoteL l).toArray⟩) ∧ Below w.heap.size w w' := by
  have ct := textok_spec l w (by omega)
  rw [hr] at ct
  rw [quoteL_none hr]
  generalize (ByteArray.mk l.toArray) = s at *
  go_enter Tryz.func93, Tryz.ntmps93
  go_wp2_with fail
  refine ct.mono ?_
  rintro e w1 ⟨rfl, b1⟩
  go_wp2
  go_ret
  exact ⟨rfl, b1⟩
set_option maxHeartbeats 2000000 in
theorem quote_spec_some (l : List UInt8) (rs : List Int) (w : World) (hl : l.length ≤ 1073741824) (hr : runes l = some rs) : Calls Tryz.prog 93 #[.string ⟨l.toArray⟩] w fun e w' => e = .returned (.string ⟨(quoteL l).toArray⟩) ∧ Below w.heap.size w w' := by
  have ct := textok_spec l w (by omega)
  have CR := Lib.hid (fun w => runesof_spec_some l rs w hl hr)
  rw [hr] at ct
  have hlen := runes_len _ l rs (Nat.le_refl _) hr
  rw [quoteL_some hr]
  clear hr
  have CE := Lib.hid (fun n w => escapeof_spec n w)
  generalize hs : (ByteArray.mk l.toArray) = s at *
  clear hs
  go_enter Tryz.func93, Tryz.ntmps93
  go_wp2_with fail
  refine ct.mono ?_
  rintro e w1 ⟨rfl, b1⟩
  have B1 := Lib.hid b1
  clear ct b1
  go_wp2_with fail
  refine (CR.out w1).mono ?_
  rintro e w2 ⟨v, rfl, hown, b2⟩
  obtain ⟨a, cap, rfl, hcs⟩ := reads_int (own_reads hown)
  have HB := Lib.hid (B1.out.trans (b2.mono B1.out.size))
  have HC := Lib.hid hcs
  clear b2 hown hcs
  go_wp2
  go_loopw [3, 5] (fun out i wr => ∃ (i' : Nat), i = .int .i64 i' ∧ i' ≤ rs.length ∧ out = .string ⟨(34 :: escsL (rs.take i')).toArray⟩ ∧ Below w2.heap.size w2 wr) (fun _ i _ => rs.length - (intOf i).toNat)
  case atStart => exact ⟨0, rfl, Nat.zero_le _, rfl, Below.refl _ _⟩
  case round =>
    obtain ⟨i, rfl, hi', rfl, hb⟩ := hrel
    have hel := escsL_len (rs.take i)
    have htk : (rs.take i).length ≤ i := by simp; omega
    by_cases hlt : i < rs.length
    · obtain ⟨b', o, rfl, hcl⟩ := HC.out i hlt
      have hcl' : wr.cell? ⟨b', o + i, none⟩ = some (.int .i64 rs[i]) := by rw [hb.cell (p := ⟨b', o + i, none⟩) (cell_lt hcl)]; exact hcl
      have HT := Lib.hid (escsL_take rs i hlt)
      have HL := Lib.hid hlt
      have HBB := Lib.hid hb
      have hqe := escL_len rs[i]
      generalize rs[i] = q at *
      have ce := CE.out q wr
      generalize hF : (34 :: escsL (rs.take i)) = F at *
      have hFl : F.length ≤ 6 * rs.length + 1 := by rw [← hF]; simp; omega
      have HF := Lib.hid hF
      have hcat : ¬ (9223372036854775807 < F.length + (escL q).length) := by omega
      clear hcl hb hel htk hF hqe
      generalize hE : escL q = E at *
      have HE := Lib.hid hE
      clear hE
      go_wp2_with fail
      refine ce.mono ?_
      rintro e w3 ⟨rfl, b3⟩
      have HB3 := Lib.hid (HBB.out.trans (b3.mono HBB.out.size))
      clear b3 ce
      go_wp2
      go_roundw
      case rel =>
        refine ⟨i + 1, by go_num, HL.out, ?_, HB3.out⟩
        rw [HT.out, ba_app, ← HF.out]
        simp
      case measure => have := HL.out; simp [intOf]; omega
    · obtain rfl : i = rs.length := by omega
      rw [List.take_of_length_le (Nat.le_refl _)] at hel ⊢
      have hcat : ¬ (9223372036854775807 < (34 :: escsL rs).length + [(34 : UInt8)].length) := by simp; omega
      have HB4 := Lib.hid (HB.out.trans (hb.mono HB.out.size))
      generalize hF : (34 :: escsL rs) = F at *
      have HF := Lib.hid hF
      clear hel htk hb hF
      go_wp2
      go_ret
      refine ⟨?_, HB4.out⟩
      have e1 : 34 :: (escsL rs ++ [34]) = F ++ [34] := by rw [← HF.out]; rfl
      rw [e1]
      exact congrArg (fun x => Ending.returned (.string x)) (ba_app F [34])
theorem quote_spec (l : List UInt8) (w : World) (hl : l.length ≤ 1073741824) : Calls Tryz.prog 93 #[.string ⟨l.toArray⟩] w fun e w' => e = .returned (.string ⟨(quoteL l).toArray⟩) ∧ Below w.heap.size w w' := by
  cases hr : runes l with
  | none => exact quote_spec_none l w hl hr
  | some rs => exact quote_spec_some l rs w hl hr
/-- nothing is escaped -/
def bareB (l : List UInt8) : Bool := quoteL l == 34 :: (l ++ [34])
theorem ba_two (l : List UInt8) : (ByteArray.mk #[34]) ++ (ByteArray.mk l.toArray) ++ (ByteArray.mk #[34]) = ByteArray.mk (34 :: (l ++ [34])).toArray := by
  apply ByteArray.ext; simp
theorem ba_two_list (l : List UInt8) : ((ByteArray.mk #[34]) ++ (ByteArray.mk l.toArray) ++ (ByteArray.mk #[34])).toList = 34 :: (l ++ [34]) := by rw [ba_two]; simp
end Go.Proofs.YtnikcgmbkmbloaaGreatDoor
/- ReadQuoted: the program's answers. -/
namespace Go.Proofs.YtnikcgmbkmbloaaGreatDoor
open Go.RowKit Go.Maps
set_option maxRecDepth 100000
theorem numEsc_some {l : List UInt8} {i j : Nat} {n : Int} (h : numEsc l i = some (n, j)) : l[i]? = some 92 ∧ l[i + 1]? = some 117 ∧ fourAt l (i + 2) = some n ∧ j = i + 6 := by
  unfold numEsc at h
  split at h
  · rename_i hg
    rw [Option.map_eq_some_iff] at h
    obtain ⟨m, hm, he⟩ := h
    cases he
    exact ⟨hg.1, hg.2, hm, rfl⟩
  · cases h
theorem numEsc_none {l : List UInt8} {i : Nat} (h : numEsc l i = none) : (l[i]? = some 92 ∧ l[i + 1]? = some 117) → fourAt l (i + 2) = none := by
  intro hg
  unfold numEsc at h
  rw [if_pos hg] at h
  cases h4 : fourAt l (i + 2) with
  | none => rfl
  | some n => rw [h4] at h; cases h
/-- the numbered character behind a backslash at i, where no letter stands -/
def numC (l : List UInt8) (i : Nat) : Option (Int × Nat) := if l[i + 1]? = some 117 then numAt l (i + 1) else none
theorem numc_impl (l : List UInt8) (i : Nat) (w : World) (hl : l.length ≤ 1099511627776) (hi : i ≤ l.length) (hE : Env w) (h92 : l[i]? = some 92) :
    Calls Tryz.prog 231 #[.string ⟨l.toArray⟩, .int .i64 i] w fun e w' => e = .returned (charV (numC l i)) ∧ Below w.heap.size w w' := by
  have c1 := numesc_impl l i w hl hi hE
  cases h1 : numEsc l i with
  | none =>
    have hR : numC l i = none := by
      unfold numC
      by_cases hu : l[i + 1]? = some 117
      · rw [if_pos hu]; exact num_four (numEsc_none h1 ⟨h92, hu⟩)
      · rw [if_neg hu]
    rw [hR]
    rw [h1] at c1
    clear hR h1 hE h92
    generalize (ByteArray.mk l.toArray) = s at *
    go_enter Tryz.func231, Tryz.ntmps231
    go_wp2_with fail
    refine c1.mono ?_
    rintro e w1 ⟨rfl, b1⟩
    simp only [charV]
    go_wp2
    go_ret3
    exact ⟨rfl, b1⟩
  | some p =>
    obtain ⟨n, j⟩ := p
    obtain ⟨_, hu, h4, rfl⟩ := numEsc_some h1
    have hr := fourAt_range h4
    have hR0 : numC l i = numAt l (i + 1) := by unfold numC; rw [if_pos hu]
    rw [h1] at c1
    by_cases hok : okR n
    · have hn := okR_un hok
      have cr := runeok_impl_yes hok
      rw [hR0, num_one h4 (by omega)]
      have CR := Lib.hid cr
      clear cr hn hok hR0 h1 h4 hu h92 hE
      have hr1 := hr.1
      have hr2 := hr.2.1
      clear hr
      generalize (ByteArray.mk l.toArray) = s at *
      go_enter Tryz.func231, Tryz.ntmps231
      go_wp2_with fail
      refine c1.mono ?_
      rintro e w1 ⟨rfl, b1⟩
      simp only [charV]
      go_wp2_with fail
      refine (CR.out w1).mono ?_
      rintro e w' ⟨rfl, rfl⟩
      go_wp2
      go_ret3
      exact ⟨rfl, b1⟩
    · have hn1 : 55296 ≤ n := by
        rcases Int.lt_or_le n 55296 with h | h
        · exact absurd (okR_mk (by omega)) hok
        · exact h
      have hn2 : n ≤ 57343 := by
        rcases Int.lt_or_le 57343 n with h | h
        · exact absurd (okR_mk (by omega)) hok
        · exact h
      have CR := Lib.hid (fun w => runeok_impl_no hok w)
      have C2 := Lib.hid (fun w1 hb => numesc_impl l (i + 6) w1 hl (by omega) (hE.below (w' := w1) hb))
      have fin : ∀ w2, Below w.heap.size w w2 → numC l i = none → True := fun _ _ _ => trivial
      cases h2 : numEsc l (i + 6) with
      | none =>
        have hR : numC l i = none := by
          rw [hR0]
          by_cases hp : l[i + 6]? = some 92 ∧ l[i + 7]? = some 117
          · have h7 := numEsc_none h2 hp
            by_cases hlow : 56320 ≤ n
            · exact num_low h4 hlow hn2
            · exact num_pair_none h4 hn1 (by omega) hp.1 hp.2 h7
          · exact num_alone h4 hn1 hn2 hp
        rw [hR]
        have C2' := C2.out
        rw [h2] at C2'
        have C3 := Lib.hid C2'
        clear C2' C2 hR hR0 h1 h2 h4 hu h92 hE hok fin
        have hr1 := hr.1
        have hr2 := hr.2.1
        clear hr
        generalize (ByteArray.mk l.toArray) = s at *
        go_enter Tryz.func231, Tryz.ntmps231
        go_wp2_with fail
        refine c1.mono ?_
        rintro e w1 ⟨rfl, b1⟩
        simp only [charV]
        go_wp2_with fail
        refine (CR.out w1).mono ?_
        rintro e w' ⟨rfl, rfl⟩
        have c3 := C3.out w1 b1
        have B1 := Lib.hid b1
        clear b1
        go_wp2_with fail
        refine c3.mono ?_
        rintro e w2 ⟨rfl, b2⟩
        have B2 := Lib.hid (B1.out.trans (b2.mono B1.out.size))
        clear b2 c3
        simp only [charV]
        go_wp2
        go_ret3
        exact ⟨rfl, B2.out⟩
      | some p =>
        obtain ⟨m, j⟩ := p
        obtain ⟨h6, h7, h8, rfl⟩ := numEsc_some h2
        have hr2 := fourAt_range h8
        have C2' := C2.out
        rw [h2] at C2'
        have C3 := Lib.hid C2'
        have hrn1 := hr.1
        have hrm1 := hr2.1
        have hrm2 := hr2.2.1
        by_cases hg : n < 56320 ∧ 56320 ≤ m ∧ m ≤ 57343
        · obtain ⟨g1, g2, g3⟩ := hg
          have hR := num_pair_good h4 hn1 g1 h6 h7 h8 ⟨g2, g3⟩
          rw [hR0, hR]
          have e1 : 65536 + 1024 * (n - 55296) + (m - 56320) = 65536 + 1024 * (n - 55296) + (m - 56320) := rfl
          clear C2' C2 hR hR0 h1 h2 h4 hu h92 hE hok fin hr hr2 h6 h7 h8 e1
          have hi' : (i : Int) ≤ 1099511627776 := by omega
          generalize (ByteArray.mk l.toArray) = s at *
          go_enter Tryz.func231, Tryz.ntmps231
          go_wp2_with fail
          refine c1.mono ?_
          rintro e w1 ⟨rfl, b1⟩
          simp only [charV]
          go_wp2_with fail
          refine (CR.out w1).mono ?_
          rintro e w' ⟨rfl, rfl⟩
          have c3 := C3.out w1 b1
          have B1 := Lib.hid b1
          clear b1
          go_wp2_with fail
          refine c3.mono ?_
          rintro e w2 ⟨rfl, b2⟩
          have B2 := Lib.hid (B1.out.trans (b2.mono B1.out.size))
          clear b2 c3
          simp only [charV]
          go_wp2
          go_ret3
          refine ⟨?_, B2.out⟩
          first | rfl | (congr 3; omega)
        · have hR : numC l i = none := by
            rw [hR0]
            by_cases hlow : 56320 ≤ n
            · exact num_low h4 hlow hn2
            · exact num_pair_bad h4 hn1 (by omega) h6 h7 h8 (by omega)
          rw [hR]
          have hg' : 56320 ≤ n ∨ (n < 56320 ∧ m < 56320) ∨ (n < 56320 ∧ 56320 ≤ m ∧ 57343 < m) := by omega
          clear C2' C2 hR hR0 h1 h2 h4 hu h92 hE hok fin hr hr2 h6 h7 h8 hg
          generalize (ByteArray.mk l.toArray) = s at *
          rcases hg' with g1 | ⟨g1, g2⟩ | ⟨g1, g2, g3⟩
          all_goals
            go_enter Tryz.func231, Tryz.ntmps231
            go_wp2_with fail
            refine c1.mono ?_
            rintro e w1 ⟨rfl, b1⟩
            simp only [charV]
            go_wp2_with fail
            refine (CR.out w1).mono ?_
            rintro e w' ⟨rfl, rfl⟩
            have c3 := C3.out w1 b1
            have B1 := Lib.hid b1
            clear b1
            go_wp2_with fail
            refine c3.mono ?_
            rintro e w2 ⟨rfl, b2⟩
            have B2 := Lib.hid (B1.out.trans (b2.mono B1.out.size))
            clear b2 c3
            simp only [charV]
            go_wp2
            go_ret3
            exact ⟨rfl, B2.out⟩
theorem byte_is (l : List UInt8) (c : UInt8) (i : Nat) (w : World) (hl : l.length ≤ 1099511627776) : Calls Tryz.prog 133 #[.string ⟨l.toArray⟩, .int .i64 i, .string ⟨#[c]⟩] w fun e w' => e = .returned (.bool (decide (l[i]? = some c))) ∧ w = w' := by
  have h := bytein_any l [c] i w (by omega)
  rw [inS_one'] at h
  exact h
theorem quotedchar_impl (l : List UInt8) (i : Nat) (b : Nat) (w : World) (hl : l.length ≤ 1099511627776) (hi : i ≤ l.length) (hE : Env w) (hM : MapU w b) :
    Calls Tryz.prog 200 #[.string ⟨l.toArray⟩, .int .i64 i, .map (some b)] w fun e w' => e = .returned (charV (charAt l i)) ∧ Below w.heap.size w w' := by
  have hsz := size_l l
  have cb := byte_is l 92 i w hl
  by_cases h92 : l[i]? = some 92
  · rw [decide_eq_true h92] at cb
    have hil : i < l.length := by
      rcases Nat.lt_or_ge i l.length with h | h
      · exact h
      · rw [List.getElem?_eq_none h] at h92; cases h92
    rw [char_esc h92]
    by_cases hend : i + 1 = l.length
    · rw [esc_end (by omega)]
      have he : (i : Int) + 1 = l.length := by omega
      clear h92 hE hM hil hend
      generalize (ByteArray.mk l.toArray) = s at *
      have hb1 : (((i : Int) + 1 : Int) == (l.length : Int)) = true := by simp; omega
      go_enter Tryz.func200, Tryz.ntmps200
      go_wp2_with fail
      refine cb.mono ?_
      rintro e w1 ⟨rfl, rfl⟩
      go_wp2
      go_ret3
      exact ⟨rfl, Below.refl _ _⟩
    · have h1 : i + 1 < l.length := by omega
      have ix := hx_indexZ l (i + 1) ((i : Int) + 1) (by omega) h1 w
      have hee := esc_at h1
      have h11 : l[i + 1]? = some (l[i + 1]) := List.getElem?_eq_getElem h1
      generalize hc : l[i + 1] = c at *
      have hlk := MapI.look hM Tryz.underlying5 Tryz.underlying3 Tryz.underlying206 (zero64 w) (c.toNat : Int) (by
        have : c.toNat < 256 := UInt8.toNat_lt c
        exact WalkArith.wf_u8 (by omega))
      rw [f2_unB] at hlk
      have hne : (((i : Int) + 1 : Int) == (l.length : Int)) = false := by simp; omega
      rw [hee]
      cases hu : unB c with
      | some n =>
        rw [hu] at hlk
        simp only [Option.getD_some, Option.isSome_some] at hlk
        clear h92 hE hM hil hend hee h11 hc hu h1
        have hi' : (i : Int) ≤ 1099511627776 := by omega
        generalize (ByteArray.mk l.toArray) = s at *
        generalize c.toNat = x at *
        go_enter Tryz.func200, Tryz.ntmps200
        go_wp2_with fail
        refine cb.mono ?_
        rintro e w1 ⟨rfl, rfl⟩
        go_wp2
        go_ret3
        refine ⟨?_, Below.refl _ _⟩
        first | rfl | (show Ending.returned (.tuple #[_, .int .i64 ((i : Int) + 2), _]) = _; simp only [charV]; congr 3; omega) | trace_state
      | none =>
        rw [hu] at hlk
        simp only [Option.getD_none, Option.isSome_none] at hlk
        have cn := numc_impl l i w hl hi hE h92
        have hR : numC l i = if c = 117 then numAt l (i + 1) else none := by
          unfold numC
          rw [h11]
          by_cases h7 : c = 117
          · rw [if_pos (by rw [h7]), if_pos h7]
          · rw [if_neg (fun g => h7 (Option.some.inj g)), if_neg h7]
        simp only
        rw [← hR]
        clear h92 hE hM hil hend hee h11 hc hu h1 hR
        have hi' : (i : Int) ≤ 1099511627776 := by omega
        generalize (ByteArray.mk l.toArray) = s at *
        generalize c.toNat = x at *
        obtain ⟨y1, y2, y3, hy⟩ : ∃ (y1 y2 : Int) (y3 : Bool), charV (numC l i) = .tuple #[.int .i64 y1, .int .i64 y2, .bool y3] := by
          unfold charV
          split
          · exact ⟨_, _, _, rfl⟩
          · exact ⟨_, _, _, rfl⟩
        rw [hy] at cn ⊢
        clear hy
        go_enter Tryz.func200, Tryz.ntmps200
        go_wp2_with fail
        refine cb.mono ?_
        rintro e w1 ⟨rfl, rfl⟩
        go_wp2_with fail
        refine cn.mono ?_
        rintro e w2 ⟨rfl, b2⟩
        go_wp2
        go_ret3
        exact ⟨rfl, b2⟩
  · rw [decide_eq_false h92] at cb
    have cp := plain_impl l i w hl hi hE h92
    obtain ⟨y1, y2, y3, hy⟩ : ∃ (y1 y2 : Int) (y3 : Bool), charV (charAt l i) = .tuple #[.int .i64 y1, .int .i64 y2, .bool y3] := by
      unfold charV
      split
      · exact ⟨_, _, _, rfl⟩
      · exact ⟨_, _, _, rfl⟩
    rw [hy] at cp ⊢
    clear hy h92 hE hM
    generalize (ByteArray.mk l.toArray) = s at *
    go_enter Tryz.func200, Tryz.ntmps200
    go_wp2_with fail
    refine cb.mono ?_
    rintro e w1 ⟨rfl, rfl⟩
    go_wp2_with fail
    refine cp.mono ?_
    rintro e w2 ⟨rfl, b2⟩
    go_wp2
    go_ret3
    exact ⟨rfl, b2⟩
theorem MapU.ne {w : World} {B E n b : Nat} {v : Value} {xs : List Value} (h : w.ownsRow B E 1 v n xs) (hM : MapU w b) : some b ≠ v.ownBlock := by
  obtain ⟨D, ⟨es, clock, hb, _⟩, _⟩ := hM
  exact fun e => own_ne_obj h hb (fun _ _ _ g => by cases g) e.symm
theorem read_low {l : List UInt8} {a : Int} (h : a < 0) : readV l a = .tuple #[.string ⟨#[]⟩, .int .i64 0, .int .i64 1] := by
  unfold readV readQ; rw [if_neg (fun g => by omega)]
theorem read_no {l : List UInt8} {i : Nat} (h : ¬ l[i]? = some 34) : readV l (i : Int) = .tuple #[.string ⟨#[]⟩, .int .i64 0, .int .i64 1] := by
  unfold readV readQ; rw [if_neg (fun g => h (by simpa using g.2))]
theorem readQ_yes {l : List UInt8} {i : Nat} (h : l[i]? = some 34) : readQ l (i : Int) = readAt l (i + 1) := by
  unfold readQ; rw [if_pos ⟨by omega, by simpa using h⟩, Int.toNat_natCast]
theorem readV_none {l : List UInt8} {i : Nat} (h : l[i]? = some 34) (hr : readAt l (i + 1) = none) : readV l (i : Int) = .tuple #[.string ⟨#[]⟩, .int .i64 0, .int .i64 1] := by
  unfold readV; rw [readQ_yes h, hr]
theorem readV_some {l : List UInt8} {i e : Nat} {rs : List Int} (h : l[i]? = some 34) (hr : readAt l (i + 1) = some (rs, e)) : readV l (i : Int) = .tuple #[.string ⟨(flat rs).toArray⟩, .int .i64 e, .int .i64 0] := by
  unfold readV; rw [readQ_yes h, hr]
end Go.Proofs.YtnikcgmbkmbloaaGreatDoor
