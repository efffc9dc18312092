/- The characters of a string: the program's and the model's answers, and that they own their memory. -/
import Derived.Test.YtaelepaogkakmaaDoorTextOk
namespace Go.Proofs.YtaelepaogkakmaaDoor
open Go.RowKit
set_option maxRecDepth 100000
theorem intInfo' : (Tryd.prog.info? 3).map (fun i => (i.zero, i.size, i.bytes)) = some (some (.int .i64 0), 1, 8) := by kernel_rfl
theorem own_ne_iter {w : World} {B E n b : Nat} {v : Value} {xs : List Value} {s : ByteArray} {p : Nat} (h : w.ownsRow B E 1 v n xs) (hb : w.heap[b]? = some (.stringIter s p)) : v.ownBlock ≠ some b := by
  intro e
  rcases h.2 with ⟨rfl, _⟩ | ⟨g, cap, cur, rfl, _, hg, _⟩
  · simp [Value.ownBlock] at e
  · simp [Value.ownBlock] at e
    subst e
    rw [hg] at hb
    cases hb
theorem own_ne_cells {w : World} {B E n b T : Nat} {v : Value} {xs : List Value} {C : Array Value} {fz : Nat × Nat} (h : w.ownsRow B E 1 v n xs) (hb : w.heap[b]? = some (.cells C T fz)) (hT : E ≠ T) : v.ownBlock ≠ some b := by
  intro e
  rcases h.2 with ⟨rfl, _⟩ | ⟨g, cap, cur, rfl, _, hg, _⟩
  · simp [Value.ownBlock] at e
  · simp [Value.ownBlock] at e
    subst e
    rw [hg] at hb
    injection hb with hb
    injection hb with _ hb _
    exact hT hb
theorem iter_only (w : World) (k : Nat) (s : ByteArray) (p : Nat) : Only k w (w.iterAt k s p) :=
  ⟨rfl, rfl, rfl, by simp [World.iterAt], fun i _ hi => by simp [World.iterAt, Array.getElem?_setIfInBounds]; intro e; exact absurd e.symm hi⟩
theorem iter_new {w : World} {k : Nat} {s s' : ByteArray} {p p' : Nat} (h : w.heap[k]? = some (.stringIter s' p')) : (w.iterAt k s p).heap[k]? = some (.stringIter s p) := by
  have hk : k < w.heap.size := (Array.getElem?_eq_some_iff.1 h).1
  simp [World.iterAt, hk]
theorem reads_block {w w' : World} {b len cap : Nat} {xs : List Value} (h : Reads w (.slice (some ⟨b, 0, none⟩) len cap) xs) (hb : w'.heap[b]? = w.heap[b]?) : Reads w' (.slice (some ⟨b, 0, none⟩) len cap) xs := by
  obtain ⟨a, c, e, hc⟩ := h
  refine ⟨a, c, e, fun j hj => ?_⟩
  obtain ⟨b', o, ha, hcl⟩ := hc j hj
  refine ⟨b', o, ha, ?_⟩
  injection e with e1 e2 e3
  rw [ha] at e1
  injection e1 with e1
  injection e1 with e1 e4
  subst e1
  rw [World.cell?_of_block (w := w) (w' := w') hb]; exact hcl
/-- what RunesOf hands on: a row of its own that holds the ints l -/
def FreshI (w : World) (l : List Int) (e : Ending) (w' : World) : Prop := ∃ v', e = .returned v' ∧ w'.ownsRow w.heap.size 3 1 v' l.length (iv l) ∧ Below w.heap.size w w'
theorem own_new0 (w : World) (E : TypeId) : (w.alloc (.cells #[] E)).ownsRow w.heap.size E 1 (.slice (some ⟨w.heap.size, 0, none⟩) 0 0) 0 [] := World.ownsRow_made w #[] 0 (Nat.le_refl _) (by decide) rfl
theorem runesof_spec_none (l : List UInt8) (w : World) (hl : l.length ≤ 1073741824) (hr : runes l = none) : Calls Tryd.prog 45 #[.string ⟨l.toArray⟩] w (FreshI w []) := by
  have ct := fun w => textok_spec l w (by omega)
  rw [hr] at ct
  have CT := Lib.hid ct
  clear ct hr
  generalize (ByteArray.mk l.toArray) = s at *
  go_enter Tryd.func45, Tryd.ntmps45
  go_wp2_with fail
  refine (CT.out _).mono ?_
  rintro e w1 ⟨rfl, b1⟩
  have ho := own_below (own_new0 w 3) b1
  have hb : Below w.heap.size w w1 := ((Below.refl w.heap.size w).alloc (Nat.le_refl _) _).trans (b1.mono (by simp))
  clear b1
  go_wp2
  go_ret
  exact ⟨_, rfl, ho, hb⟩
theorem runesof_spec_some (l : List UInt8) (rs : List Int) (w : World) (hl : l.length ≤ 1073741824) (hr : runes l = some rs) : Calls Tryd.prog 45 #[.string ⟨l.toArray⟩] w (FreshI w rs) := by
  obtain ⟨i0, hi, hz0, hz1, hz2⟩ := info_parts intInfo'
  have ct := fun w => textok_spec l w (by omega)
  have hr0 : runesAt l 0 = some rs := hr
  rw [hr] at ct
  have CT := Lib.hid ct
  have CV := Lib.hid (fun w => conv_bytes w l)
  clear ct hr
  generalize (ByteArray.mk l.toArray) = s at *
  go_enter Tryd.func45, Tryd.ntmps45
  go_wp2_with fail
  refine (CT.out _).mono ?_
  rintro e w1 ⟨rfl, b1⟩
  have ho := own_below (own_new0 w 3) b1
  have hb : Below w.heap.size w w1 := ((Below.refl w.heap.size w).alloc (Nat.le_refl _) _).trans (b1.mono (by simp))
  obtain ⟨cap, w2, hcv, hR, hb2, C, fz, hC⟩ := CV.out w1
  have HO := Lib.hid (own_below ho hb2)
  have HB := Lib.hid (hb.trans (hb2.mono hb.size))
  have HR := Lib.hid hR
  have HC := Lib.hid hC
  clear b1 ho hb hb2 hR hC
  go_wp2
  go_loopw [3, 5] (fun v i wr => ∃ (pos : Nat) (acc rest : List Int), i = .int .i64 pos ∧ wr.heap[w1.heap.size]? = w2.heap[w1.heap.size]? ∧ wr.ownsRow w.heap.size 3 1 v acc.length (iv acc) ∧ Below w.heap.size w wr ∧ pos ≤ l.length ∧ runesAt l pos = some rest ∧ acc ++ rest = rs ∧ acc.length ≤ pos) (fun _ i _ => l.length - (intOf i).toNat)
  case atStart => exact ⟨0, [], rs, rfl, rfl, HO.out, HB.out, Nat.zero_le _, hr0, rfl, Nat.le_refl _⟩
  case round =>
    obtain ⟨pos, acc, rest, rfl, hit, hown, hb, hpos, hra, hac, hal⟩ := hrel
    have HP := Lib.hid hpos
    by_cases hp : pos < l.length
    · have hwd := dec_pos hp
      have hgood : dec l pos ≠ (65533, 1) := by
        intro g
        rw [runesAt_bad hp g] at hra
        cases hra
      have cg := get_spec_any wr _ l pos (reads_block HR.out hit) (by omega)
      rw [show getV l pos = .tuple #[.int .i64 (dec l pos).1, .int .i64 (pos + (dec l pos).2), .bool true] from getV_good hp rfl (fun g => hgood (Prod.ext g.1 g.2))] at cg
      rw [runesAt_good hp hgood, Option.map_eq_some_iff] at hra
      obtain ⟨rest', hra, rfl⟩ := hra
      generalize hk : (dec l pos).2 = k at *
      generalize hq : (dec l pos).1 = q at *
      have HI := Lib.hid hit
      have HW := Lib.hid hwd
      have HRA := Lib.hid hra
      have HA := Lib.hid hac
      have HL := Lib.hid hal
      have HO2 := Lib.hid hown
      have HB2 := Lib.hid hb
      clear hgood hk hq hit hwd hra hac hal hown hb
      go_wp2_with (first | (go_at_call 42; refine cg.mono ?_; rintro e w' ⟨rfl, rfl⟩) | (at_builtin; refine wpList_append_own _ rfl _ _ 37 rfl w.heap.size 3 i0 (.int .i64 0) 1 8 Tryd.underlying37 hi hz0 hz1 hz2 rfl (by decide) _ _ _ rfl (HO2.out.alloc _) ⟨wr.heap.size, 0, none⟩ 1 1 [.int .i64 q] rfl rfl ?c1 ?c2 ?c3 ?c4 ?c5 ?_))
      case c1 =>
        intro j u hj
        match j, hj with
        | 0, hj => simp at hj; subst hj; simp [Addr.add]
        | (j + 1), hj => simp at hj
      case c2 => intro u hu; simp at hu; rcases hu with rfl; rfl
      case c3 => have := HL.out; have := HP.out; unfold maxLen; omega
      case c4 => have := HL.out; have := HP.out; omega
      case c5 => have := HB2.out.size; simp; omega
      intro v' w3 hown3 hgrow _
      have hne := own_ne_cells HO2.out (HI.out.trans HC.out) (by decide)
      have hkeep : w3.heap[w1.heap.size]? = w2.heap[w1.heap.size]? := by
        have h1 : w1.heap.size < wr.heap.size := (Array.getElem?_eq_some_iff.1 (HI.out.trans HC.out)).1
        rw [hgrow.block _ (by simp; omega) (fun e => hne e.symm)]
        exact (heap_alloc_old wr _ h1).trans HI.out
      have hb3 := below_step HB2.out HB2.out.size HO2.out hgrow
      have HK := Lib.hid hkeep
      have HB3 := Lib.hid hb3
      have HO3 := Lib.hid hown3
      clear hkeep hb3 hown3 hgrow hne
      go_wp2
      go_roundw
      case rel =>
        have hw := HW.out
        refine ⟨pos + k, acc ++ [(q : Int)], rest', by go_num, HK.out, ?_, HB3.out, hw.2, HRA.out, by rw [List.append_assoc]; exact HA.out, by have := HL.out; simp; omega⟩
        rw [List.length_append, iv_append]; exact HO3.out
      case measure =>
        have hw := HW.out
        simp [intOf]
        omega
    · rw [runesAt_end hp] at hra
      injection hra with hra
      subst hra
      rw [List.append_nil] at hac
      subst hac
      have HO2 := Lib.hid hown
      have HB2 := Lib.hid hb
      clear hown hb hit
      go_wp2
      go_ret
      exact ⟨_, rfl, HO2.out, HB2.out⟩
theorem runesof_spec (l : List UInt8) (w : World) (hl : l.length ≤ 1073741824) : Calls Tryd.prog 45 #[.string ⟨l.toArray⟩] w (FreshI w ((runes l).getD [])) := by
  cases hr : runes l with
  | none => exact runesof_spec_none l w hl hr
  | some rs => exact runesof_spec_some l rs w hl hr
end Go.Proofs.YtaelepaogkakmaaDoor
