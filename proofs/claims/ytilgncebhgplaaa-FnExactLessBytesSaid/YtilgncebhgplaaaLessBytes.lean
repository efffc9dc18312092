/- LessBytes of both sides: byte slices in lexicographic order. -/
import Derived.Test.YtilgncebhgplaaaBlt
import Derived.Test.YtilgncebhgplaaaMem
import Derived.Test.YtilgncebhgplaaaIn
import Derived.Lib.BytesEntry
import Derived.Lib.Hide
import Derived.WalkKit
import Derived.ProofKit
import Derived.Deep.QuietTactic
import Derived.BigQuiet
namespace Go.Proofs.Ytilgncebhgplaaa
open Go.RowKit
set_option maxRecDepth 100000
theorem run_bytesOf_reads (w : World) (v : Value) (l : List UInt8) (h : Reads w v (bv l)) : (Extern.Bytes.bytesOf v).run Try.prog w = .ok ⟨l.toArray⟩ w := by
  obtain ⟨a, cap, rfl, hc⟩ := reads_byte h
  have hb : Lib.bytesOf (l.map fun x => (x.toNat : Int)) = l := by
    unfold Lib.bytesOf
    rw [List.map_map]
    conv => rhs; rw [← List.map_id l]
    apply List.map_congr_left
    intro x _
    simp
  cases a with
  | none =>
    have : l = [] := by
      cases l with
      | nil => rfl
      | cons x l =>
        obtain ⟨b, o, hn, _⟩ := hc 0 (by simp)
        cases hn
    subst this
    simp [Extern.Bytes.bytesOf]
    rfl
  | some p =>
    have hl := Lib.run_loadBytesX (P := Try.prog) w (l.map fun x => (x.toNat : Int)) p .empty (fun j x hj => by
      rw [List.getElem?_map, Option.map_eq_some_iff] at hj
      obtain ⟨y, hy, rfl⟩ := hj
      obtain ⟨hlt, he⟩ := List.getElem?_eq_some_iff.1 hy
      obtain ⟨b, o, ha, hcl⟩ := hc j hlt
      injection ha with ha
      subst ha
      have e : (⟨b, o, none⟩ : Addr).add j = ⟨b, o + j, none⟩ := by unfold Addr.add; split <;> simp_all
      rw [e, hcl, he])
    rw [List.length_map, hb] at hl
    have he : (⟨ByteArray.empty.data ++ l.toArray⟩ : ByteArray) = ⟨l.toArray⟩ := by
      apply ByteArray.ext
      show (#[] : Array UInt8) ++ l.toArray = l.toArray
      simp
    rw [he] at hl
    exact hl
theorem run_compareB (w : World) (u v : Value) (l m : List UInt8) (hu : Reads w u (bv l)) (hv : Reads w v (bv m)) :
    (Extern.BytealgCompare.compare #[u, v]).run Try.prog w = .ok (.int .i64 (Lib.compareBytes l m)) w := by
  change Sem.run Try.prog (do pure (goInt (Extern.BytealgCompare.cmp (← Extern.Bytes.bytesOf u) (← Extern.Bytes.bytesOf v)))) w = _
  simp only [Sem.run_bind, run_bytesOf_reads w u l hu, run_bytesOf_reads w v m hv, Sem.run_pure, Result.andThen]
  rw [Lib.cmp_eq]
  rfl
theorem compare_any (w : World) (u v : Value) (l m : List UInt8) (hu : Reads w u (bv l)) (hv : Reads w v (bv m)) :
    Calls Try.prog 29 #[u, v] w fun e w' => e = .returned (.int .i64 (Lib.compareBytes l m)) ∧ w' = w := by
  have hr := run_compareB w u v l m hu hv
  clear hu hv
  go_enter Try.func29, Try.ntmps29
  go_wp2
  rw [run_callFunc_extern Try.func34 (by kernel_rfl) (by kernel_rfl) (by kernel_rfl) (e := Extern.BytealgCompare.compare) (by kernel_rfl), hr]
  simp only [Result.andThen]
  rw [Oper.upon_value]
  go_wp2
  go_ret
  exact ⟨rfl, rfl⟩
theorem lessbytes_impl (w : World) (u v : Value) (l m : List UInt8) (hu : Reads w u (bv l)) (hv : Reads w v (bv m)) :
    Calls Try.prog 14 #[u, v] w fun e w' => e = .returned (.bool (bltB l m)) ∧ w' = w := by
  have hc := compare_any w u v l m hu hv
  have hb : bltB l m = decide (Lib.compareBytes l m < 0) := rfl
  rw [hb]
  clear hb hu hv
  generalize Lib.compareBytes l m = c at *
  go_enter Try.func14, Try.ntmps14
  go_wp2_with fail
  refine hc.mono ?_
  rintro e w' ⟨rfl, rfl⟩
  go_wp2
  go_ret
  exact ⟨rfl, rfl⟩
theorem lessbytes_spec (w : World) (u v : Value) (l m : List UInt8) (hu : Reads w u (bv l)) (hv : Reads w v (bv m)) (hl : l.length ≤ 1099511627776) (hm : m.length ≤ 1099511627776) :
    Calls Try.prog 12 #[u, v] w fun e w' => e = .returned (.bool (bltB l m)) ∧ Below w.heap.size w w' := by
  obtain ⟨a, cap, rfl, hc⟩ := reads_byte hu
  obtain ⟨a2, cap2, rfl, hc2⟩ := reads_byte hv
  have HC := Lib.hid hc
  have HC2 := Lib.hid hc2
  clear hc hc2 hu hv
  go_enter Try.func12, Try.ntmps12
  go_wp2
  go_loopw [5] (fun i wr => ∃ i' : Nat, i = .int .i64 i' ∧ i' ≤ l.length ∧ i' ≤ m.length ∧ Hid (bltB l m = bltB (l.drop i') (m.drop i')) ∧ Below w.heap.size w wr) (fun i _ => l.length - (intOf i).toNat)
  case atStart => exact ⟨0, rfl, Nat.zero_le _, Nat.zero_le _, Lib.hid rfl, Below.refl _ _⟩
  case round =>
    obtain ⟨i', rfl, hi', hi2, HE, hb⟩ := hrel
    have HB := Lib.hid hb
    by_cases hlt : i' < l.length
    · by_cases hlt2 : i' < m.length
      · obtain ⟨b, o, rfl, hcl⟩ := HC.out i' hlt
        obtain ⟨b2, o2, rfl, hcl2⟩ := HC2.out i' hlt2
        have hcl' : wr.cell? ⟨b, o + i', none⟩ = some (.int .u8 (l[i']).toNat) := by rw [hb.cell (p := ⟨b, o + i', none⟩) (cell_lt hcl)]; exact hcl
        have hcl2' : wr.cell? ⟨b2, o2 + i', none⟩ = some (.int .u8 (m[i']).toNat) := by rw [hb.cell (p := ⟨b2, o2 + i', none⟩) (cell_lt hcl2)]; exact hcl2
        clear hb hcl hcl2
        by_cases hx : l[i'] = m[i']
        · have hxx : (((l[i'].toNat : Nat) : Int) != (m[i'].toNat : Nat)) = false := by rw [hx]; simp
          have hst := Lib.hid (blt_step hlt hlt2 HE.out hx)
          go_wp2
          all_goals go_quiet (fail)
          all_goals go_wp2
          go_roundw
          case rel => exact ⟨i' + 1, by go_num, by omega, by omega, hst, below_drewN HB.out _⟩
          case measure => simp [intOf]; omega
        · have hxx : (((l[i'].toNat : Nat) : Int) != (m[i'].toNat : Nat)) = true := by
            simp only [bne_iff_ne, ne_eq, Int.natCast_inj]
            exact fun e => hx (UInt8.toNat_inj.1 e)
          have hst := Lib.hid (blt_at hlt hlt2 HE.out hx)
          have hd : decide (((l[i'].toNat : Nat) : Int) < (m[i'].toNat : Nat)) = decide (l[i'] < m[i']) := by
            simp only [UInt8.lt_iff_toNat_lt, Int.ofNat_lt]
          go_wp2
          all_goals go_quiet (fail)
          all_goals go_wp2
          all_goals go_quiet (fail)
          all_goals go_wp2
          go_ret
          refine ⟨?_, by first | exact below_drewN (below_drewN HB.out _) _ | exact below_drewN HB.out _⟩
          rw [hst.out]
          first | rfl | rw [← hd]
      · have hst := Lib.hid (blt_end hi' hi2 (by omega) HE.out)
        have hnl : ¬ ((i' : Int) < m.length) := by omega
        have hd : decide ((l.length : Int) < (m.length : Nat)) = decide (l.length < m.length) := by simp only [Int.ofNat_lt]
        clear hb
        go_wp2
        go_ret
        refine ⟨?_, HB.out⟩
        rw [hst.out]
        first | rfl | rw [← hd]
    · have hst := Lib.hid (blt_end hi' hi2 (by omega) HE.out)
      have hd : decide ((l.length : Int) < (m.length : Nat)) = decide (l.length < m.length) := by simp only [Int.ofNat_lt]
      clear hb
      go_wp2
      go_ret
      refine ⟨?_, HB.out⟩
      rw [hst.out]
      first | rfl | rw [← hd]
end Go.Proofs.Ytilgncebhgplaaa
