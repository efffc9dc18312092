import Derived.Test.YtilgncebhgplaaaDoorG6
import Derived.Test.YtilgncebhgplaaaDoorG0
import Derived.Lib.BytesEntry
import Derived.Lib.Hide
import Derived.WalkKit
import Derived.ProofKit
import Derived.Deep.QuietTactic
import Derived.BigQuiet
import Derived.Test.YtilgncebhgplaaaDoorG8
import Derived.Deep.RegionHeld3
import Derived.Deep.CutRange
import Derived.Test.YtilgncebhgplaaaDoorG16
import Derived.Deep.LoopGhost
/- LessBytes of both sides: byte slices in lexicographic order. -/
namespace Go.Proofs.YtilgncebhgplaaaDoor
open Go.RowKit
set_option maxRecDepth 100000
theorem run_bytesOf_reads (w : World) (v : Value) (l : List UInt8) (h : Reads w v (bv l)) : (Extern.Bytes.bytesOf v).run Tryd.prog w = .ok ⟨l.toArray⟩ w := by
  obtain ⟨a, cap, rfl, hc⟩ := reads_byte h
  have hb : Lib.bytesOf (l.map fun x => (x.toNat : Int)) = l := by
    unfold Lib.bytesOf
    rw [List.map_map]
    conv => rhs; rw [← List.map_id l]
    apply List.map_congr_left
    intro x _
    simp
  cases a with
  | none =>
    have : l = [] := by
      cases l with
      | nil => rfl
      | cons x l =>
        obtain ⟨b, o, hn, _⟩ := hc 0 (by simp)
        cases hn
    subst this
    simp [Extern.Bytes.bytesOf]
    rfl
  | some p =>
    have hl := Lib.run_loadBytesX (P := Tryd.prog) w (l.map fun x => (x.toNat : Int)) p .empty (fun j x hj => by
      rw [List.getElem?_map, Option.map_eq_some_iff] at hj
      obtain ⟨y, hy, rfl⟩ := hj
      obtain ⟨hlt, he⟩ := List.getElem?_eq_some_iff.1 hy
      obtain ⟨b, o, ha, hcl⟩ := hc j hlt
      injection ha with ha
      subst ha
      have e : (⟨b, o, none⟩ : Addr).add j = ⟨b, o + j, none⟩ := by unfold Addr.add; split <;> simp_all
      rw [e, hcl, he])
    rw [List.length_map, hb] at hl
    have he : (⟨ByteArray.empty.data ++ l.toArray⟩ : ByteArray) = ⟨l.toArray⟩ := by
      apply ByteArray.ext
      show (#[] : Array UInt8) ++ l.toArray = l.toArray
      simp
    rw [he] at hl
    exact hl
theorem run_compareB (w : World) (u v : Value) (l m : List UInt8) (hu : Reads w u (bv l)) (hv : Reads w v (bv m)) :
    (Extern.BytealgCompare.compare #[u, v]).run Tryd.prog w = .ok (.int .i64 (Lib.compareBytes l m)) w := by
  change Sem.run Tryd.prog (do pure (goInt (Extern.BytealgCompare.cmp (← Extern.Bytes.bytesOf u) (← Extern.Bytes.bytesOf v)))) w = _
  simp only [Sem.run_bind, run_bytesOf_reads w u l hu, run_bytesOf_reads w v m hv, Sem.run_pure, Result.andThen]
  rw [Lib.cmp_eq]
  rfl
theorem compare_any (w : World) (u v : Value) (l m : List UInt8) (hu : Reads w u (bv l)) (hv : Reads w v (bv m)) :
    Calls Tryd.prog 51 #[u, v] w fun e w' => e = .returned (.int .i64 (Lib.compareBytes l m)) ∧ w' = w := by
  have hr := run_compareB w u v l m hu hv
  clear hu hv
  go_enter Tryd.func51, Tryd.ntmps51
  go_wp2
  rw [run_callFunc_extern Tryd.func69 (by kernel_rfl) (by kernel_rfl) (by kernel_rfl) (e := Extern.BytealgCompare.compare) (by kernel_rfl), hr]
  simp only [Result.andThen]
  rw [Oper.upon_value]
  go_wp2
  go_ret
  exact ⟨rfl, rfl⟩
theorem lessbytes_impl (w : World) (u v : Value) (l m : List UInt8) (hu : Reads w u (bv l)) (hv : Reads w v (bv m)) :
    Calls Tryd.prog 44 #[u, v] w fun e w' => e = .returned (.bool (bltB l m)) ∧ w' = w := by
  have hc := compare_any w u v l m hu hv
  have hb : bltB l m = decide (Lib.compareBytes l m < 0) := rfl
  rw [hb]
  clear hb hu hv
  generalize Lib.compareBytes l m = c at *
  go_enter Tryd.func44, Tryd.ntmps44
  go_wp2_with fail
  refine hc.mono ?_
  rintro e w' ⟨rfl, rfl⟩
  go_wp2
  go_ret
  exact ⟨rfl, rfl⟩
theorem lessbytes_spec (w : World) (u v : Value) (l m : List UInt8) (hu : Reads w u (bv l)) (hv : Reads w v (bv m)) (hl : l.length ≤ 1099511627776) (hm : m.length ≤ 1099511627776) :
    Calls Tryd.prog 43 #[u, v] w fun e w' => e = .returned (.bool (bltB l m)) ∧ Below w.heap.size w w' := by
  obtain ⟨a, cap, rfl, hc⟩ := reads_byte hu
  obtain ⟨a2, cap2, rfl, hc2⟩ := reads_byte hv
  have HC := Lib.hid hc
  have HC2 := Lib.hid hc2
  clear hc hc2 hu hv
  go_enter Tryd.func43, Tryd.ntmps43
  go_wp2
  go_loopw [5] (fun i wr => ∃ i' : Nat, i = .int .i64 i' ∧ i' ≤ l.length ∧ i' ≤ m.length ∧ Hid (bltB l m = bltB (l.drop i') (m.drop i')) ∧ Below w.heap.size w wr) (fun i _ => l.length - (intOf i).toNat)
  case atStart => exact ⟨0, rfl, Nat.zero_le _, Nat.zero_le _, Lib.hid rfl, Below.refl _ _⟩
  case round =>
    obtain ⟨i', rfl, hi', hi2, HE, hb⟩ := hrel
    have HB := Lib.hid hb
    by_cases hlt : i' < l.length
    · by_cases hlt2 : i' < m.length
      · obtain ⟨b, o, rfl, hcl⟩ := HC.out i' hlt
        obtain ⟨b2, o2, rfl, hcl2⟩ := HC2.out i' hlt2
        have hcl' : wr.cell? ⟨b, o + i', none⟩ = some (.int .u8 (l[i']).toNat) := by rw [hb.cell (p := ⟨b, o + i', none⟩) (cell_lt hcl)]; exact hcl
        have hcl2' : wr.cell? ⟨b2, o2 + i', none⟩ = some (.int .u8 (m[i']).toNat) := by rw [hb.cell (p := ⟨b2, o2 + i', none⟩) (cell_lt hcl2)]; exact hcl2
        clear hb hcl hcl2
        by_cases hx : l[i'] = m[i']
        · have hxx : (((l[i'].toNat : Nat) : Int) != (m[i'].toNat : Nat)) = false := by rw [hx]; simp
          have hst := Lib.hid (blt_step hlt hlt2 HE.out hx)
          go_wp2
          all_goals go_quiet (fail)
          all_goals go_wp2
          go_roundw
          case rel => exact ⟨i' + 1, by go_num, by omega, by omega, hst, below_drewN HB.out _⟩
          case measure => simp [intOf]; omega
        · have hxx : (((l[i'].toNat : Nat) : Int) != (m[i'].toNat : Nat)) = true := by
            simp only [bne_iff_ne, ne_eq, Int.natCast_inj]
            exact fun e => hx (UInt8.toNat_inj.1 e)
          have hst := Lib.hid (blt_at hlt hlt2 HE.out hx)
          have hd : decide (((l[i'].toNat : Nat) : Int) < (m[i'].toNat : Nat)) = decide (l[i'] < m[i']) := by
            simp only [UInt8.lt_iff_toNat_lt, Int.ofNat_lt]
          go_wp2
          all_goals go_quiet (fail)
          all_goals go_wp2
          all_goals go_quiet (fail)
          all_goals go_wp2
          go_ret
          refine ⟨?_, by first | exact below_drewN (below_drewN HB.out _) _ | exact below_drewN HB.out _⟩
          rw [hst.out]
          first | rfl | rw [← hd]
      · have hst := Lib.hid (blt_end hi' hi2 (by omega) HE.out)
        have hnl : ¬ ((i' : Int) < m.length) := by omega
        have hd : decide ((l.length : Int) < (m.length : Nat)) = decide (l.length < m.length) := by simp only [Int.ofNat_lt]
        clear hb
        go_wp2
        go_ret
        refine ⟨?_, HB.out⟩
        rw [hst.out]
        first | rfl | rw [← hd]
    · have hst := Lib.hid (blt_end hi' hi2 (by omega) HE.out)
      have hd : decide ((l.length : Int) < (m.length : Nat)) = decide (l.length < m.length) := by simp only [Int.ofNat_lt]
      clear hb
      go_wp2
      go_ret
      refine ⟨?_, HB.out⟩
      rw [hst.out]
      first | rfl | rw [← hd]
end Go.Proofs.YtilgncebhgplaaaDoor
/- The writer's compareName: where a name begins, and a name against the one before. -/
namespace Go.Proofs.YtilgncebhgplaaaDoor
open Go.RowKit
set_option linter.unusedVariables false
set_option maxRecDepth 100000
def CN (N P : Nat) (w : World) (v u : Value) (out : List UInt8) (S : List GF) (f : GF) (d : Bool) (e : Ending) (w' : World) : Prop :=
  e = .returned (.tuple #[]) ∧ ∃ bef, TW w' N P v u out (S ++ [⟨f.T, f.i, f.fr.st1 out, bef, f.fr.bb1 out⟩]) (d || f.fr.bad out) ∧ Stp P w v u w' v u
set_option maxHeartbeats 2000000 in
/-- an even number of elements has passed: a name begins -/
theorem name_begins {w : World} {N P vn vc un uc g : Nat} {va : Option Addr} {out : List UInt8} {S : List GF} {f : GF} {d : Bool} (htw : TW w N P (.slice va vn vc) (.slice (some ⟨g, 0, none⟩) un uc) out (S ++ [f]) d) (hk : f.T.k = 10) (hi : f.i % 2 ≠ 1) (hil : f.i ≤ 1048576) :
    Calls Tryd.prog 63 #[.pointer (some ⟨P, 0, none⟩), .pointer (some ⟨g, S.length * 8, none⟩)] w (CN N P w (.slice va vn vc) (.slice (some ⟨g, 0, none⟩) un uc) out S f d) := by
  have hun : un = (S ++ [f]).length := by
    rcases htw.stk.2 with ⟨h, _⟩ | ⟨g', cap', cur, h, _⟩
    · cases h
    · injection h
  subst hun
  have hvn : vn = out.length := by
    rcases htw.row.2 with ⟨h, h2⟩ | ⟨g', cap', cur, h, _⟩
    · injection h with _ h; omega
    · injection h
  have ht := htw.top
  have hset := htw.set (j := 6) (y := .int .i64 out.length) (f' := ⟨f.T, f.i, out.length, f.bef, f.bb⟩) (by omega) rfl rfl (htw.bef f (by simp))
  have hmp : f.fr.mp = true := by unfold GF.fr; simp [hk]
  have hst : f.fr.st1 out = out.length := by unfold TFr.st1; simp [GF.fr, hi, hk]
  have hcm : f.fr.cmp = false := by unfold TFr.cmp; simp [GF.fr, hi]
  have hbb : f.fr.bb1 out = f.bb := by unfold TFr.bb1; rw [hcm]; rfl
  have hbad : f.fr.bad out = false := by unfold TFr.bad; rw [hcm]; rfl
  have HQ : Hid (CN N P w (.slice va vn vc) (.slice (some ⟨g, 0, none⟩) (S ++ [f]).length uc) out S f d (.returned (.tuple #[])) (w.setCell ⟨g, S.length * 8 + 6, none⟩ (.int .i64 out.length))) := Lib.hid (by
    refine ⟨rfl, f.bef, ?_, ?_⟩
    · rw [hst, hbb, hbad, Bool.or_false]
      have h1 := hset.1
      have e : (S ++ [GF.mk f.T f.i out.length f.bef f.bb]).length = (S ++ [f]).length := by simp
      rw [e] at h1
      exact h1
    · have h2 := hset.2
      have e : (S ++ [GF.mk f.T f.i out.length f.bef f.bb]).length = (S ++ [f]).length := by simp
      rw [e] at h2
      exact h2)
  rw [← hvn] at HQ
  obtain ⟨_, _, _, _, c5, c6, c7, cf, _⟩ := ht
  have p0 := htw.c0
  have him : (f.i : Int) % 2 = 0 := by omega
  obtain ⟨q, hq⟩ : ∃ q, q = S.length * 8 := ⟨_, rfl⟩
  rw [← hq] at HQ c5 c6 c7 ⊢
  generalize f.i = i at *
  clear htw hset hst hcm hbb hbad hi hmp hk hq hvn
  go_enter Tryd.func63, Tryd.ntmps63
  go_wp2
  go_end0
  exact HQ.out
/-- the name that is complete, where its bytes lie -/
theorem name_at {w : World} {P vn vc g : Nat} {va : Option Addr} {out : List UInt8} (hrow : w.ownsRow (P + 1) 5 1 (.slice va vn vc) out.length (bv out)) (hne : (Value.slice va vn vc).ownBlock ≠ some g) (st : Nat) (hst : st ≤ out.length) :
    vn = out.length ∧ ((va = none ∧ vn = 0 ∧ vc = 0 ∧ out = [] ∧ st = 0) ∨ ∃ b, va = some ⟨b, 0, none⟩ ∧ P < b ∧ b < w.heap.size ∧ b ≠ g ∧ vn ≤ vc ∧ vc ≤ maxLen ∧ ∀ j y, (bv (out.drop st))[j]? = some y → w.cell? ⟨b, st + j, none⟩ = some y) := by
  have hlt := hrow.lt
  rcases hrow.2 with ⟨h, h2⟩ | ⟨g', cap', cur, h, hb, hg, hnc, hcm, _⟩
  · injection h with h3 h4 h5
    subst h3 h4 h5
    have : out = [] := List.length_eq_zero_iff.1 h2
    subst this
    exact ⟨rfl, .inl ⟨rfl, rfl, rfl, rfl, by simpa using hst⟩⟩
  · injection h with h3 h4 h5
    subst h3 h4 h5
    refine ⟨rfl, .inr ⟨g', rfl, by omega, (hlt g' rfl).2, fun e => hne (by rw [e]; rfl), hnc, hcm, fun j y hy => ?_⟩⟩
    have hj := (List.getElem?_eq_some_iff.1 hy).1
    rw [bv_length, List.length_drop] at hj
    rw [hrow.cellAt (st + j) (by omega), ← hy]
    simp [bv, List.getElem?_drop]
set_option maxHeartbeats 2000000 in
/-- an odd number of elements has passed: the name is complete -/
theorem name_compare {w : World} {N P vn vc un uc g : Nat} {va : Option Addr} {out : List UInt8} {S : List GF} {f : GF} {d : Bool} (htw : TW w N P (.slice va vn vc) (.slice (some ⟨g, 0, none⟩) un uc) out (S ++ [f]) d) (hk : f.T.k = 10) (hi : f.i % 2 = 1) (hil : f.i ≤ 1048576) (hst : f.st ≤ out.length) (hol : out.length ≤ 1099511627776) :
    Calls Tryd.prog 63 #[.pointer (some ⟨P, 0, none⟩), .pointer (some ⟨g, S.length * 8, none⟩)] w (CN N P w (.slice va vn vc) (.slice (some ⟨g, 0, none⟩) un uc) out S f d) := by
  have hun : un = (S ++ [f]).length := by
    rcases htw.stk.2 with ⟨h, _⟩ | ⟨g', cap', cur, h, _⟩
    · cases h
    · injection h
  subst hun
  obtain ⟨hPg, hgl, hS1, hC, c5, c6, c7, cf, hvg⟩ := htw.top
  obtain ⟨hvn, hat⟩ := name_at htw.row hvg f.st hst
  have hmp : f.fr.mp = true := by unfold GF.fr; simp [hk]
  have hcm : f.fr.cmp = true := by unfold TFr.cmp; simp [GF.fr, hi, hk]
  have hst1 : f.fr.st1 out = f.st := by unfold TFr.st1; simp [GF.fr, hi]
  have hbb : f.fr.bb1 out = out.drop f.st := by unfold TFr.bb1; rw [hcm]; rfl
  have hbad : f.fr.bad out = !bltB f.bb (out.drop f.st) := by unfold TFr.bad; rw [hcm]; rfl
  -- the ends, for whatever slice the name is
  have fin : ∀ nm : Value, Bef w P (.slice va vn vc) (.slice (some ⟨g, 0, none⟩) (S ++ [f]).length uc) out.length nm (out.drop f.st) → ∀ W : World, Below w.heap.size w W → ∀ b : Bool, b = bltB f.bb (out.drop f.st) →
      CN N P w (.slice va vn vc) (.slice (some ⟨g, 0, none⟩) (S ++ [f]).length uc) out S f d (.returned (.tuple #[])) (if b = true then W.setCell ⟨g, S.length * 8 + 7, none⟩ nm else (W.setCell ⟨P, 2, none⟩ (.bool true)).setCell ⟨g, S.length * 8 + 7, none⟩ nm) := by
    intro nm hnm W hW b hb
    have t0 := htw.blw hW
    have e : (S ++ [GF.mk f.T f.i f.st nm (out.drop f.st)]).length = (S ++ [f]).length := by simp
    have hnm2 : ∀ W', Below w.heap.size w W' → Bef W' P (.slice va vn vc) (.slice (some ⟨g, 0, none⟩) (S ++ [f]).length uc) out.length nm (out.drop f.st) := fun W' h =>
      hnm.kept h.size (Nat.le_refl _) (.inl rfl) (.inl rfl) fun k j _ hk _ _ => World.cell?_of_block (h.block k hk)
    refine ⟨rfl, nm, ?_⟩
    rw [hst1, hbb, hbad, ← hb]
    cases b
    · have t1 := t0.dis true
      have h3 := t1.1.set (j := 7) (y := nm) (f' := ⟨f.T, f.i, f.st, nm, out.drop f.st⟩) (by omega) rfl rfl ((hnm2 W hW).kept (by simp) (Nat.le_refl _) (.inl rfl) (.inl rfl) fun k j hk _ _ _ => World.cell?_of_block (Below.heap_setCell _ _ _ _ (by show k ≠ P; omega)))
      rw [e] at h3
      simp only [Bool.not_false, Bool.or_true, Bool.false_eq_true, if_false]
      exact ⟨h3.1, (Stp.of_below hW).trans (t1.2.trans h3.2)⟩
    · have h3 := t0.set (j := 7) (y := nm) (f' := ⟨f.T, f.i, f.st, nm, out.drop f.st⟩) (by omega) rfl rfl (hnm2 W hW)
      rw [e] at h3
      simp only [Bool.not_true, Bool.or_false, if_true]
      exact ⟨h3.1, (Stp.of_below hW).trans h3.2⟩
  have HF := Lib.hid fin
  have hbs := (htw.bef f (by simp)).slc
  have CL := Lib.hid (fun (W : World) (hW : Below w.heap.size w W) (nm : Value) (hr : Reads W nm (bv (out.drop f.st))) => lessbytes_impl W f.bef nm f.bb (out.drop f.st) (hbs.reads.below hW) hr)
  have p0 := htw.c0
  have p2 := htw.c2
  have pf := htw.fz
  have him : (f.i : Int) % 2 = 1 := by omega
  have hPn : ¬ P = g := by omega
  obtain ⟨q, hq⟩ : ∃ q, q = S.length * 8 := ⟨_, rfl⟩
  rw [← hq] at HF c5 c6 c7 ⊢
  obtain ⟨i, st, bef, hii, hss, hbe⟩ : ∃ i st bef, f.i = i ∧ f.st = st ∧ f.bef = bef := ⟨_, _, _, rfl, rfl, rfl⟩
  rw [hii] at c5 him
  rw [hss] at c6 hat HF CL hst
  rw [hbe] at c7 CL
  clear fin htw hbs hmp hcm hst1 hbb hbad hi hk hq hC hS1 hii hss hbe hil
  obtain ⟨lb, hlb⟩ : ∃ lb, lb = bltB f.bb (out.drop st) := ⟨_, rfl⟩
  rw [← hlb] at CL
  have HLB := Lib.hid hlb
  clear hlb
  rcases hat with ⟨rfl, rfl, rfl, rfl, rfl⟩ | ⟨b, rfl, hPb, hbl, hbg, hnc, hcm, hcell⟩
  · clear hvn hst
    have HBF : Hid (Bef w P (.slice none 0 0) (.slice (some ⟨g, 0, none⟩) (S ++ [f]).length uc) ([] : List UInt8).length (.slice none 0 0) (List.drop 0 [])) := Lib.hid (.inl ⟨rfl, rfl⟩)
    have HF2 := Lib.hid (HF.out (.slice none 0 0) HBF.out)
    have hrd := (Bef.slc HBF.out).reads
    have CL2 := Lib.hid (CL.out w.drew (Below.refl _ _).drew (.slice none 0 0) (hrd.below (Below.refl _ _).drew))
    clear hrd
    go_enter Tryd.func63, Tryd.ntmps63
    (go_upto_region 2 with fail)
    go_region
    go_wp2_with fail
    refine CL2.out.mono ?_
    rintro e w' ⟨rfl, rfl⟩
    cases lb
    · have HQ := Lib.hid (HF2.out w.drew (Below.refl _ _).drew false HLB.out)
      simp only [Bool.false_eq_true, if_false] at HQ
      go_wp2
      go_end0
      exact HQ.out
    · have HQ := Lib.hid (HF2.out w.drew (Below.refl _ _).drew true HLB.out)
      simp only [if_true] at HQ
      go_wp2
      go_end0
      exact HQ.out
  · unfold maxLen at hcm
    have hs1 : (st : Int) ≤ vn := by omega
    have hs2 : (vn : Int) ≤ vc := by omega
    have HV := Lib.hid hvn
    have HCELL := Lib.hid hcell
    have HST := Lib.hid hst
    have hub : (Value.slice (some ⟨g, 0, none⟩) (S ++ [f]).length uc).ownBlock ≠ some b := fun e => hbg (by injection e with e; exact e.symm)
    clear hvn hcell hst hnc
    by_cases hcs : vc = st
    · subst hcs
      obtain rfl : vn = vc := by omega
      have HBF : Hid (Bef w P (.slice (some ⟨b, 0, none⟩) vn vn) (.slice (some ⟨g, 0, none⟩) (S ++ [f]).length uc) out.length (.slice (some ⟨b, 0, none⟩) 0 0) (List.drop vn out)) := Lib.hid (.inr ⟨b, 0, 0, by rw [List.length_drop, ← HV.out, Nat.sub_self], hPb, hbl, hub, fun _ => by rw [List.length_drop]; omega, fun j y hy => by
        have := (List.getElem?_eq_some_iff.1 hy).1
        rw [bv_length, List.length_drop, ← HV.out] at this
        omega⟩)
      have HF2 := Lib.hid (HF.out (.slice (some ⟨b, 0, none⟩) 0 0) HBF.out)
      have hrd := (Bef.slc HBF.out).reads
      have CL2 := Lib.hid (CL.out w.drew (Below.refl _ _).drew (.slice (some ⟨b, 0, none⟩) 0 0) (hrd.below (Below.refl _ _).drew))
      clear hrd
      go_enter Tryd.func63, Tryd.ntmps63
      (go_upto_region 2 with fail)
      go_region
      go_wp2_with fail
      refine CL2.out.mono ?_
      rintro e w' ⟨rfl, rfl⟩
      cases lb
      · have HQ := Lib.hid (HF2.out w.drew (Below.refl _ _).drew false HLB.out)
        simp only [Bool.false_eq_true, if_false] at HQ
        go_wp2
        go_end0
        exact HQ.out
      · have HQ := Lib.hid (HF2.out w.drew (Below.refl _ _).drew true HLB.out)
        simp only [if_true] at HQ
        go_wp2
        go_end0
        exact HQ.out
    · have HBF : Hid (Bef w P (.slice (some ⟨b, 0, none⟩) vn vc) (.slice (some ⟨g, 0, none⟩) (S ++ [f]).length uc) out.length (.slice (some ⟨b, st, none⟩) (vn - st) (vc - st)) (List.drop st out)) := Lib.hid (.inr ⟨b, st, vc - st, by rw [List.length_drop, ← HV.out], hPb, hbl, hub, fun _ => by rw [List.length_drop]; have := HST.out; omega, HCELL.out⟩)
      have HF2 := Lib.hid (HF.out (.slice (some ⟨b, st, none⟩) (vn - st) (vc - st)) HBF.out)
      have hrd := (Bef.slc HBF.out).reads
      have CL2 := Lib.hid (CL.out w.drew (Below.refl _ _).drew (.slice (some ⟨b, st, none⟩) (vn - st) (vc - st)) (hrd.below (Below.refl _ _).drew))
      clear hrd
      go_enter Tryd.func63, Tryd.ntmps63
      (go_upto_region 2 with fail)
      go_region
      go_wp2_with fail
      refine CL2.out.mono ?_
      rintro e w' ⟨rfl, rfl⟩
      cases lb
      · have HQ := Lib.hid (HF2.out w.drew (Below.refl _ _).drew false HLB.out)
        simp only [Bool.false_eq_true, if_false] at HQ
        go_wp2
        go_end0
        exact HQ.out
      · have HQ := Lib.hid (HF2.out w.drew (Below.refl _ _).drew true HLB.out)
        simp only [if_true] at HQ
        go_wp2
        go_end0
        exact HQ.out
end Go.Proofs.YtilgncebhgplaaaDoor
/- The writer's tree: every value of a tree begins in turn; what is written are the tree's bytes. -/
namespace Go.Proofs.YtilgncebhgplaaaDoor
open Go.RowKit
set_option linter.unusedVariables false
set_option maxRecDepth 100000
theorem Tz.keep {P : Nat} {w w' : World} (h : Tz w) (hb : Below P w w') (hg : 2 < P) : Tz w' :=
  ⟨(hb.cell (p := ⟨_, 0, none⟩) hg).trans h.c0, (hb.cell (p := ⟨_, 1, none⟩) hg).trans h.c1, (hb.cell (p := ⟨_, 3, none⟩) hg).trans h.c3, (hb.cell (p := ⟨_, 7, none⟩) hg).trans h.c7⟩
/-- the trees on the stack are small and in range -/
def GoodF (S : List GF) : Prop := ∀ f ∈ S, f.T.pt.Wf ∧ f.T.pt.sz ≤ 1048576
theorem tfr_len (S : List GF) : S.length ≤ frM (tfrs S) := by
  have h : ∀ l : List TFr, l.length ≤ frM l := by
    intro l
    induction l with
    | nil => simp
    | cons f l ih => rw [frM, List.length_cons]; omega
  have := h (tfrs S)
  rwa [tfrs, List.length_reverse, List.length_map] at this
theorem name_any {w : World} {N P vn vc un uc g : Nat} {va : Option Addr} {out : List UInt8} {S : List GF} {f : GF} {d : Bool} (htw : TW w N P (.slice va vn vc) (.slice (some ⟨g, 0, none⟩) un uc) out (S ++ [f]) d) (hk : f.T.k = 10) (hil : f.i ≤ 1048576) (hok : okFr out [] (tfrs (S ++ [f]))) (hol : out.length ≤ 1099511627776) :
    Calls Tryd.prog 63 #[.pointer (some ⟨P, 0, none⟩), .pointer (some ⟨g, S.length * 8, none⟩)] w (CN N P w (.slice va vn vc) (.slice (some ⟨g, 0, none⟩) un uc) out S f d) := by
  by_cases hi : f.i % 2 = 1
  · rw [tfrs_snoc] at hok
    obtain ⟨hst, _⟩ := TFr.cmp_name hok (show f.fr.cmp = true by unfold TFr.cmp; simp [GF.fr, hi, hk])
    exact name_compare htw hk hi hil hst hol
  · exact name_begins htw hk hi hil
/-- what is known of the innermost one -/
theorem top_facts {w : World} {N P vn vc un uc : Nat} {va ua : Option Addr} {out : List UInt8} {S : List GF} {f : GF} {d : Bool} (htw : TW w N P (.slice va vn vc) (.slice ua un uc) out (S ++ [f]) d) : un = S.length + 1 ∧ ∃ g, ua = some ⟨g, 0, none⟩ := by
  rcases htw.stk.2 with ⟨_, h⟩ | ⟨g', cap', cur, h, _⟩
  · simp at h
  · injection h with h1 h2 _
    exact ⟨by rw [h2]; simp, g', h1⟩
theorem tfrs_new (S1 : List GF) (f : GF) (x : AT) : tfrs (if opn1 x.k x.n = true then (S1 ++ [f]) ++ [GF.new x] else S1 ++ [f]) = newFr x.k x.n (AT.ptL x.l) ++ f.fr :: tfrs S1 := by
  unfold newFr
  cases opn1 x.k x.n
  · simp [tfrs_snoc]
  · simp only [if_true]
    rw [tfrs_snoc, tfrs_snoc]
    rfl
theorem none_facts {w : World} {N P vn vc un uc : Nat} {va ua : Option Addr} {out : List UInt8} {d : Bool} (htw : TW w N P (.slice va vn vc) (.slice ua un uc) out [] d) : un = 0 := by
  rcases htw.stk.2 with ⟨h, _⟩ | ⟨g', cap', cur, h, _⟩
  · injection h
  · injection h
set_option maxHeartbeats 4000000 in
theorem tw_tree (T : AT) {w : World} {N P : Nat} (htw : TW w N P (.slice none 0 0) (.slice none 0 0) [] [] false) (hT : T.In w N) (hz : Tz w) (hgP : 2 < P) (hwf : T.pt.Wf) (hsz : T.pt.sz ≤ 1048576) :
    Calls Tryd.prog 35 #[.pointer (some ⟨P, 0, none⟩), T.val] w fun e w' => e = .returned (.tuple #[]) ∧ ∃ va vn vc ua un uc, TW w' N P (.slice va vn vc) (.slice ua un uc) (T.pt.tight hdFor) [] T.pt.dis ∧ Stp P w (.slice none 0 0) (.slice none 0 0) w' (.slice va vn vc) (.slice ua un uc) := by
  have hb0 := vbox w (.cells #[.int .i64 T.k, .int .i64 T.n, .int .i64 T.x, .string ⟨T.s.toArray⟩, .slice T.a T.l.length T.cap] 29)
  have hbc : CellsAt (w.alloc (.cells #[.int .i64 T.k, .int .i64 T.n, .int .i64 T.x, .string ⟨T.s.toArray⟩, .slice T.a T.l.length T.cap] 29)) w.heap.size 0 T := by
    refine ⟨?_, ?_, ?_, ?_, ?_⟩ <;> simp [go_sem]
  have hnp := htw.np
  have hPl := htw.lt
  have hsl : T.s.length ≤ 1048576 ∧ T.l.length ≤ 1048576 := by
    obtain ⟨k, n, x, s, a, cap, l⟩ := T
    simp only [AT.pt, PT.sz, AT.ptL_length] at hsz
    exact ⟨by show s.length ≤ _; omega, by show l.length ≤ _; omega⟩
  have cb := begin_any T (htw.blw hb0) (hT.blw hb0 (by omega)) (hz.below hb0) hwf (by simp; omega) (by simp) hsl.2
  have hlen := tight_le T.pt
  have hcnt := cnt_le_sz T.pt
  have HTW0 := Lib.hid htw
  have HST0 := Lib.hid (Stp.of_below (P := P) (v := .slice none 0 0) (u := .slice none 0 0) hb0)
  have HZ := Lib.hid hz
  have HG := Lib.hid hgP
  have HINV := Lib.hid (show TInv T.pt ([] ++ hd1 T.k T.n T.x T.s T.l.length) false (tfrs (if opn1 T.k T.n = true then [] ++ [GF.new T] else [])) ∧ frM (tfrs (if opn1 T.k T.n = true then [] ++ [GF.new T] else [])) ≤ 2 * T.pt.cnt ∧ GoodF (if opn1 T.k T.n = true then [] ++ [GF.new T] else []) from by
    obtain ⟨k, n, x, s, a, cap, l⟩ := T
    have h1 := TInv.start k n x s (AT.ptL l)
    have h2 := newFr_M k n x s (AT.ptL l) []
    rw [AT.ptL_length, List.append_nil] at *
    have e : tfrs (if opn1 k n = true then [] ++ [GF.new (.mk k n x s a cap l)] else []) = newFr k n (AT.ptL l) := by
      unfold newFr
      cases opn1 k n
      · rfl
      · rfl
    refine ⟨?_, ?_, ?_⟩
    · show TInv _ ([] ++ hd1 k n x s l.length) false (tfrs (if opn1 k n = true then [] ++ [GF.new (.mk k n x s a cap l)] else []))
      rw [e]
      exact h1
    · show frM (tfrs (if opn1 k n = true then [] ++ [GF.new (.mk k n x s a cap l)] else [])) ≤ _
      rw [e]
      have h3 : frM [] = 0 := rfl
      simp only [AT.pt]
      omega
    · intro f hf
      show f.T.pt.Wf ∧ _
      have : f = GF.new (.mk k n x s a cap l) := by
        by_cases ho : opn1 k n = true
        · simpa [AT.k, AT.n, ho] using hf
        · simp [AT.k, AT.n, ho] at hf
      subst this
      exact ⟨hwf, hsz⟩)
  clear htw hT hz hgP hwf hsl hb0
  show Calls Tryd.prog 35 #[.pointer (some ⟨P, 0, none⟩), .agg #[.int .i64 T.k, .int .i64 T.n, .int .i64 T.x, .string ⟨T.s.toArray⟩, .slice T.a T.l.length T.cap]] w _
  go_enter Tryd.func35, Tryd.ntmps35
  (go_upto_region 1 with fail)
  generalize hW1 : (w.alloc (.cells #[.int .i64 T.k, .int .i64 T.n, .int .i64 T.x, .string ⟨T.s.toArray⟩, .slice T.a T.l.length T.cap] 29)) = W1 at *
  obtain ⟨c0, c1, c2, c3, c4⟩ := hbc
  clear hW1
  go_wp2_with fail
  refine Calls.mono (by exact cb) ?_
  rintro e w2 ⟨rfl, va, vn, vc, ua, un, uc, tw2, st2⟩
  have HST2 := Lib.hid (HST0.out.trans st2)
  have HTW2 := Lib.hid tw2
  clear cb tw2 st2 c0 c1 c2 c3 c4 HST0
  go_wp2_with fail
  go_loopg [4, 5, 6] (2 * T.pt.cnt) (fun k _ _ _ wr => ∃ (va ua : Option Addr) (vn vc un uc : Nat) (out : List UInt8) (S : List GF) (d : Bool), Hid (TW wr N P (.slice va vn vc) (.slice ua un uc) out S d) ∧ Hid (TInv T.pt out d (tfrs S)) ∧ Hid (GoodF S) ∧ Hid (frM (tfrs S) ≤ k ∧ k ≤ 2097155) ∧ Hid (Stp P w (.slice none 0 0) (.slice none 0 0) wr (.slice va vn vc) (.slice ua un uc)))
  case atStart => exact ⟨va, ua, vn, vc, un, uc, _, _, _, HTW2, Lib.hid HINV.out.1, Lib.hid HINV.out.2.2, Lib.hid ⟨HINV.out.2.1, by omega⟩, HST2⟩
  case round =>
    obtain ⟨va, ua, vn, vc, un, uc, out, S, d, HTW, HI, HGD, HK, HS⟩ := hrel
    rcases snoc_or S with rfl | ⟨S1, f, rfl⟩
    · obtain rfl := none_facts HTW.out
      have hdn := HI.out.done
      obtain ⟨rfl, hdd⟩ := hdn
      have HD := Lib.hid hdd
      have c1 := HTW.out.c1
      clear hdd
      go_wp2
      go_end0
      exact ⟨rfl, va, vn, vc, ua, 0, uc, by rw [← HD.out]; exact HTW.out, HS.out⟩
    · obtain ⟨hun, g, rfl⟩ := top_facts HTW.out
      have htw' := HTW.out
      rw [show un = (S1 ++ [f]).length by rw [hun]; simp] at htw'
      obtain ⟨hPg, hgl, hS1, hC, c5, c6, c7, cf, hvg⟩ := htw'.top
      clear htw'
      have hfl := tfr_len (S1 ++ [f])
      have hkk := HK.out
      have hS2 : S1.length ≤ 2097155 := by rw [List.length_append, List.length_singleton] at hfl; omega
      have hok := HI.out.ok
      have hob : out.length ≤ 10485800 := by
        have := congrArg List.length HI.out.b
        rw [List.length_append] at this
        omega
      have hgf := HGD.out f (by simp)
      have hfs : f.T.s.length ≤ 1048576 ∧ f.T.l.length ≤ 1048576 ∧ ∀ t ∈ f.T.l, t.pt.Wf ∧ t.pt.sz ≤ 1048576 := by
        obtain ⟨⟨k, n, x, s, a, cap, l⟩, i, st, bef, bb⟩ := f
        obtain ⟨h1, h2⟩ := hgf
        simp only [AT.pt, PT.sz, AT.ptL_length] at h2
        refine ⟨by show s.length ≤ _; omega, by show l.length ≤ _; omega, fun t ht => ⟨h1.sub' t.pt (by rw [AT.ptL_eq]; exact List.mem_map_of_mem ht), ?_⟩⟩
        have := szL_ge (l := l) ht
        omega
      have hil : f.i ≤ f.T.l.length := by
        have h1 := hok
        rw [tfrs_snoc] at h1
        have h2 := h1.1
        simpa [GF.fr, AT.ptL_length] using h2
      have p1 := HTW.out.c1
      have pf := HTW.out.fz
      obtain ⟨q, hq⟩ : ∃ q, q = S1.length := ⟨_, rfl⟩
      rw [← hq] at hun hS1 hC c5 c6 c7 hS2
      have HQ := Lib.hid hq
      subst hun
      have hw1 : IntKind.i64.wrap ((q : Int) + 1 - 1) = q := by rw [Int.add_sub_cancel]; exact IntWalk.i64_in _ (by omega)
      have hFS := Lib.hid hfs
      have HOB := Lib.hid hob
      have hff := hfs.2.1
      have HIL := Lib.hid hil
      obtain ⟨i, hi0⟩ : ∃ i, i = f.i := ⟨_, rfl⟩
      have HI0 := Lib.hid hi0
      rw [← hi0] at c5 hil
      have hi1 : i ≤ 1048576 := by omega
      have HKK := Lib.hid hkk
      have hcq : (q : Int) + 1 ≤ uc := by omega
      have hqa : (0 : Int) ≤ (q : Int) := by omega
      have hqb : (q : Int) < (q : Int) + 1 := by omega
      have hPlt := HTW.out.lt
      obtain ⟨d0, d1, d2, d3, d4⟩ := hC
      have HSS := Lib.hid (fun (W' : World) (hb : Rl wr W') => (⟨hb, keep_below hb.b p1, keep_below hb.b c5, keep_below hb.b d0, keep_below hb.b d1, keep_below hb.b d2, keep_below hb.b d3, keep_below hb.b d4⟩ : Rl wr W' ∧ W'.cell? ⟨P, 1, none⟩ = some (.slice (some ⟨g, 0, none⟩) (q + 1) uc) ∧ W'.cell? ⟨g, q * 8 + 5, none⟩ = some (.int .i64 i) ∧ W'.cell? ⟨g, q * 8, none⟩ = some (.int .i64 f.T.k) ∧ W'.cell? ⟨g, q * 8 + 1, none⟩ = some (.int .i64 f.T.n) ∧ W'.cell? ⟨g, q * 8 + 2, none⟩ = some (.int .i64 f.T.x) ∧ W'.cell? ⟨g, q * 8 + 3, none⟩ = some (.string ⟨f.T.s.toArray⟩) ∧ W'.cell? ⟨g, q * 8 + 4, none⟩ = some (.slice f.T.a f.T.l.length f.T.cap)))
      have hrr := Rl.refl wr
      clear hfs hob hgf hok hfl hkk hq hi0 c6 c7 cf hvg hil hlen hcnt
      (go_upto_region 4 with fail)
      go_cut [5, 6] from 22 to 39 (fun v5 v6 W' => ∃ X, v5 = .pointer (some ⟨X, 0, none⟩) ∧ v6 = .int .i64 i ∧ Hid (CellsAt W' X 0 f.T) ∧ Hid (wr.heap.size ≤ X) ∧ Hid (Below wr.heap.size wr W'))
      case first =>
        obtain ⟨hbr, _⟩ := HSS.out wr hrr
        go_region_held3 (fun W' => Rl wr W' ∧ W'.cell? ⟨P, 1, none⟩ = some (.slice (some ⟨g, 0, none⟩) (q + 1) uc) ∧ W'.cell? ⟨g, q * 8 + 5, none⟩ = some (.int .i64 i) ∧ W'.cell? ⟨g, q * 8, none⟩ = some (.int .i64 f.T.k) ∧ W'.cell? ⟨g, q * 8 + 1, none⟩ = some (.int .i64 f.T.n) ∧ W'.cell? ⟨g, q * 8 + 2, none⟩ = some (.int .i64 f.T.x) ∧ W'.cell? ⟨g, q * 8 + 3, none⟩ = some (.string ⟨f.T.s.toArray⟩) ∧ W'.cell? ⟨g, q * 8 + 4, none⟩ = some (.slice f.T.a f.T.l.length f.T.cap)) ((refine HSS.out _ ?_; repeat (first | with_reducible assumption | with_reducible refine Rl.drew ?_ | with_reducible refine Rl.alloc ?_ _))) ((fail))
        all_goals
          go_wp2_with fail
          go_meet
          exact ⟨wr.heap.size, rfl, rfl, Lib.hid (by refine ⟨?_, ?_, ?_, ?_, ?_⟩ <;> simp [go_sem]), Lib.hid (Nat.le_refl _), Lib.hid (by repeat (first | with_reducible exact Below.refl _ _ | with_reducible refine Below.drew ?_ | with_reducible refine Below.alloc ?_ (Nat.le_refl _) _))⟩
      case rest =>
        obtain ⟨X, rfl, rfl, HCX, HXl, HBc⟩ := hcut
        obtain ⟨x0, x1, x2, x3, x4⟩ := HCX.out
        have HTC := Lib.hid (HTW.out.blw HBc.out)
        have p1c := HTC.out.c1
        have pfc := HTC.out.fz
        clear hrr HSS d0 d1 d2 d3 d4 c5 p1 pf
        go_upto_if 42 with (fail)
        go_cut [42] from 42 to 50 (fun _ W' => ∃ bef, Hid (TW W' N P (.slice va vn vc) (.slice (some ⟨g, 0, none⟩) (q + 1) uc) out (S1 ++ [⟨f.T, f.i, f.fr.st1 out, bef, f.fr.bb1 out⟩]) (d || f.fr.bad out)) ∧ Hid (Stp P wr (.slice va vn vc) (.slice (some ⟨g, 0, none⟩) (q + 1) uc) W' (.slice va vn vc) (.slice (some ⟨g, 0, none⟩) (q + 1) uc)) ∧ Hid (CellsAt W' X 0 f.T))
        case first =>
          by_cases hk : f.T.k = 10
          · have cn := name_any HTC.out hk (Nat.le_trans HIL.out hff) HI.out.ok (by have := HOB.out; omega)
            rw [← HQ.out] at cn
            have hq10 : (f.T.k == 10) = true := by rw [beq_iff_eq]; exact hk
            clear hk
            go_wp2_with fail
            refine Calls.mono (by exact cn) ?_
            rintro e w5 ⟨rfl, bef, tw5, st5⟩
            have HT5 := Lib.hid tw5
            have HS5 := Lib.hid ((Stp.of_below HBc.out).trans st5)
            have HC5 := Lib.hid (HCX.out.keep (st5.box HTW.out HXl.out (cell_lt x0)))
            clear tw5 st5 cn
            go_wp2_with fail
            go_meet
            exact ⟨bef, HT5, HS5, HC5⟩
          · have hq10 : (f.T.k == 10) = false := by rw [beq_eq_false_iff_ne]; exact hk
            have hmp : f.fr.mp = false := by simp [GF.fr, hk]
            have hcm : f.fr.cmp = false := by unfold TFr.cmp; rw [hmp]; rfl
            have e1 : f.fr.st1 out = f.st := by unfold TFr.st1; rw [hmp]; rfl
            have e2 : f.fr.bb1 out = f.bb := by unfold TFr.bb1; rw [hcm]; rfl
            have e3 : f.fr.bad out = false := by unfold TFr.bad; rw [hcm]; rfl
            have HT5 : Hid (TW wc N P (.slice va vn vc) (.slice (some ⟨g, 0, none⟩) (q + 1) uc) out (S1 ++ [⟨f.T, f.i, f.fr.st1 out, f.bef, f.fr.bb1 out⟩]) (d || f.fr.bad out)) := Lib.hid (by rw [e1, e2, e3, Bool.or_false]; exact HTC.out)
            have HS5 := Lib.hid (Stp.of_below (P := P) (v := .slice va vn vc) (u := .slice (some ⟨g, 0, none⟩) (q + 1) uc) HBc.out)
            clear hk hmp hcm e1 e2 e3
            go_wp2_with fail
            go_meet
            exact ⟨f.bef, HT5, HS5, HCX⟩
        case rest =>
          obtain ⟨bef, HT5, HS5, HC5⟩ := hcut
          have hcx := HC5.out
          obtain ⟨y0, y1, y2, y3, y4⟩ := hcx
          rw [Nat.zero_add] at y4
          have p5 := HT5.out.c1
          have pf5 := HT5.out.fz
          obtain ⟨f1, hf1⟩ : ∃ f1, f1 = GF.mk f.T f.i (f.fr.st1 out) bef (f.fr.bb1 out) := ⟨_, rfl⟩
          rw [← hf1] at HT5
          have e : q + 1 = (S1 ++ [f1]).length := by rw [HQ.out]; simp
          have ht5 := HT5.out
          rw [e] at ht5
          have hs5 := HS5.out
          have hin := HI.out
          rw [tfrs_snoc] at hin
          have hgk := HKK.out
          rw [tfrs_snoc] at hgk
          by_cases hie : i = f.T.l.length
          · have hp := ht5.pop
            rw [← e, ← HQ.out] at hp
            have HP := Lib.hid hp.1
            have HSP := Lib.hid (HS.out.trans (hs5.trans hp.2))
            have HI2 := Lib.hid (hin.pop (by show f.i = (AT.ptL f.T.l).length; rw [AT.ptL_length, ← HI0.out]; exact hie))
            have hfm := frM_pop f.fr (tfrs S1)
            have HK2 : Hid (frM (tfrs S1) ≤ gk - 1 ∧ gk - 1 ≤ 2097155 ∧ 0 < gk) := Lib.hid (by omega)
            have HG2 : Hid (GoodF S1) := Lib.hid fun f' hf' => HGD.out f' (List.mem_append_left _ hf')
            have hq2 : (q : Int) ≤ uc := by omega
            clear hp hin hgk hfm ht5 hs5 hf1 e x0 x1 x2 x3 x4 y0 y1 y2 y3 p1c pfc
            subst hie
            go_wp2_with fail
            go_roundg (gk - 1)
            case rel => exact ⟨va, some ⟨g, 0, none⟩, vn, vc, q, uc, out, S1, _, HP, HI2, HG2, Lib.hid ⟨HK2.out.1, HK2.out.2.1⟩, HSP⟩
            case measure => have := HK2.out; omega
          · have hil2 := HIL.out
            have hlt : i < f.T.l.length := by have := HI0.out; omega
            obtain ⟨x, hx⟩ : ∃ x, x = f.T.l[i] := ⟨_, rfl⟩
            have hxm : x ∈ f.T.l := by rw [hx]; exact List.getElem_mem hlt
            have hfin : f.T.In wc N := by have := HT5.out.lv f1 (by simp); rw [hf1] at this; exact this
            obtain ⟨b, o, ha, hbN, hxc⟩ := hfin.lv'.cell i hlt
            rw [← hx] at hxc
            rw [ha] at y4
            obtain ⟨_, _, _, _, c5, _, _, cf, _⟩ := ht5.top
            obtain ⟨f2, hf2⟩ : ∃ f2, f2 = GF.mk f.T (i + 1) (f.fr.st1 out) bef (f.fr.bb1 out) := ⟨_, rfl⟩
            have hset := ht5.set (j := 5) (y := .int .i64 ((i : Int) + 1)) (f' := f2) (by omega) (by rw [hf1, hf2]; simp [GF.cells]) (by rw [hf1, hf2]) (by have := ht5.bef f1 (by simp); rw [hf1] at this ⊢; rw [hf2]; simpa using this)
            have e2 : (S1 ++ [f2]).length = q + 1 := by rw [HQ.out]; simp
            rw [e2, ← HQ.out, ← e] at hset
            rw [← HQ.out, hf1] at c5
            have c5b : wc.cell? ⟨g, q * 8 + 5, none⟩ = some (.int .i64 i) := by rw [HI0.out]; exact c5
            clear c5
            have hst6 := HS.out.trans (hs5.trans hset.2)
            have hb6 := hst6.below HTW0.out
            have htz6 := HZ.out.keep hb6 HG.out
            have hxin : x.In (wc.setCell ⟨g, q * 8 + 5, none⟩ (.int .i64 ((i : Int) + 1))) N := by
              have := hset.1.lv f2 (by simp)
              rw [hf2] at this
              exact this.lv'.sub x hxm
            obtain ⟨hxw, hxs⟩ := hFS.out.2.2 x hxm
            have hxsl : x.s.length ≤ 1048576 ∧ x.l.length ≤ 1048576 := by
              obtain ⟨k, n, y, s, a, cap, l⟩ := x
              simp only [AT.pt, PT.sz, AT.ptL_length] at hxs
              exact ⟨by show s.length ≤ _; omega, by show l.length ≤ _; omega⟩
            have cb := begin_any x hset.1 hxin htz6 hxw (by have := HOB.out; omega) (by rw [e2]; omega) hxsl.2
            have hpush := hin.push (k := x.k) (n := x.n) (x := x.x) (s := x.s) (l := AT.ptL x.l) (by
              show (AT.ptL f.T.l)[f.i]? = _
              rw [← HI0.out, (take_step f.T.l i hlt).2, ← hx, AT.pt_eq, AT.ptL_eq])
            rw [AT.ptL_length] at hpush
            have HTI : Hid (TInv T.pt (out ++ hd1 x.k x.n x.x x.s x.l.length) (d || f.fr.bad out) (tfrs (if opn1 x.k x.n = true then (S1 ++ [f2]) ++ [GF.new x] else S1 ++ [f2]))) := Lib.hid (by
              rw [tfrs_new, hf2]
              have h1 := hpush.1
              rw [show f.fr.i = i from HI0.out.symm] at h1
              exact h1)
            have HKM : Hid (frM (tfrs (if opn1 x.k x.n = true then (S1 ++ [f2]) ++ [GF.new x] else S1 ++ [f2])) ≤ gk - 1 ∧ gk - 1 ≤ 2097155 ∧ 0 < gk) := Lib.hid (by
              have h1 := hpush.2
              rw [show f.fr.i = i from HI0.out.symm] at h1
              rw [tfrs_new, hf2]
              have h2 : frM (newFr x.k x.n (AT.ptL x.l) ++ (GF.mk f.T (i + 1) (f.fr.st1 out) bef (f.fr.bb1 out)).fr :: tfrs S1) < frM (f.fr :: tfrs S1) := h1
              omega)
            have HGS : Hid (GoodF (if opn1 x.k x.n = true then (S1 ++ [f2]) ++ [GF.new x] else S1 ++ [f2])) := Lib.hid (by
              intro f' hf'
              have h0 : f' ∈ S1 ∨ f' = f2 ∨ f' = GF.new x := by
                by_cases ho : opn1 x.k x.n = true
                · rw [if_pos ho] at hf'
                  simp only [List.mem_append, List.mem_cons, List.not_mem_nil, or_false] at hf'
                  rcases hf' with (h | h) | h
                  · exact .inl h
                  · exact .inr (.inl h)
                  · exact .inr (.inr h)
                · rw [if_neg ho] at hf'
                  simp only [List.mem_append, List.mem_cons, List.not_mem_nil, or_false] at hf'
                  exact hf'.imp id .inl
              rcases h0 with h | rfl | rfl
              · exact HGD.out f' (List.mem_append_left _ h)
              · have := HGD.out f (by simp)
                rw [hf2]
                exact this
              · exact ⟨hxw, hxs⟩)
            have HST6 := Lib.hid hst6
            have CB := Lib.hid cb
            have hgX : g ≠ X := by have := HXl.out; omega
            have hgb : ¬ g = b := by have := HTW0.out.np; omega
            have hil3 : (i : Int) < f.T.l.length := by omega
            have hii0 : (0 : Int) ≤ i := by omega
            have hiw : IntKind.i64.wrap ((i : Int) + 1) = (i : Int) + 1 := IntWalk.i64_in _ (by omega)
            have hq8 : ((i : Int) == f.T.l.length) = false := by rw [beq_eq_false_iff_ne]; omega
            have cfz : wc.frozen? ⟨g, q * 8 + 5, none⟩ = false := cf _
            obtain ⟨z0, z1, z2, z3, z4⟩ := hxc
            clear hin hgk ht5 hs5 hpush cb hset hst6 hb6 htz6 hxin hxw hxs hxsl hx hxm hfin ha hbN e e2 hf1 hf2 hlt hie hil2 x0 x1 x2 x3 x4 y0 y1 y2 y3 p1c pfc cf
            go_wp2_with fail
            refine Calls.mono (by exact CB.out) ?_
            rintro e w7 ⟨rfl, va7, vn7, vc7, ua7, un7, uc7, tw7, st7⟩
            have HT7 := Lib.hid tw7
            have HS7 := Lib.hid (HST6.out.trans st7)
            clear tw7 st7
            go_wp2_with fail
            go_roundg (gk - 1)
            case rel => exact ⟨va7, ua7, vn7, vc7, un7, uc7, _, _, _, HT7, HTI, HGS, Lib.hid ⟨HKM.out.1, HKM.out.2.1⟩, HS7⟩
            case measure => have := HKM.out; omega
end Go.Proofs.YtilgncebhgplaaaDoor
/- PackTight and LessTight of the program. -/
namespace Go.Proofs.YtilgncebhgplaaaDoor
open Go.RowKit
set_option linter.unusedVariables false
set_option maxRecDepth 100000
/-- a row of bytes of one's own, nil perhaps -/
def FreshB (w : World) (l : List UInt8) (e : Ending) (w' : World) : Prop := ∃ a n c, e = .returned (.slice a n c) ∧ w'.ownsRow w.heap.size 5 1 (.slice a n c) l.length (bv l) ∧ Below w.heap.size w w'
theorem Tz.lt {w : World} (h : Tz w) : 2 < w.heap.size := tz_lt h.c0
/-- a new writer -/
theorem TW.new (w : World) (N : Nat) (hN : N ≤ w.heap.size) : TW (w.alloc (.cells #[.slice none 0 0, .slice none 0 0, .bool false] 46)) N w.heap.size (.slice none 0 0) (.slice none 0 0) [] [] false where
  c0 := by simp [go_sem]
  c1 := by simp [go_sem]
  c2 := by simp [go_sem]
  fz o := by simp [go_sem]
  row := World.ownsRow_nil _ _ _ _
  stk := World.ownsRow_nil _ _ _ _
  np := hN
  lv f hf := by cases hf
  bef f hf := by cases hf
set_option maxHeartbeats 1000000 in
theorem packtight_impl (T : AT) (w : World) (N : Nat) (hin : T.In w N) (hN : N ≤ w.heap.size) (hz : Tz w) (hwf : T.pt.Wf) (hsz : T.pt.sz ≤ 1048576) :
    Calls Tryd.prog 15 #[T.val] w (FreshB w (T.pt.tight hdFor)) := by
  have hb0 := vbox w (.cells #[.int .i64 T.k, .int .i64 T.n, .int .i64 T.x, .string ⟨T.s.toArray⟩, .slice T.a T.l.length T.cap] 29)
  have hbc : CellsAt (w.alloc (.cells #[.int .i64 T.k, .int .i64 T.n, .int .i64 T.x, .string ⟨T.s.toArray⟩, .slice T.a T.l.length T.cap] 29)) w.heap.size 0 T := by
    refine ⟨?_, ?_, ?_, ?_, ?_⟩ <;> simp [go_sem]
  have hgl := hz.lt
  have CT := Lib.hid (fun (W : World) (hb : Below w.heap.size w W) => tw_tree T (TW.new W N (Nat.le_trans hN hb.size)) (hin.blw (hb.trans ((below_box W _).mono hb.size)) hN) (hz.below (hb.trans ((below_box W _).mono hb.size))) (Nat.lt_of_lt_of_le hgl hb.size) hwf hsz)
  have HNEW := Lib.hid (fun (W : World) (hb : Below w.heap.size w W) => TW.new W N (Nat.le_trans hN hb.size))
  clear hin hN hz hwf hsz hgl
  show Calls Tryd.prog 15 #[.agg #[.int .i64 T.k, .int .i64 T.n, .int .i64 T.x, .string ⟨T.s.toArray⟩, .slice T.a T.l.length T.cap]] w _
  go_enter Tryd.func15, Tryd.ntmps15
  (go_upto_region 1 with fail)
  generalize hW1 : (w.alloc (.cells #[.int .i64 T.k, .int .i64 T.n, .int .i64 T.x, .string ⟨T.s.toArray⟩, .slice T.a T.l.length T.cap] 29)) = W1 at *
  have hbx : w.heap.size < W1.heap.size := by rw [← hW1]; simp
  have HB0 := Lib.hid hb0
  obtain ⟨c0, c1, c2, c3, c4⟩ := hbc
  have ct := CT.out W1 hb0
  have ht0 := HNEW.out W1 hb0
  clear hb0 hW1 CT HNEW
  (go_upto_region 2 with fail)
  have hbn := below_box W1 (.cells #[.slice none 0 0, .slice none 0 0, .bool false] 46)
  replace c0 := keep_below hbn c0
  replace c1 := keep_below hbn c1
  replace c2 := keep_below hbn c2
  replace c3 := keep_below hbn c3
  replace c4 := keep_below hbn c4
  generalize (W1.alloc (.cells #[.slice none 0 0, .slice none 0 0, .bool false] 46)) = W2 at *
  have HT0 := Lib.hid ht0
  have HBN := Lib.hid hbn
  clear ht0 hbn
  go_wp2_with fail
  refine Calls.mono (by exact ct) ?_
  rintro e w3 ⟨rfl, va, vn, vc, ua, un, uc, tw3, st3⟩
  have HB3 := Lib.hid (st3.below HT0.out)
  have HT3 := Lib.hid tw3
  have p0 := tw3.c0
  clear ct tw3 st3 c0 c1 c2 c3 c4
  go_wp2
  go_ret
  exact ⟨va, vn, vc, rfl, own_base' HT3.out.row (by omega), HB0.out.trans ((HBN.out.mono (Nat.le_of_lt hbx)).trans (HB3.out.mono (Nat.le_of_lt hbx)))⟩
theorem FreshB.reads {w w' : World} {l : List UInt8} {a : Option Addr} {n c : Nat} (h : w'.ownsRow w.heap.size 5 1 (.slice a n c) l.length (bv l)) : Reads w' (.slice a n c) (bv l) := (own_slc h).reads
end Go.Proofs.YtilgncebhgplaaaDoor
