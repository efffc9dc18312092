import Derived.Test.YtnikcgmbkmbloaaG14
import Derived.Test.YtnikcgmbkmbloaaG12
import Derived.Shelf.SlGeneric
import Derived.Shelf.SlLaysF0
import Derived.Test.YtnikcgmbkmbloaaProg
import Derived.Test.YtnikcgmbkmbloaaG7
import Derived.Test.YtnikcgmbkmbloaaG8
import Derived.StillTailTactics
/- LessVal of the program. -/
namespace Go.Proofs.Ytnikcgmbkmbloaa
open Go.RowKit
set_option maxRecDepth 100000
theorem lessval_impl (T U : AT) (w : World) (N : Nat) (hwf : T.pt.Wf) (hwf2 : U.pt.Wf) (hin : T.In w N) (hin2 : U.In w N) (hN : N ≤ w.heap.size) (hsz : T.pt.sz ≤ 2097152) : Calls Try.prog 49 #[T.val, U.val] w fun e w' => e = .returned (.bool (T.pt.less U.pt)) ∧ Below w.heap.size w w' := by
  have HC := Lib.hid (fun (w1 : World) (hb : Below w.heap.size w w1) => treesN T U w1 N hwf hwf2 (hin.blw hb hN) (hin2.blw hb hN) (Nat.le_trans hN hb.size) hsz)
  have hl : T.pt.less U.pt = decide (T.pt.cmp numV U.pt < 0) := rfl
  rw [hl]
  generalize T.pt.cmp numV U.pt = r at *
  clear hin hin2 hwf hwf2 hsz
  show Calls Try.prog 49 #[.agg #[.int .i64 T.k, .int .i64 T.n, .int .i64 T.x, .string ⟨T.s.toArray⟩, .slice T.a T.l.length T.cap], .agg #[.int .i64 U.k, .int .i64 U.n, .int .i64 U.x, .string ⟨U.s.toArray⟩, .slice U.a U.l.length U.cap]] w _
  go_enter Try.func49, Try.ntmps49
  go_wp2_with fail
  refine (HC.out _ (two' _ _ _)).mono ?_
  rintro e w1 ⟨rfl, hb1⟩
  have HB := Lib.hid ((two' w (.cells #[.int .i64 T.k, .int .i64 T.n, .int .i64 T.x, .string ⟨T.s.toArray⟩, .slice T.a T.l.length T.cap] 26) (.cells #[.int .i64 U.k, .int .i64 U.n, .int .i64 U.x, .string ⟨U.s.toArray⟩, .slice U.a U.l.length U.cap] 26)).trans (hb1.mono (by simp; omega)))
  clear hb1
  go_wp2
  go_ret
  exact ⟨rfl, HB.out⟩
end Go.Proofs.Ytnikcgmbkmbloaa
/- Sorted of the model and of the program. -/
namespace Go.Proofs.Ytnikcgmbkmbloaa
open Go.RowKit
set_option maxRecDepth 100000
def asc : List PT → Bool
  | t :: u :: l => t.less u && asc (u :: l)
  | _ => true
theorem asc_one (l : List PT) : asc (l.take 1) = true := by cases l <;> simp [asc]
theorem asc_take (l : List PT) (r : Nat) (h : r + 1 < l.length) : asc (l.take (r + 1 + 1)) = (asc (l.take (r + 1)) && (l[r]).less l[r + 1]) := by
  induction l generalizing r with
  | nil => simp at h
  | cons t l ih =>
    cases l with
    | nil => simp at h
    | cons u l =>
      cases r with
      | zero => simp [asc]
      | succ r =>
        have := ih r (by simpa using h)
        simp only [List.take_succ_cons, asc, List.getElem_cons_succ] at this ⊢
        rw [this, Bool.and_assoc]
theorem asc_false (l : List PT) (r : Nat) (h : r + 1 < l.length) (hf : (l[r]).less l[r + 1] = false) : asc l = false := by
  induction l generalizing r with
  | nil => simp at h
  | cons t l ih =>
    cases l with
    | nil => simp at h
    | cons u l =>
      cases r with
      | zero => simp only [asc]; rw [show t.less u = false by simpa using hf]; rfl
      | succ r =>
        simp only [asc]
        rw [ih r (by simpa using h) (by simpa using hf), Bool.and_false]
theorem names_wf {p : PT} (h : p.Wf) (hsz : p.sz ≤ 1048576) : ∀ q ∈ p.names, q.Wf ∧ q.sz ≤ 1048576 := by
  obtain ⟨k, n, x, s, l⟩ := p
  intro q hq
  simp only [PT.names] at hq
  split at hq
  · have hm := evens_mem hq
    have := sz_mem hm
    simp only [PT.sz] at hsz
    exact ⟨h.sub' q hm, by omega⟩
  · cases hq
set_option maxHeartbeats 2000000 in
theorem sorted_spec (T : AT) (w : World) (N : Nat) (hwf : T.pt.Wf) (hin : T.In w N) (hsz : T.pt.sz ≤ 1048576) (hN : N ≤ w.heap.size) : Calls Try.prog 22 #[T.val] w fun e w' => e = .returned (.bool (asc T.pt.names)) ∧ Below w.heap.size w w' := by
  have HNC := Lib.hid (fun (w1 : World) (hb : Below w.heap.size w w1) => names_spec T w1 N (hin.blw hb hN) (by omega) (Nat.le_trans hN hb.size))
  have HNW : Hid (∀ p ∈ T.pt.names, p.Wf ∧ p.sz ≤ 1048576) := Lib.hid (names_wf hwf hsz)
  obtain ⟨tot, htot⟩ : ∃ tot, tot = asc T.pt.names := ⟨_, rfl⟩
  rw [← htot]
  have HTOT := Lib.hid htot
  clear hin hsz hwf htot
  show Calls Try.prog 22 #[.agg #[.int .i64 T.k, .int .i64 T.n, .int .i64 T.x, .string ⟨T.s.toArray⟩, .slice T.a T.l.length T.cap]] w _
  go_enter Try.func22, Try.ntmps22
  go_wp2_with fail
  have hb0 := vbox w (.cells #[.int .i64 T.k, .int .i64 T.n, .int .i64 T.x, .string ⟨T.s.toArray⟩, .slice T.a T.l.length T.cap] 26)
  refine (HNC.out _ hb0).mono ?_
  rintro e w1 ⟨a1, cap1, ns, hpt, rfl, hown, hnd, hb1⟩
  have HLV := Lib.hid hown.lv
  have HB1 := Lib.hid (hb0.trans (hb1.mono hb0.size))
  have HNP : Hid (AT.ptL ns = T.pt.names) := Lib.hid hpt
  have HCAP : Hid (cap1 ≤ maxLen) := Lib.hid (own_cap hown.row).2.2
  clear hpt hown hnd hb1 hb0
  obtain ⟨p, hp⟩ : ∃ p, p = T.pt.names := ⟨_, rfl⟩
  rw [← hp] at HNP HNW
  have HASC : Hid (tot = asc (AT.ptL ns)) := Lib.hid (by rw [HTOT.out, ← hp, HNP.out])
  have HWF : Hid (∀ t ∈ ns, t.pt.Wf ∧ t.pt.sz ≤ 1048576) := Lib.hid (fun t ht => HNW.out t.pt (by rw [← HNP.out, AT.ptL_eq]; exact List.mem_map_of_mem ht))
  have HLS := Lib.hid (fun (t : AT) (ht : t ∈ ns) (u : AT) (hu : u ∈ ns) (w2 : World) (hb : Below w1.heap.size w1 w2) => lessval_spec t u w2 w1.heap.size (HWF.out t ht).1 (HWF.out u hu).1 ((HLV.out.sub t ht).blw hb (Nat.le_refl _)) ((HLV.out.sub u hu).blw hb (Nat.le_refl _)) hb.size)
  clear hp HNP HNW HTOT HNC
  go_wp2_with fail
  go_loopw [4] (fun i wr => ∃ q : Nat, i = .int .i64 q ∧ 1 ≤ q ∧ (q ≤ ns.length ∨ q = 1) ∧ Hid (asc ((AT.ptL ns).take q) = true) ∧ Hid (Below w1.heap.size w1 wr)) (fun i _ => ns.length + 1 - (intOf i).toNat)
  case atStart => exact ⟨1, rfl, Nat.le_refl _, .inr rfl, Lib.hid (asc_one _), Lib.hid (Below.refl _ _)⟩
  case round =>
    obtain ⟨q, rfl, hq1, hq2, HA, HB⟩ := hrel
    have HBw := Lib.hid (HB1.out.trans (HB.out.mono HB1.out.size))
    by_cases hlt : q < ns.length
    · obtain ⟨r, rfl⟩ : ∃ r, q = r + 1 := ⟨q - 1, by omega⟩
      have hlr : r < ns.length := by omega
      obtain ⟨b, o, rfl, hbN, hC⟩ := HLV.out.cell r hlr
      obtain ⟨b', o', hbo, hbN2, hC2⟩ := HLV.out.cell (r + 1) hlt
      injection hbo with hbo
      injection hbo with e1 e2
      subst e1 e2
      have hC := hC.keep (HB.out.block b hbN)
      have hC2 := hC2.keep (HB.out.block b hbN)
      have hcall := fun w2 hb => HLS.out ns[r] (List.getElem_mem hlr) ns[r + 1] (List.getElem_mem hlt) w2 (HB.out.trans hb)
      have e1 : r + 1 < (AT.ptL ns).length := by rw [AT.ptL_length]; exact hlt
      have hT := asc_take (AT.ptL ns) r e1
      have hF := asc_false (AT.ptL ns) r e1
      rw [ptL_get ns r hlr, ptL_get ns (r + 1) hlt] at hT hF
      obtain ⟨V, hV⟩ : ∃ V, V = ns[r] := ⟨_, rfl⟩
      obtain ⟨V2, hV2⟩ : ∃ V2, V2 = ns[r + 1] := ⟨_, rfl⟩
      rw [← hV] at hC hcall hT hF
      rw [← hV2] at hC2 hcall hT hF
      have HC := Lib.hid hcall
      have HT := Lib.hid hT
      have HF := Lib.hid hF
      obtain ⟨c0, c1, c2, c3, c4⟩ := hC
      obtain ⟨d0, d1, d2, d3, d4⟩ := hC2
      have hi1 : (r : Int) + 1 < ns.length := by omega
      have hi2 : (r : Int) < ns.length := by omega
      have hi3 : (0 : Int) ≤ (r : Int) + 1 := by omega
      have hmx : ns.length ≤ 9223372036854775807 := by have h1 := HLV.out.hc; have h2 := HCAP.out; unfold maxLen at h2; omega
      have hw1 : IntKind.i64.wrap ((r : Int) + 1 - 1) = (r : Int) := by rw [Int.add_sub_cancel]; exact IntWalk.i64_in _ (by omega)
      have hw2 : IntKind.i64.wrap (r : Int) = (r : Int) := IntWalk.i64_in _ (by omega)
      clear hV hV2 hcall hT hF e1
      go_wp2_with fail
      refine wp_region_still_tail 9 (by kernel_rfl) (by kernel_rfl) ?_
      simp only [List.take_succ_cons, List.take_zero, List.drop_succ_cons, List.drop_zero]
      repeat still_step
      refine wpStill_nil ?_
      change wpList _ _ _ _ _ (World.drew _)
      have HBd := Lib.hid ((Below.refl wr.heap.size wr).drew)
      clear c0 c1 c2 c3 c4 d0 d1 d2 d3 d4
      generalize World.drew _ = w2 at *
      go_wp2_with fail
      refine (HC.out _ (HBd.out.mono HB.out.size)).mono ?_
      rintro e w3 ⟨rfl, hb3⟩
      have HB3 := Lib.hid (HB.out.trans ((HBd.out.trans (hb3.mono HBd.out.size)).mono HB.out.size))
      clear hb3
      cases hl : V.pt.less V2.pt
      · have HV : Hid (asc (AT.ptL ns) = false) := Lib.hid (HF.out hl)
        clear hl
        go_wp2
        go_ret
        exact ⟨by rw [HASC.out, HV.out]; try rfl, HB1.out.trans (HB3.out.mono HB1.out.size)⟩
      · have HV : Hid (asc ((AT.ptL ns).take (r + 1 + 1)) = true) := Lib.hid (by rw [HT.out, HA.out, hl]; rfl)
        clear hl
        go_wp2
        go_roundw
        case rel => exact ⟨r + 1 + 1, by go_num, by omega, .inl (by omega), HV, HB3⟩
        case measure => simp [intOf]; omega
    · have HV : Hid (asc (AT.ptL ns) = true) := Lib.hid (by
        have h1 := HA.out
        rwa [List.take_of_length_le (by rw [AT.ptL_length]; omega)] at h1)
      have hnl : ¬ (q : Int) < ns.length := by omega
      go_wp2
      go_ret
      exact ⟨by rw [HASC.out, HV.out]; try rfl, HBw.out⟩
set_option maxHeartbeats 2000000 in
theorem sorted_impl (T : AT) (w : World) (N : Nat) (hwf : T.pt.Wf) (hin : T.In w N) (hsz : T.pt.sz ≤ 1048576) (hN : N ≤ w.heap.size) : Calls Try.prog 21 #[T.val] w fun e w' => e = .returned (.bool (asc T.pt.names)) ∧ Below w.heap.size w w' := by
  have HNC := Lib.hid (fun (w1 : World) (hb : Below w.heap.size w w1) => names_impl T w1 N (hin.blw hb hN) (by have := len_le_sz T; omega) (Nat.le_trans hN hb.size))
  have HNW : Hid (∀ p ∈ T.pt.names, p.Wf ∧ p.sz ≤ 1048576) := Lib.hid (names_wf hwf hsz)
  obtain ⟨tot, htot⟩ : ∃ tot, tot = asc T.pt.names := ⟨_, rfl⟩
  rw [← htot]
  have HTOT := Lib.hid htot
  clear hin hsz hwf htot
  show Calls Try.prog 21 #[.agg #[.int .i64 T.k, .int .i64 T.n, .int .i64 T.x, .string ⟨T.s.toArray⟩, .slice T.a T.l.length T.cap]] w _
  go_enter Try.func21, Try.ntmps21
  go_wp2_with fail
  have hb0 := vbox w (.cells #[.int .i64 T.k, .int .i64 T.n, .int .i64 T.x, .string ⟨T.s.toArray⟩, .slice T.a T.l.length T.cap] 26)
  refine (HNC.out _ hb0).mono ?_
  rintro e w1 ⟨a1, cap1, rfl, hrow, hb1⟩
  have HLV := Lib.hid (hrow.lv (by have := hb1.size; have := hb0.size; omega))
  have HB1 := Lib.hid (hb0.trans (hb1.mono hb0.size))
  have HNP : Hid (AT.ptL T.names = T.pt.names) := Lib.hid (names_pt T)
  have HCAP : Hid (cap1 ≤ maxLen) := Lib.hid (own_cap hrow.row).2.2
  clear hrow hb1 hb0
  generalize T.names = ns at *
  obtain ⟨p, hp⟩ : ∃ p, p = T.pt.names := ⟨_, rfl⟩
  rw [← hp] at HNP HNW
  have HASC : Hid (tot = asc (AT.ptL ns)) := Lib.hid (by rw [HTOT.out, ← hp, HNP.out])
  have HWF : Hid (∀ t ∈ ns, t.pt.Wf ∧ t.pt.sz ≤ 1048576) := Lib.hid (fun t ht => HNW.out t.pt (by rw [← HNP.out, AT.ptL_eq]; exact List.mem_map_of_mem ht))
  have HLS := Lib.hid (fun (t : AT) (ht : t ∈ ns) (u : AT) (hu : u ∈ ns) (w2 : World) (hb : Below w1.heap.size w1 w2) => lessval_impl t u w2 w1.heap.size (HWF.out t ht).1 (HWF.out u hu).1 ((HLV.out.sub t ht).blw hb (Nat.le_refl _)) ((HLV.out.sub u hu).blw hb (Nat.le_refl _)) hb.size (by have := (HWF.out t ht).2; omega))
  clear hp HNP HNW HTOT HNC
  go_wp2_with fail
  go_loopw [4] (fun i wr => ∃ q : Nat, i = .int .i64 q ∧ 1 ≤ q ∧ (q ≤ ns.length ∨ q = 1) ∧ Hid (asc ((AT.ptL ns).take q) = true) ∧ Hid (Below w1.heap.size w1 wr)) (fun i _ => ns.length + 1 - (intOf i).toNat)
  case atStart => exact ⟨1, rfl, Nat.le_refl _, .inr rfl, Lib.hid (asc_one _), Lib.hid (Below.refl _ _)⟩
  case round =>
    obtain ⟨q, rfl, hq1, hq2, HA, HB⟩ := hrel
    have HBw := Lib.hid (HB1.out.trans (HB.out.mono HB1.out.size))
    by_cases hlt : q < ns.length
    · obtain ⟨r, rfl⟩ : ∃ r, q = r + 1 := ⟨q - 1, by omega⟩
      have hlr : r < ns.length := by omega
      obtain ⟨b, o, rfl, hbN, hC⟩ := HLV.out.cell r hlr
      obtain ⟨b', o', hbo, hbN2, hC2⟩ := HLV.out.cell (r + 1) hlt
      injection hbo with hbo
      injection hbo with e1 e2
      subst e1 e2
      have hC := hC.keep (HB.out.block b hbN)
      have hC2 := hC2.keep (HB.out.block b hbN)
      have hcall := fun w2 hb => HLS.out ns[r] (List.getElem_mem hlr) ns[r + 1] (List.getElem_mem hlt) w2 (HB.out.trans hb)
      have e1 : r + 1 < (AT.ptL ns).length := by rw [AT.ptL_length]; exact hlt
      have hT := asc_take (AT.ptL ns) r e1
      have hF := asc_false (AT.ptL ns) r e1
      rw [ptL_get ns r hlr, ptL_get ns (r + 1) hlt] at hT hF
      obtain ⟨V, hV⟩ : ∃ V, V = ns[r] := ⟨_, rfl⟩
      obtain ⟨V2, hV2⟩ : ∃ V2, V2 = ns[r + 1] := ⟨_, rfl⟩
      rw [← hV] at hC hcall hT hF
      rw [← hV2] at hC2 hcall hT hF
      have HC := Lib.hid hcall
      have HT := Lib.hid hT
      have HF := Lib.hid hF
      obtain ⟨c0, c1, c2, c3, c4⟩ := hC
      obtain ⟨d0, d1, d2, d3, d4⟩ := hC2
      have hi1 : (r : Int) + 1 < ns.length := by omega
      have hi2 : (r : Int) < ns.length := by omega
      have hi3 : (0 : Int) ≤ (r : Int) + 1 := by omega
      have hmx : ns.length ≤ 9223372036854775807 := by have h1 := HLV.out.hc; have h2 := HCAP.out; unfold maxLen at h2; omega
      have hw1 : IntKind.i64.wrap ((r : Int) + 1 - 1) = (r : Int) := by rw [Int.add_sub_cancel]; exact IntWalk.i64_in _ (by omega)
      have hw2 : IntKind.i64.wrap (r : Int) = (r : Int) := IntWalk.i64_in _ (by omega)
      clear hV hV2 hcall hT hF e1
      go_wp2_with fail
      refine wp_region_still_tail 9 (by kernel_rfl) (by kernel_rfl) ?_
      simp only [List.take_succ_cons, List.take_zero, List.drop_succ_cons, List.drop_zero]
      repeat still_step
      refine wpStill_nil ?_
      change wpList _ _ _ _ _ (World.drew _)
      have HBd := Lib.hid ((Below.refl wr.heap.size wr).drew)
      clear c0 c1 c2 c3 c4 d0 d1 d2 d3 d4
      generalize World.drew _ = w2 at *
      go_wp2_with fail
      refine (HC.out _ (HBd.out.mono HB.out.size)).mono ?_
      rintro e w3 ⟨rfl, hb3⟩
      have HB3 := Lib.hid (HB.out.trans ((HBd.out.trans (hb3.mono HBd.out.size)).mono HB.out.size))
      clear hb3
      cases hl : V.pt.less V2.pt
      · have HV : Hid (asc (AT.ptL ns) = false) := Lib.hid (HF.out hl)
        clear hl
        go_wp2
        go_ret
        exact ⟨by rw [HASC.out, HV.out]; try rfl, HB1.out.trans (HB3.out.mono HB1.out.size)⟩
      · have HV : Hid (asc ((AT.ptL ns).take (r + 1 + 1)) = true) := Lib.hid (by rw [HT.out, HA.out, hl]; rfl)
        clear hl
        go_wp2
        go_roundw
        case rel => exact ⟨r + 1 + 1, by go_num, by omega, .inl (by omega), HV, HB3⟩
        case measure => simp [intOf]; omega
    · have HV : Hid (asc (AT.ptL ns) = true) := Lib.hid (by
        have h1 := HA.out
        rwa [List.take_of_length_le (by rw [AT.ptL_length]; omega)] at h1)
      have hnl : ¬ (q : Int) < ns.length := by omega
      go_wp2
      go_ret
      exact ⟨by rw [HASC.out, HV.out]; try rfl, HBw.out⟩
end Go.Proofs.Ytnikcgmbkmbloaa
/-
  DERIVED: THE SHELF's CONTRACTS AT THIS DUMP, IN PLAIN WORDS (tools/lay-plain.mjs out of 'TryShelfS.lean', which tools/lay-shelf.mjs wrote): THE SAME DECLARATIONS UNDER THE SAME NAMES: 'import', 'namespace', 'open', 'def', 'theorem' AND NOTHING ELSE: no command of the shelf's: FOR A HAND-IN. Each laying: the table of numbers ('.._ren') and one theorem, a field a fact of the dump's own or the kernel's comparison; each contract: ONE APPLICATION.
-/
namespace Go.Proofs
open Go.Shelf
def Try.sortVal_ren : Go.Shelf.Ren := ⟨fun | 6 => 63 | 15 => 101 | 14 => 100 | 28 => 140 | 29 => 141 | 20 => 132 | 21 => 133 | 22 => 134 | 23 => 135 | 24 => 136 | 25 => 137 | 26 => 138 | 27 => 139 | 46 => 163 | 47 => 164 | 48 => 165 | 49 => 166 | 50 => 167 | 57 => 177 | n => n, fun | 22 => 24 | 24 => 26 | 25 => 71 | 3 => 3 | 39 => 123 | 0 => 0 | 53 => 171 | 55 => 173 | 4 => 4 | 46 => 164 | 45 => 163 | 50 => 168 | 5 => 5 | 9 => 9 | 66 => 201 | 70 => 205 | 76 => 208 | 77 => 199 | n => n, fun | n => n⟩
theorem Try.sortVal : Go.Proofs.SlLaysF0.n6 Try.prog Try.sortVal_ren := {
  mixed := by kernel_rfl
  f6 := ⟨Try.f63.name, by decide, Try.func63.trans (congrArg some (by kernel_rfl))⟩
  f14 := ⟨Try.f100.name, by decide, Try.func100.trans (congrArg some (by kernel_rfl))⟩
  f15 := Try.func101.trans (congrArg some (by kernel_rfl))
  f20 := ⟨Try.f132.name, by decide, Try.func132.trans (congrArg some (by kernel_rfl))⟩
  f21 := ⟨Try.f133.name, by decide, Try.func133.trans (congrArg some (by kernel_rfl))⟩
  f22 := ⟨Try.f134.name, by decide, Try.func134.trans (congrArg some (by kernel_rfl))⟩
  f23 := ⟨Try.f135.name, by decide, Try.func135.trans (congrArg some (by kernel_rfl))⟩
  f24 := ⟨Try.f136.name, by decide, Try.func136.trans (congrArg some (by kernel_rfl))⟩
  f25 := ⟨Try.f137.name, by decide, Try.func137.trans (congrArg some (by kernel_rfl))⟩
  f26 := ⟨Try.f138.name, by decide, Try.func138.trans (congrArg some (by kernel_rfl))⟩
  f27 := ⟨Try.f139.name, by decide, Try.func139.trans (congrArg some (by kernel_rfl))⟩
  f28 := Try.func140.trans (congrArg some (by kernel_rfl))
  f29 := Try.func141.trans (congrArg some (by kernel_rfl))
  f46 := ⟨Try.f163.name, by decide, Try.func163.trans (congrArg some (by kernel_rfl))⟩
  f47 := Try.func164.trans (congrArg some (by kernel_rfl))
  f48 := Try.func165.trans (congrArg some (by kernel_rfl))
  f49 := ⟨Try.f166.name, by decide, Try.func166.trans (congrArg some (by kernel_rfl))⟩
  f50 := ⟨Try.f167.name, by decide, Try.func167.trans (congrArg some (by kernel_rfl))⟩
  f57 := ⟨Try.f177.name, by decide, Try.func177.trans (congrArg some (by kernel_rfl))⟩
  t0 := Try.underlying0
  a0 := Try.isAgg0
  z0 := Try.sizeOf0
  v0 := Try.zeroValue0
  t3 := Try.underlying3
  a3 := Try.isAgg3
  z3 := Try.sizeOf3
  v3 := Try.zeroValue3
  t4 := Try.underlying4
  a4 := Try.isAgg4
  z4 := Try.sizeOf4
  v4 := Try.zeroValue4
  t5 := Try.underlying5
  a5 := Try.isAgg5
  z5 := Try.sizeOf5
  v5 := Try.zeroValue5
  t9 := Try.underlying9
  a9 := Try.isAgg9
  z9 := Try.sizeOf9
  v9 := Try.zeroValue9
  t22 := Try.underlying24
  a22 := Try.isAgg24
  z22 := Try.sizeOf24
  v22 := Try.zeroValue24
  t25 := Try.underlying71
  a25 := Try.isAgg71
  z25 := Try.sizeOf71
  v25 := Try.zeroValue71
  t39 := Try.underlying123
  a39 := Try.isAgg123
  z39 := Try.sizeOf123
  v39 := Try.zeroValue123
  t45 := Try.underlying163
  a45 := Try.isAgg163
  z45 := Try.sizeOf163
  v45 := Try.zeroValue163
  t46 := Try.underlying164
  a46 := Try.isAgg164
  z46 := Try.sizeOf164
  v46 := Try.zeroValue164
  t50 := Try.underlying168
  a50 := Try.isAgg168
  z50 := Try.sizeOf168
  v50 := Try.zeroValue168
  t53 := Try.underlying171
  a53 := Try.isAgg171
  z53 := Try.sizeOf171
  v53 := Try.zeroValue171
  t55 := Try.underlying173
  a55 := Try.isAgg173
  z55 := Try.sizeOf173
  v55 := Try.zeroValue173
  t66 := Try.underlying201
  a66 := Try.isAgg201
  z66 := Try.sizeOf201
  v66 := Try.zeroValue201
  t70 := Try.underlying205
  a70 := Try.isAgg205
  z70 := Try.sizeOf205
  v70 := Try.zeroValue205
  t76 := Try.underlying208
  a76 := Try.isAgg208
  z76 := Try.sizeOf208
  v76 := Try.zeroValue208
  t77 := Try.underlying199
  a77 := Try.isAgg199
  z77 := Try.sizeOf199
  v77 := Try.zeroValue199 }
end Go.Proofs
/- OnceEach of the program and of the model. -/
namespace Go.Proofs.Ytnikcgmbkmbloaa
open Go.RowKit
set_option maxRecDepth 100000
/-- what is sorted: trees that lie in blocks below N -/
abbrev El (w : World) (N : Nat) : Type := {T : AT // T.In w N ∧ T.pt.Wf ∧ T.pt.sz ≤ 1048576}
instance (w : World) (N : Nat) : Inhabited (El w N) := ⟨⟨AT.leaf 0 0 0 [], .mk (by simp) (by simp) (by simp), by simp [AT.leaf, AT.pt, AT.ptL]; exact .mk (by omega) (by omega) (by omega) (by simp) (by simp) (by simp), by simp [AT.leaf, AT.pt, AT.ptL, PT.sz, PT.szL]⟩⟩
def encEl {w : World} {N : Nat} (x : El w N) : List Value := x.1.cells
def elOf {w : World} {N : Nat} (l : List AT) (h : ∀ T ∈ l, T.In w N ∧ T.pt.Wf ∧ T.pt.sz ≤ 1048576) : Array (El w N) := (l.pmap (fun T hT => (⟨T, hT⟩ : El w N)) h).toArray
@[simp] theorem elOf_size {w : World} {N : Nat} (l : List AT) (h : ∀ T ∈ l, T.In w N ∧ T.pt.Wf ∧ T.pt.sz ≤ 1048576) : (elOf l h).size = l.length := by unfold elOf; rw [List.size_toArray, List.length_pmap]
theorem elOf_get {w : World} {N : Nat} (l : List AT) (h : ∀ T ∈ l, T.In w N ∧ T.pt.Wf ∧ T.pt.sz ≤ 1048576) (i : Nat) (hi : i < l.length) : ((elOf l h)[i]!).1 = l[i] := by
  rw [getElem!_pos (elOf l h) i (by simpa using hi)]
  show ((l.pmap (fun T hT => (⟨T, hT⟩ : El w N)) h).toArray[i]'(by simpa [elOf] using hi)).1 = l[i]
  rw [List.getElem_toArray, List.getElem_pmap]
theorem elOf_list {w : World} {N : Nat} (l : List AT) (h : ∀ T ∈ l, T.In w N ∧ T.pt.Wf ∧ T.pt.sz ≤ 1048576) : (elOf l h).toList.map (·.1) = l := by
  show List.map (fun x : El w N => x.1) (l.pmap (fun T hT => (⟨T, hT⟩ : El w N)) h) = l
  rw [List.map_pmap]
  induction l with
  | nil => rfl
  | cons t l ih => rw [List.pmap]; exact congrArg (t :: ·) (ih _)
theorem holds_el {w : World} {N B g cap : Nat} {l : List AT} (h : w.ownsRow B 26 5 (.slice (some ⟨g, 0, none⟩) l.length cap) l.length (cellsL l)) (hl : ∀ T ∈ l, T.In w N ∧ T.pt.Wf ∧ T.pt.sz ≤ 1048576) :
    Go.Sort.HoldsK (encEl (w := w) (N := N)) 5 w g 0 (elOf l hl) := by
  intro j hj
  rw [Go.Sort.size_flatK, elOf_size] at hj
  have hj5 : j / 5 < l.length := by omega
  refine ⟨?_, h.frozenAt _⟩
  rw [Nat.zero_add, h.cellAt j (by omega), Go.Sort.get_flatK _ _ _ _ (by rw [elOf_size]; exact hj)]
  have e := cellsL_get l (j / 5) (j % 5) hj5 (by omega)
  rw [show j / 5 * 5 + j % 5 = j by omega] at e
  rw [e]
  have e2 : encEl ((elOf l hl)[j / 5]!) = (l[j / 5]).cells := by unfold encEl; rw [elOf_get l hl _ hj5]
  rw [e2, List.getElem?_eq_getElem (by rw [AT.cells_length]; omega), getElem!_pos _ _ (by rw [AT.cells_length]; omega)]
  rfl
theorem cells_of_holds {w0 w : World} {N g : Nat} {d : Array (El w0 N)} (h : Go.Sort.HoldsK (encEl (w := w0) (N := N)) 5 w g 0 d) (i : Nat) (hi : i < d.size) : CellsAt w g (0 + i * 5) (d[i]!).1 := by
  have e : ∀ c, c < 5 → w.cell? ⟨g, 0 + i * 5 + c, none⟩ = some ((encEl (d[i]!))[c]!) := fun c hc => (h.cell hi hc).1
  exact ⟨e 0 (by omega), e 1 (by omega), e 2 (by omega), e 3 (by omega), e 4 (by omega)⟩
theorem once_cmp (T U : AT) (w : World) (N : Nat) (hwf : T.pt.Wf) (hwf2 : U.pt.Wf) (hin : T.In w N) (hin2 : U.In w N) (hN : N ≤ w.heap.size) (hsz : T.pt.sz ≤ 2097152) :
    Calls Try.prog 60 #[T.val, U.val] w fun e w' => e = .returned (.int .i64 (T.pt.cmp plainV U.pt)) ∧ Below w.heap.size w w' := by
  have HC := Lib.hid (fun (W : World) (hb : Below w.heap.size w W) => treesI T U W N hwf hwf2 (hin.blw hb hN) (hin2.blw hb hN) (Nat.le_trans hN hb.size) hsz)
  clear hwf hwf2 hin hin2 hsz
  generalize T.pt.cmp plainV U.pt = c at *
  have HB0 := boxes2 w (.cells #[.int .i64 T.k, .int .i64 T.n, .int .i64 T.x, .string ⟨T.s.toArray⟩, .slice T.a T.l.length T.cap] 26) (.cells #[.int .i64 U.k, .int .i64 U.n, .int .i64 U.x, .string ⟨U.s.toArray⟩, .slice U.a U.l.length U.cap] 26)
  show Calls Try.prog 60 #[.agg #[.int .i64 T.k, .int .i64 T.n, .int .i64 T.x, .string ⟨T.s.toArray⟩, .slice T.a T.l.length T.cap], .agg #[.int .i64 U.k, .int .i64 U.n, .int .i64 U.x, .string ⟨U.s.toArray⟩, .slice U.a U.l.length U.cap]] w _
  go_enter Try.func60, Try.ntmps60
  go_wp2_with fail
  refine (HC.out _ HB0).mono ?_
  rintro e w1 ⟨rfl, hb1⟩
  go_wp2
  go_ret
  exact ⟨rfl, HB0.trans (hb1.mono HB0.size)⟩
theorem once_lays (w0 : World) (N g n : Nat) (hN : N ≤ g) (hg : g < w0.heap.size) : CmpLays Try.prog 60 #[] (encEl (w := w0) (N := N)) 5 (fun x y => x.1.pt.cmp plainV y.1.pt) g 0 n w0 := fun m os dk _ x y => by
  have ho := sortK_only (encEl (w := w0) (N := N)) 5 w0 g 0 m dk os
  have hk : ∀ k, k < N → (Go.Proofs.sortWorldK (encEl (w := w0) (N := N)) 5 w0 g 0 m dk os).heap[k]? = w0.heap[k]? := fun k hk => ho.block k (by omega) (by omega)
  have c := Calls.up (once_cmp x.1 y.1 (Go.Proofs.sortWorldK (encEl (w := w0) (N := N)) 5 w0 g 0 m dk os) N x.2.2.1 y.2.2.1 (x.2.1.kept hk) (y.2.1.kept hk) (by have := ho.size; omega) (by have := x.2.2.2; omega))
  refine Calls.mono c ?_
  rintro e w' ⟨⟨rfl, hb⟩, hd⟩
  exact ⟨rfl, grow_of_below hb (hd ⟨_, rfl⟩)⟩
/-- the sort, as the program calls it -/
theorem once_sort (w : World) (N B g cap : Nat) (l : List AT) (hrow : w.ownsRow B 26 5 (.slice (some ⟨g, 0, none⟩) l.length cap) l.length (cellsL l)) (hl : ∀ T ∈ l, T.In w N ∧ T.pt.Wf ∧ T.pt.sz ≤ 1048576) (hN : N ≤ g) (hsz : l.length ≤ 1048576) :
    Calls Try.prog 63 #[.slice (some ⟨g, 0, none⟩) l.length cap, .func (.func 60) #[] #[]] w fun e w' => e = .returned (.tuple #[]) ∧ ∃ l' : List AT, l'.Perm l ∧ (∀ i j (hi : i < j) (hj : j < l'.length), ¬ (l'[j]).pt.cmp plainV (l'[i]'(by omega)).pt < 0) ∧ (∀ i (hi : i < l'.length), CellsAt w' g (0 + i * 5) l'[i]) ∧ g < w.heap.size ∧ Only g w w' := by
  have hg := (hrow.lt g rfl).2
  have eg : ∀ args w, (callFunc 60 args).run Try.prog w = .ok (.enter 60 args) w := enters_of Try.func60 (by kernel_rfl) rfl
  have hH := holds_el hrow hl
  have hcon := AnyQ.slices_SortFunc Try.sortVal 5 Try.isAgg26 Try.sizeOf26 (encEl (w := w) (N := N)) (fun x => rfl) (fun x v hv => cells_one x.1 v hv) (fun x y => x.1.pt.cmp plainV y.1.pt) (swo_plain fun x : El w N => x.1.pt) 60 #[] g 0 cap (elOf l hl) w eg (once_lays w N g _ hN hg) hH hg (by rw [elOf_size]; omega)
  rw [elOf_size] at hcon
  refine Calls.mono hcon ?_
  rintro e w' ⟨rfl, d', n, os, hperm, hsorted, rfl⟩
  have hsz' : d'.size = l.length := by rw [hperm.1, elOf_size]
  have hp : d'.toList.Perm (elOf l hl).toList := by
    have h := hperm.2.2
    rw [show d'.extract 0 l.length = d' by rw [← hsz']; simp, show (elOf l hl).extract 0 l.length = elOf l hl by rw [← elOf_size l hl]; simp] at h
    exact h
  have hget : ∀ i (hi : i < (d'.toList.map (·.1)).length), (d'.toList.map (·.1))[i] = (d'[i]!).1 := fun i hi => by
    simp only [List.length_map, Array.length_toList] at hi
    rw [getElem!_pos d' i hi]
    simp
  have hlen : (d'.toList.map (·.1)).length = d'.size := by simp
  have hHd := Go.Proofs.holdsK_sortWorldK_c (encEl (w := w) (N := N)) 5 w g 0 (elOf l hl) d' n os hH hg hperm.1
  refine ⟨rfl, d'.toList.map (·.1), ?_, ?_, ?_, hg, sortK_only _ _ _ _ _ _ _ _⟩
  · have := hp.map (·.1)
    rwa [elOf_list] at this
  · intro i j hi hj
    have h := hsorted i j (Nat.zero_le _) hi (by omega)
    rw [hget i (by omega), hget j hj]
    unfold ltOf at h
    simpa using h
  · intro i hi
    rw [hget i hi]
    exact cells_of_holds hHd i (by rw [hlen] at hi; exact hi)
set_option maxHeartbeats 2000000 in
theorem once_impl (T : AT) (w : World) (N : Nat) (hwf : T.pt.Wf) (hin : T.In w N) (hsz : T.pt.sz ≤ 1048576) (hN : N ≤ w.heap.size) : Calls Try.prog 23 #[T.val] w fun e w' => e = .returned (.bool (onceV T.pt.names)) ∧ Below w.heap.size w w' := by
  have HNC := Lib.hid (fun (w1 : World) (hb : Below w.heap.size w w1) => names_implG T w1 N (hin.blw hb hN) (by have := len_le_sz T; omega) (Nat.le_trans hN hb.size))
  have HNW : Hid (∀ p ∈ T.pt.names, p.Wf ∧ p.sz ≤ 1048576) := Lib.hid (names_wf hwf hsz)
  have hnl : T.names.length ≤ 1048576 := by have h1 := len_le_sz T; unfold AT.names; split <;> simp [evens_length]; omega
  obtain ⟨tot, htot⟩ : ∃ tot, tot = onceV T.pt.names := ⟨_, rfl⟩
  rw [← htot]
  have HTOT := Lib.hid htot
  clear hin hsz hwf htot
  show Calls Try.prog 23 #[.agg #[.int .i64 T.k, .int .i64 T.n, .int .i64 T.x, .string ⟨T.s.toArray⟩, .slice T.a T.l.length T.cap]] w _
  go_enter Try.func23, Try.ntmps23
  go_wp2_with fail
  have hb0 := vbox w (.cells #[.int .i64 T.k, .int .i64 T.n, .int .i64 T.x, .string ⟨T.s.toArray⟩, .slice T.a T.l.length T.cap] 26)
  refine (HNC.out _ hb0).mono ?_
  rintro e w1 ⟨g, cap1, rfl, hrow, hb1⟩
  have HB1 := Lib.hid (hb0.trans (hb1.mono hb0.size))
  have HNP : Hid (AT.ptL T.names = T.pt.names) := Lib.hid (names_pt T)
  have hgl := hrow.row.lt g rfl
  have hgN : N ≤ g ∧ w.heap.size ≤ g := by have := hb0.size; omega
  clear hb1 hb0
  generalize T.names = ns at *
  obtain ⟨p, hp⟩ : ∃ p, p = T.pt.names := ⟨_, rfl⟩
  rw [← hp] at HNP HNW
  have hwfn : ∀ t ∈ ns, t.pt.Wf ∧ t.pt.sz ≤ 1048576 := fun t ht => HNW.out t.pt (by rw [← HNP.out, AT.ptL_eq]; exact List.mem_map_of_mem ht)
  have HSORT := Lib.hid (once_sort w1 N _ g cap1 ns hrow.row (fun t ht => ⟨hrow.sub t ht, (hwfn t ht).1, (hwfn t ht).2⟩) hgN.1 hnl)
  have HSUB : Hid (∀ t ∈ ns, t.In w1 N ∧ t.pt.Wf ∧ t.pt.sz ≤ 1048576) := Lib.hid (fun t ht => ⟨hrow.sub t ht, (hwfn t ht).1, (hwfn t ht).2⟩)
  have HTV : Hid (tot = onceV (AT.ptL ns)) := Lib.hid (by rw [HTOT.out, ← hp, HNP.out])
  clear hp HNP HNW HTOT HNC hrow hwfn
  go_wp2_with fail
  refine HSORT.out.mono ?_
  rintro e w2 ⟨rfl, l', hperm, hso, hcells, _, honly⟩
  have hl' : ns.length = l'.length := hperm.length_eq.symm
  have HC := Lib.hid hcells
  have HSO := Lib.hid hso
  have HPE := Lib.hid hperm
  have HB2 : Hid (Below w.heap.size w w2) := Lib.hid (HB1.out.trans ((honly.below g (Nat.le_refl _) (Nat.le_of_lt hgl.2)).mono hgN.2))
  have HSUB2 : Hid (∀ t ∈ l', t.In w2 N ∧ t.pt.Wf ∧ t.pt.sz ≤ 1048576) := Lib.hid (fun t ht => by
    obtain ⟨h1, h2, h3⟩ := HSUB.out t (hperm.mem_iff.1 ht)
    exact ⟨h1.kept fun k hk => honly.block k (by omega) (by omega), h2, h3⟩)
  have hN2 : N ≤ w2.heap.size := by have := honly.size; omega
  have hg2 : g < w2.heap.size := by have := honly.size; omega
  have HOV : Hid (tot = onceV (AT.ptL l')) := Lib.hid (by
    rw [HTV.out]
    have := (hperm.map AT.pt).nodup_iff
    rw [AT.ptL_eq, AT.ptL_eq]
    unfold onceV
    rw [decide_eq_decide]
    exact this.symm)
  have hl1 : l'.length ≤ 1048576 := by omega
  have HCM := Lib.hid (fun (t : AT) (ht : t ∈ l') (u : AT) (hu : u ∈ l') (w3 : World) (hb : Below w2.heap.size w2 w3) => once_cmp t u w3 N (HSUB2.out t ht).2.1 (HSUB2.out u hu).2.1 ((HSUB2.out t ht).1.blw hb hN2) ((HSUB2.out u hu).1.blw hb hN2) (Nat.le_trans hN2 hb.size) (by have := (HSUB2.out t ht).2.2; omega))
  rw [hl']
  clear hso hcells hperm honly hgl HSORT HSUB HB1 HSUB2 HPE HTV hl' hnl
  go_wp2_with fail
  go_loopw [5] (fun i wr => ∃ q : Nat, i = .int .i64 q ∧ 1 ≤ q ∧ (q ≤ l'.length ∨ q = 1) ∧ Hid (∀ j (hj : j + 1 < l'.length), j + 1 < q → (l'[j]).pt.cmp plainV (l'[j + 1]).pt ≠ 0) ∧ Hid (Below w2.heap.size w2 wr)) (fun i _ => l'.length + 1 - (intOf i).toNat)
  case atStart => exact ⟨1, rfl, Nat.le_refl _, .inr rfl, Lib.hid (fun j _ h => by omega), Lib.hid (Below.refl _ _)⟩
  case round =>
    obtain ⟨q, rfl, hq1, hq2, HA, HB⟩ := hrel
    by_cases hlt : q < l'.length
    · obtain ⟨r, rfl⟩ : ∃ r, q = r + 1 := ⟨q - 1, by omega⟩
      have hlr : r < l'.length := by omega
      have hC := (HC.out r hlr).keep (HB.out.block g hg2)
      have hC2 := (HC.out (r + 1) hlt).keep (HB.out.block g hg2)
      have hcall := fun w3 hb => HCM.out l'[r] (List.getElem_mem hlr) l'[r + 1] (List.getElem_mem hlt) w3 (HB.out.trans hb)
      obtain ⟨V, hV⟩ : ∃ V, V = l'[r] := ⟨_, rfl⟩
      obtain ⟨V2, hV2⟩ : ∃ V2, V2 = l'[r + 1] := ⟨_, rfl⟩
      have HVV : Hid (V = l'[r] ∧ V2 = l'[r + 1]) := Lib.hid ⟨hV, hV2⟩
      rw [← hV] at hC hcall
      rw [← hV2] at hC2 hcall
      obtain ⟨cc, hcc⟩ : ∃ cc, cc = V.pt.cmp plainV V2.pt := ⟨_, rfl⟩
      rw [← hcc] at hcall
      have HCC := Lib.hid hcc
      have HCL := Lib.hid hcall
      obtain ⟨c0, c1, c2, c3, c4⟩ := hC
      obtain ⟨d0, d1, d2, d3, d4⟩ := hC2
      simp only [Nat.zero_add] at c0 c1 c2 c3 c4 d0 d1 d2 d3 d4
      have hi1 : (r : Int) + 1 < l'.length := by omega
      have hi2 : (r : Int) < l'.length := by omega
      have hi3 : (0 : Int) ≤ (r : Int) + 1 := by omega
      have hw1 : IntKind.i64.wrap ((r : Int) + 1 - 1) = (r : Int) := by rw [Int.add_sub_cancel]; exact IntWalk.i64_in _ (by omega)
      have hw2 : IntKind.i64.wrap (r : Int) = (r : Int) := IntWalk.i64_in _ (by omega)
      clear hV hV2 hcall hcc
      go_wp2_with fail
      refine wp_region_still_tail 10 (by kernel_rfl) (by kernel_rfl) ?_
      simp only [List.take_succ_cons, List.take_zero, List.drop_succ_cons, List.drop_zero]
      repeat still_step
      refine wpStill_nil ?_
      change wpList _ _ _ _ _ (World.drew _)
      have HBd := Lib.hid ((Below.refl wr.heap.size wr).drew)
      clear c0 c1 c2 c3 c4 d0 d1 d2 d3 d4
      generalize World.drew _ = w3 at *
      go_wp2_with fail
      refine (HCL.out _ (HBd.out.mono HB.out.size)).mono ?_
      rintro e w4 ⟨rfl, hb3⟩
      have HB3 := Lib.hid (HB.out.trans ((HBd.out.trans (hb3.mono HBd.out.size)).mono HB.out.size))
      clear hb3
      by_cases hz : cc = 0
      · have HV : Hid (onceV (AT.ptL l') = false) := Lib.hid (onceV_false (not_nodup _ r (by rw [AT.ptL_length]; exact hlt) (by rw [ptL_get l' r hlr, ptL_get l' (r + 1) hlt, ← HVV.out.1, ← HVV.out.2, ← HCC.out, hz])))
        subst hz
        go_wp2
        go_ret
        exact ⟨by rw [HOV.out, HV.out]; try rfl, HB2.out.trans (HB3.out.mono HB2.out.size)⟩
      · have hz0 : (cc == 0) = false := by simpa using hz
        have HA2 : Hid (∀ j (hj : j + 1 < l'.length), j + 1 < r + 1 + 1 → (l'[j]).pt.cmp plainV (l'[j + 1]).pt ≠ 0) := Lib.hid (fun j hj h => by
          by_cases hjr : j = r
          · subst hjr
            rw [← HVV.out.1, ← HVV.out.2, ← HCC.out]; exact hz
          · exact HA.out j hj (by omega))
        go_wp2
        go_roundw
        case rel => exact ⟨r + 1 + 1, by go_num, by omega, .inl (by omega), HA2, HB3⟩
        case measure => simp [intOf]; omega
    · have HV : Hid (onceV (AT.ptL l') = true) := Lib.hid (onceV_true (nodup_rise _ fun j hj => by
        rw [AT.ptL_length] at hj
        rw [ptL_get l' j (by omega), ptL_get l' (j + 1) hj]
        have h1 := HA.out j hj (by omega)
        have h2 := HSO.out j (j + 1) (by omega) hj
        have h3 := plain_anti' (l'[j]).pt (l'[j + 1]).pt
        omega))
      have hnl : ¬ (q : Int) < l'.length := by omega
      go_wp2
      go_ret
      exact ⟨by rw [HOV.out, HV.out]; try rfl, HB2.out.trans (HB.out.mono HB2.out.size)⟩
set_option maxHeartbeats 4000000 in
theorem once_spec (T : AT) (w : World) (N : Nat) (hwf : T.pt.Wf) (hin : T.In w N) (hsz : T.pt.sz ≤ 1048576) (hN : N ≤ w.heap.size) : Calls Try.prog 24 #[T.val] w fun e w' => e = .returned (.bool (onceV T.pt.names)) ∧ Below w.heap.size w w' := by
  have HNC := Lib.hid (fun (w1 : World) (hb : Below w.heap.size w w1) => names_spec T w1 N (hin.blw hb hN) (by omega) (Nat.le_trans hN hb.size))
  have HNW : Hid (∀ p ∈ T.pt.names, p.Wf ∧ p.sz ≤ 1048576) := Lib.hid (names_wf hwf hsz)
  have hnl : T.pt.names.length ≤ 1048576 := by have h1 := len_le_sz T; rw [← names_pt, AT.ptL_length]; unfold AT.names; split <;> simp [evens_length]; omega
  obtain ⟨tot, htot⟩ : ∃ tot, tot = onceV T.pt.names := ⟨_, rfl⟩
  rw [← htot]
  have HTOT := Lib.hid htot
  clear hin hsz hwf htot
  show Calls Try.prog 24 #[.agg #[.int .i64 T.k, .int .i64 T.n, .int .i64 T.x, .string ⟨T.s.toArray⟩, .slice T.a T.l.length T.cap]] w _
  go_enter Try.func24, Try.ntmps24
  go_wp2_with fail
  have hb0 := vbox w (.cells #[.int .i64 T.k, .int .i64 T.n, .int .i64 T.x, .string ⟨T.s.toArray⟩, .slice T.a T.l.length T.cap] 26)
  refine (HNC.out _ hb0).mono ?_
  rintro e w1 ⟨a1, cap1, ns, hpt, rfl, hown, hnd, hb1⟩
  have HLV := Lib.hid hown.lv
  have HB1 := Lib.hid (hb0.trans (hb1.mono hb0.size))
  have hnl2 : ns.length ≤ 1048576 := by rw [← hpt, AT.ptL_length] at hnl; exact hnl
  have HTV : Hid (tot = onceV (AT.ptL ns)) := Lib.hid (by rw [HTOT.out, hpt])
  have HWF : Hid (∀ t ∈ ns, t.pt.Wf) := Lib.hid (fun t ht => (HNW.out t.pt (by rw [← hpt, AT.ptL_eq]; exact List.mem_map_of_mem ht)).1)
  have HSM := Lib.hid (fun (t : AT) (ht : t ∈ ns) (u : AT) (hu : u ∈ ns) (w2 : World) (hb : Below w1.heap.size w1 w2) => same_spec t (HWF.out t ht) u w2 w1.heap.size (HWF.out u hu) ((HLV.out.sub t ht).blw hb (Nat.le_refl _)) ((HLV.out.sub u hu).blw hb (Nat.le_refl _)) hb.size)
  clear hpt hown hnd hb1 hb0 hnl HNC HNW HTOT HWF
  go_wp2_with fail
  go_loopw [4] (fun i wr => ∃ q : Nat, i = .int .i64 q ∧ q ≤ ns.length ∧ Hid (∀ a b (hb : b < a) (ha : a < ns.length), a < q → (ns[a]).pt ≠ (ns[b]'(by omega)).pt) ∧ Hid (Below w1.heap.size w1 wr)) (fun i _ => ns.length - (intOf i).toNat)
  case atStart => exact ⟨0, rfl, Nat.zero_le _, Lib.hid (fun a b _ _ h => by omega), Lib.hid (Below.refl _ _)⟩
  case round =>
    obtain ⟨q, rfl, hq, HA, HB⟩ := hrel
    by_cases hlt : q < ns.length
    · have hlt' : (q : Int) < ns.length := by omega
      go_wp2_with fail
      go_loopw [5] (fun j wx => ∃ r : Nat, j = .int .i64 r ∧ r ≤ q ∧ Hid (∀ b (hb : b < r) (hbq : b < ns.length), (ns[q]).pt ≠ (ns[b]).pt) ∧ Hid (Below w1.heap.size w1 wx)) (fun j _ => q - (intOf j).toNat)
      case atStart => exact ⟨0, rfl, Nat.zero_le _, Lib.hid (fun b h _ => by omega), HB⟩
      case round =>
        obtain ⟨r, rfl, hr, HR, HBx⟩ := hrel
        by_cases hrq : r < q
        · have hlr : r < ns.length := by omega
          obtain ⟨b, o, rfl, hbN, hC⟩ := HLV.out.cell q hlt
          obtain ⟨b', o', hbo, hbN2, hC2⟩ := HLV.out.cell r hlr
          injection hbo with hbo
          injection hbo with e1 e2
          subst e1 e2
          have hC := hC.keep (HBx.out.block b hbN)
          have hC2 := hC2.keep (HBx.out.block b hbN)
          have hcall := fun w3 hb => HSM.out ns[q] (List.getElem_mem hlt) ns[r] (List.getElem_mem hlr) w3 (HBx.out.trans hb)
          obtain ⟨V, hV⟩ : ∃ V, V = ns[q] := ⟨_, rfl⟩
          obtain ⟨V2, hV2⟩ : ∃ V2, V2 = ns[r] := ⟨_, rfl⟩
          have HVV : Hid (V = ns[q] ∧ V2 = ns[r]) := Lib.hid ⟨hV, hV2⟩
          rw [← hV] at hC hcall
          rw [← hV2] at hC2 hcall
          obtain ⟨cc, hcc⟩ : ∃ cc, cc = V.pt.same V2.pt := ⟨_, rfl⟩
          rw [← hcc] at hcall
          have HCC := Lib.hid hcc
          have HCL := Lib.hid hcall
          obtain ⟨c0, c1, c2, c3, c4⟩ := hC
          obtain ⟨d0, d1, d2, d3, d4⟩ := hC2
          have hrq' : (r : Int) < q := by omega
          have hlr' : (r : Int) < ns.length := by omega
          have hw1 : IntKind.i64.wrap (q : Int) = (q : Int) := IntWalk.i64_in _ (by omega)
          have hw2 : IntKind.i64.wrap (r : Int) = (r : Int) := IntWalk.i64_in _ (by omega)
          clear hV hV2 hcall hcc
          go_wp2_with fail
          refine wp_region_still_tail 8 (by kernel_rfl) (by kernel_rfl) ?_
          simp only [List.take_succ_cons, List.take_zero, List.drop_succ_cons, List.drop_zero]
          repeat still_step
          refine wpStill_nil ?_
          change wpList _ _ _ _ _ (World.drew _)
          have HBd := Lib.hid ((Below.refl wr.heap.size wr).drew)
          clear c0 c1 c2 c3 c4 d0 d1 d2 d3 d4
          generalize World.drew _ = w3 at *
          go_wp2_with fail
          refine (HCL.out _ (HBd.out.mono HBx.out.size)).mono ?_
          rintro e w4 ⟨rfl, hb3⟩
          have HB3 := Lib.hid (HBx.out.trans ((HBd.out.trans (hb3.mono HBd.out.size)).mono HBx.out.size))
          clear hb3
          cases cc with
          | true =>
            have HV : Hid (onceV (AT.ptL ns) = false) := Lib.hid (onceV_false fun hn => by
              have e := ptsame_true HCC.out.symm
              unfold List.Nodup at hn
              rw [List.pairwise_iff_getElem] at hn
              refine hn r q (by rw [AT.ptL_length]; exact hlr) (by rw [AT.ptL_length]; exact hlt) hrq ?_
              rw [ptL_get ns r hlr, ptL_get ns q hlt, ← HVV.out.1, ← HVV.out.2]; exact e.symm)
            go_wp2
            go_ret
            exact ⟨by rw [HTV.out, HV.out]; try rfl, HB1.out.trans (HB3.out.mono HB1.out.size)⟩
          | false =>
            have HR2 : Hid (∀ b (hb : b < r + 1) (hbq : b < ns.length), (ns[q]).pt ≠ (ns[b]).pt) := Lib.hid (fun b hb hbq => by
              by_cases hbr : b = r
              · subst hbr
                rw [← HVV.out.1, ← HVV.out.2]
                intro e
                rw [ptsame_iff.2 e] at HCC
                exact Bool.noConfusion HCC.out
              · exact HR.out b (by omega) hbq)
            go_wp2
            go_roundw
            case rel => exact ⟨r + 1, by go_num, by omega, HR2, HB3⟩
            case measure => simp [intOf]; omega
        · obtain rfl : r = q := by omega
          have HA2 : Hid (∀ a b (hb : b < a) (ha : a < ns.length), a < r + 1 → (ns[a]).pt ≠ (ns[b]'(by omega)).pt) := Lib.hid (fun a b hb ha h => by
            by_cases har : a = r
            · subst har; exact HR.out b hb (by omega)
            · exact HA.out a b hb ha (by omega))
          have hnr : ¬ (r : Int) < r := by omega
          go_wp2
          go_roundw
          case rel => exact ⟨r + 1, by go_num, by omega, HA2, HBx⟩
          case measure => simp [intOf]; omega
    · obtain rfl : q = ns.length := by omega
      have HV : Hid (onceV (AT.ptL ns) = true) := Lib.hid (onceV_true (by
        unfold List.Nodup
        rw [List.pairwise_iff_getElem]
        intro i j hi hj hij e
        rw [AT.ptL_length] at hi hj
        rw [ptL_get ns i hi, ptL_get ns j hj] at e
        exact HA.out j i hij hj hj e.symm))
      have hnl3 : ¬ (ns.length : Int) < ns.length := by omega
      go_wp2
      go_ret
      exact ⟨by rw [HTV.out, HV.out]; try rfl, HB1.out.trans (HB.out.mono HB1.out.size)⟩
end Go.Proofs.Ytnikcgmbkmbloaa
