import Derived.Test.YtnikcgmbkmbloaaGreatDoorG12
import Derived.Test.YtnikcgmbkmbloaaGreatDoorG0
import Derived.IntWalk
import Derived.Test.YtnikcgmbkmbloaaGreatDoorG1
import Derived.Lib.TrimByte
import Derived.Deep.RegionHeld3
import Derived.Test.YtnikcgmbkmbloaaGreatDoorG6
import Derived.Test.YtnikcgmbkmbloaaGreatDoorG11
/- What the program's joinNumber and ReadNumber return. -/
namespace Go.Proofs.YtnikcgmbkmbloaaGreatDoor
open Go.RowKit
theorem decVal_lead (l : List UInt8) : decVal 0 (lead l) = decVal 0 l := by
  induction l with
  | nil => rfl
  | cons c r ih =>
    unfold lead
    rw [List.dropWhile_cons]
    by_cases h : (c == 48) = true
    · rw [if_pos h]
      have hc : c = 48 := by simpa using h
      subst hc
      exact ih
    · rw [if_neg h]
theorem lead_mem {l : List UInt8} (h : ∀ c ∈ l, isD c = true) : ∀ c ∈ lead l, isD c = true := fun c hc => h c ((List.dropWhile_sublist _).subset hc)
theorem val_lt17 {l : List UInt8} (hd : ∀ c ∈ l, isD c = true) (hl : l.length ≤ 17) : decVal 0 l < 100000000000000000 := by
  have := val_bound hd hl l.length
  rwa [List.take_of_length_le (Nat.le_refl _)] at this
theorem sgnV_bound {b : Bool} {n : Nat} (h : n < 100000000000000000) : -100000000000000000 < sgnV b n ∧ sgnV b n < 100000000000000000 := by
  unfold sgnV; split <;> omega
/-- The numbers that the parts stand for, or none. -/
def JoinPost (neg eneg : Bool) (W F E : List UInt8) (w : World) (e : Ending) (w' : World) : Prop :=
  (((lead (W ++ F)).length ≤ 17 ∧ E.length ≤ 3 ∧ e = .returned (.tuple #[.int .i64 (sgnV neg (decVal 0 (W ++ F))), .int .i64 (sgnV eneg (decVal 0 E) - F.length), .bool true])) ∨
    (¬ ((lead (W ++ F)).length ≤ 17 ∧ E.length ≤ 3) ∧ e = .returned (.tuple #[.int .i64 0, .int .i64 0, .bool false]))) ∧ Below w.heap.size w w'
set_option maxRecDepth 100000 in
set_option maxHeartbeats 2000000 in
theorem join_any (neg eneg : Bool) (W F E : List UInt8) (w : World) (hWF : ∀ c ∈ W ++ F, isD c = true) (hE : ∀ c ∈ E, isD c = true) (hW1 : W.length ≤ 1048576) (hF1 : F.length ≤ 1048576) (hE1 : E.length ≤ 1048576) :
    Calls Tryz.prog 203 #[.agg #[.bool neg, .bool eneg, .string ⟨W.toArray⟩, .string ⟨F.toArray⟩, .string ⟨E.toArray⟩]] w (JoinPost neg eneg W F E w) := by
  obtain ⟨W0, hW⟩ : ∃ W0 : World, W0 = w.alloc (.cells #[.bool neg, .bool eneg, .string ⟨W.toArray⟩, .string ⟨F.toArray⟩, .string ⟨E.toArray⟩] 210) := ⟨_, rfl⟩
  have hkeep : ∀ W' : World, Below W0.heap.size W0 W' → W0.heap.size ≤ W'.heap.size → Below W0.heap.size W0 W' ∧ W0.heap.size ≤ W'.heap.size ∧ W'.cell? ⟨w.heap.size, 0, none⟩ = some (.bool neg) ∧ W'.cell? ⟨w.heap.size, 1, none⟩ = some (.bool eneg) ∧ W'.cell? ⟨w.heap.size, 2, none⟩ = some (.string ⟨W.toArray⟩) ∧ W'.cell? ⟨w.heap.size, 3, none⟩ = some (.string ⟨F.toArray⟩) ∧ W'.cell? ⟨w.heap.size, 4, none⟩ = some (.string ⟨E.toArray⟩) := fun W' hb hN => by
    subst hW
    exact ⟨hb, hN, (hb.cell (p := ⟨w.heap.size, 0, none⟩) (by simp)).trans (by simp [go_sem]), (hb.cell (p := ⟨w.heap.size, 1, none⟩) (by simp)).trans (by simp [go_sem]), (hb.cell (p := ⟨w.heap.size, 2, none⟩) (by simp)).trans (by simp [go_sem]), (hb.cell (p := ⟨w.heap.size, 3, none⟩) (by simp)).trans (by simp [go_sem]), (hb.cell (p := ⟨w.heap.size, 4, none⟩) (by simp)).trans (by simp [go_sem])⟩
  have hend : ∀ W', Below W0.heap.size W0 W' → Below w.heap.size w W' := fun W' hb => by
    subst hW
    exact (below_box _ _).trans (hb.mono (by simp))
  obtain ⟨T, hT⟩ : ∃ T, T = W ++ F := ⟨_, rfl⟩
  have hcat := cat_eq W F
  have hT1 : (T.length : Int) ≤ 2097152 := by rw [hT]; simp; omega
  rw [← hT] at hcat hWF
  have ct := fun W1 => Tryz.strings_TrimLeft_one ⟨T.toArray⟩ 48 (by decide) W1
  obtain ⟨D, hD⟩ : ∃ D, D = lead T := ⟨_, rfl⟩
  rw [show Lib.trimLeftB (ByteArray.mk T.toArray).data.toList 48 = D from by rw [hD]; rfl] at ct
  have ct := fun W1 => (ct W1).mono (R' := fun e w' => e = .returned (.string ⟨D.toArray⟩) ∧ W1 = w') (fun _ _ h => ⟨h.1, h.2.symm⟩)
  have hDd : ∀ c ∈ D, isD c = true := by rw [hD]; exact lead_mem hWF
  have hDv : decVal 0 D = decVal 0 T := by rw [hD]; exact decVal_lead T
  have hDl : D.length ≤ T.length := by rw [hD]; exact lead_len T
  have hDI : (D.length : Int) ≤ 2097152 := by omega
  have hres : Hid (lead (W ++ F) = D ∧ decVal 0 (W ++ F) = decVal 0 D) := Lib.hid (by rw [← hT, hDv]; exact ⟨hD.symm, rfl⟩)
  have hB := Below.refl W0.heap.size W0
  have hN := Nat.le_refl W0.heap.size
  have hWI : (W.length : Int) ≤ 1048576 := by omega
  have hFI : (F.length : Int) ≤ 1048576 := by omega
  have hEI : (E.length : Int) ≤ 1048576 := by omega
  clear hT hD hDv hDl hWF
  by_cases h1 : (D.length : Int) ≤ 17
  · by_cases h2 : (E.length : Int) ≤ 3
    · have vD := val_lt17 hDd (by omega)
      have vE := val_lt17 hE (by omega)
      have cD := relCall (N := W0.heap.size) (W0 := W0) (fun W => digitsvalue_any D W hDd (by omega))
      have cE := relCall (N := W0.heap.size) (W0 := W0) (fun W => digitsvalue_any E W hE (by omega))
      have sD := fun W1 => sgn_any neg (decVal 0 D) W1 (by omega) (by omega)
      have sE := fun W1 => sgn_any eneg (decVal 0 E) W1 (by omega) (by omega)
      have bE := sgnV_bound (b := eneg) vE
      have wE : IntKind.i64.wrap (sgnV eneg (decVal 0 E) - (F.length : Int)) = sgnV eneg (decVal 0 E) - (F.length : Int) := IntWalk.i64_in _ (by omega)
      have hres2 : Hid (∀ w', Below w.heap.size w w' → JoinPost neg eneg W F E w (.returned (.tuple #[.int .i64 (sgnV neg (decVal 0 D)), .int .i64 (sgnV eneg (decVal 0 E) - F.length), .bool true])) w') := Lib.hid (fun w' hb => by
        obtain ⟨e1, e2⟩ := hres.out
        unfold JoinPost
        rw [e1, e2]
        exact ⟨.inl ⟨by omega, by omega, rfl⟩, hb⟩)
      clear hres vD vE bE hDd hE hW1 hF1 hE1
      generalize decVal 0 D = d at *
      generalize decVal 0 E = x at *
      generalize sgnV neg d = sd at *
      generalize sgnV eneg x = sx at *
      go_enter Tryz.func203, Tryz.ntmps203
      go_wp2_with fail
      rw [← hW]
      clear hW
      refine (ct _).mono ?_
      rintro e w' ⟨rfl, rfl⟩
      obtain ⟨_, _, _, _, _, _, _⟩ := hkeep _ hB hN
      go_wp2_with fail
      go_region_held3 (fun W' => Below W0.heap.size W0 W' ∧ W0.heap.size ≤ W'.heap.size ∧ W'.cell? ⟨w.heap.size, 0, none⟩ = some (.bool neg) ∧ W'.cell? ⟨w.heap.size, 1, none⟩ = some (.bool eneg) ∧ W'.cell? ⟨w.heap.size, 2, none⟩ = some (.string ⟨W.toArray⟩) ∧ W'.cell? ⟨w.heap.size, 3, none⟩ = some (.string ⟨F.toArray⟩) ∧ W'.cell? ⟨w.heap.size, 4, none⟩ = some (.string ⟨E.toArray⟩)) (first | (refine hkeep _ ?_ ?_ <;> assumption) | (refine hkeep _ (Below.drew ?_) ?_ <;> assumption)) ((first | (go_at_call 237; go_split_ands; refine (cE _ ?_ ?_).mono ?_; assumption; assumption; rintro e w' ⟨rfl, hb', hN'⟩) | (go_at_call 236; refine (sE _).mono ?_; rintro e w' ⟨rfl, rfl⟩)))
      all_goals
        go_split_ands
        go_wp2_with fail
        go_region_held3 (fun W' => Below W0.heap.size W0 W' ∧ W0.heap.size ≤ W'.heap.size ∧ W'.cell? ⟨w.heap.size, 0, none⟩ = some (.bool neg) ∧ W'.cell? ⟨w.heap.size, 1, none⟩ = some (.bool eneg) ∧ W'.cell? ⟨w.heap.size, 2, none⟩ = some (.string ⟨W.toArray⟩) ∧ W'.cell? ⟨w.heap.size, 3, none⟩ = some (.string ⟨F.toArray⟩) ∧ W'.cell? ⟨w.heap.size, 4, none⟩ = some (.string ⟨E.toArray⟩)) (first | (refine hkeep _ ?_ ?_ <;> assumption) | (refine hkeep _ (Below.drew ?_) ?_ <;> assumption)) ((first | (go_at_call 237; go_split_ands; refine (cD _ ?_ ?_).mono ?_; assumption; assumption; rintro e w' ⟨rfl, hb', hN'⟩) | (go_at_call 236; refine (sD _).mono ?_; rintro e w' ⟨rfl, rfl⟩)))
        all_goals
          go_wp2
          go_ret3
          go_split_ands
          exact hres2.out _ (hend _ (by assumption))
    · have hno : Hid (¬ ((lead (W ++ F)).length ≤ 17 ∧ E.length ≤ 3)) := Lib.hid (by rw [hres.out.1]; omega)
      clear hres hDd hE hW1 hF1 hE1
      go_enter Tryz.func203, Tryz.ntmps203
      go_wp2_with fail
      rw [← hW]
      clear hW
      refine (ct _).mono ?_
      rintro e w' ⟨rfl, rfl⟩
      obtain ⟨_, _, _, _, _, _, _⟩ := hkeep _ hB hN
      go_wp2
      go_ret3
      exact ⟨.inr ⟨hno.out, rfl⟩, hend _ hB⟩
  · have hno : Hid (¬ ((lead (W ++ F)).length ≤ 17 ∧ E.length ≤ 3)) := Lib.hid (by rw [hres.out.1]; omega)
    clear hres hDd hE hW1 hF1 hE1
    go_enter Tryz.func203, Tryz.ntmps203
    go_wp2_with fail
    rw [← hW]
    clear hW
    refine (ct _).mono ?_
    rintro e w' ⟨rfl, rfl⟩
    obtain ⟨_, _, _, _, _, _, _⟩ := hkeep _ hB hN
    go_wp2
    go_ret3
    exact ⟨.inr ⟨hno.out, rfl⟩, hend _ hB⟩
theorem parts_digs (l : List UInt8) (i : Nat) : (∀ c ∈ (parts l i).whole ++ (parts l i).frac, isD c = true) ∧ (∀ c ∈ (parts l i).exp, isD c = true) ∧ (parts l i).whole.length ≤ l.length ∧ (parts l i).frac.length ≤ l.length ∧ (parts l i).exp.length ≤ l.length := by
  have hcl : ∀ a b, (cut l a b).length ≤ l.length := fun a b => by unfold cut; simp; omega
  have hE : ∀ neg W F a, (∀ c ∈ W ++ F, isD c = true) → W.length ≤ l.length → F.length ≤ l.length → (∀ c ∈ (partsE l neg W F a).whole ++ (partsE l neg W F a).frac, isD c = true) ∧ (∀ c ∈ (partsE l neg W F a).exp, isD c = true) ∧ (partsE l neg W F a).whole.length ≤ l.length ∧ (partsE l neg W F a).frac.length ≤ l.length ∧ (partsE l neg W F a).exp.length ≤ l.length := by
    intro neg W F a h hw hf
    unfold partsE
    by_cases he : (atC l a 101 || atC l a 69) = true
    · rw [if_pos he]
      simp only
      generalize (if (atC l (a + 1) 43 || atC l (a + 1) 45) = true then a + 2 else a + 1) = j
      by_cases hd : atD l j = true
      · rw [if_pos hd]; exact ⟨h, cut_digs, hw, hf, hcl _ _⟩
      · rw [if_neg hd]; exact ⟨fun c hc => (by cases hc), fun c hc => (by cases hc), Nat.zero_le _, Nat.zero_le _, Nat.zero_le _⟩
    · rw [if_neg he]; exact ⟨h, fun c hc => (by cases hc), hw, hf, Nat.zero_le _⟩
  have hF : ∀ neg W a, (∀ c ∈ W, isD c = true) → W.length ≤ l.length → (∀ c ∈ (partsF l neg W a).whole ++ (partsF l neg W a).frac, isD c = true) ∧ (∀ c ∈ (partsF l neg W a).exp, isD c = true) ∧ (partsF l neg W a).whole.length ≤ l.length ∧ (partsF l neg W a).frac.length ≤ l.length ∧ (partsF l neg W a).exp.length ≤ l.length := by
    intro neg W a h hw
    unfold partsF
    by_cases he : atC l a 46 = true
    · rw [if_pos he]
      by_cases hd : atD l (a + 1) = true
      · rw [if_pos hd]
        refine hE _ _ _ _ (fun c hc => ?_) hw (hcl _ _)
        rw [List.mem_append] at hc
        rcases hc with hc | hc
        · exact h c hc
        · exact cut_digs c hc
      · rw [if_neg hd]; exact ⟨fun c hc => (by cases hc), fun c hc => (by cases hc), Nat.zero_le _, Nat.zero_le _, Nat.zero_le _⟩
    · rw [if_neg he]; exact hE _ _ _ _ (by rw [List.append_nil]; exact h) hw (Nat.zero_le _)
  have hWd : ∀ a, atD l a = true → ∀ c ∈ cut l a (wEnd l a), isD c = true := by
    intro a hd
    unfold wEnd
    by_cases hz : atC l a 48 = true
    · rw [if_pos hz, cut_zero hz]; intro c hc; rw [List.mem_singleton] at hc; rw [hc]; decide
    · rw [if_neg hz]; exact cut_digs
  have hW : ∀ neg a, (∀ c ∈ (partsW l neg a).whole ++ (partsW l neg a).frac, isD c = true) ∧ (∀ c ∈ (partsW l neg a).exp, isD c = true) ∧ (partsW l neg a).whole.length ≤ l.length ∧ (partsW l neg a).frac.length ≤ l.length ∧ (partsW l neg a).exp.length ≤ l.length := by
    intro neg a
    unfold partsW
    by_cases hd : atD l a = true
    · rw [if_pos hd]; exact hF _ _ _ (hWd a hd) (hcl _ _)
    · rw [if_neg hd]; exact ⟨fun c hc => (by cases hc), fun c hc => (by cases hc), Nat.zero_le _, Nat.zero_le _, Nat.zero_le _⟩
  unfold parts
  split
  · exact hW _ _
  · exact hW _ _
theorem results_tmp4 {fn : Func} {t u v x : Tmp} (h : fn.results = #[.tmp t, .tmp u, .tmp v, .tmp x]) (tmps : Array Value) (P : Program) (w : World) :
    (results fn tmps).run P w = .ok (.tuple #[tmps.getD t undef, tmps.getD u undef, tmps.getD v undef, tmps.getD x undef]) w := by
  simp [results, h]
/-- What ReadNumber returns: at is a place of the text, or none. -/
def numT (m : Num) : Value := .tuple #[.int .i64 m.n, .int .i64 m.x, .int .i64 m.next, .int .i64 m.code]
def readT (l : List UInt8) (z : Int) : Value := if z < 0 ∨ (l.length : Int) < z then .tuple #[.int .i64 0, .int .i64 0, .int .i64 z, .int .i64 1] else numT (readN l z.toNat)
theorem readT_out {l : List UInt8} {z : Int} (h : z < 0 ∨ (l.length : Int) < z) : readT l z = .tuple #[.int .i64 0, .int .i64 0, .int .i64 z, .int .i64 1] := by unfold readT; rw [if_pos h]
theorem readT_in {l : List UInt8} {i : Nat} (h : i ≤ l.length) : readT l i = numT (readN l i) := by unfold readT; rw [if_neg (by omega)]; rfl
set_option maxRecDepth 100000 in
set_option maxHeartbeats 2000000 in
theorem readnum_impl (l : List UInt8) (z : Int) (w : World) (hl : l.length ≤ 1048576) : Calls Tryz.prog 175 #[.string ⟨l.toArray⟩, .int .i64 z] w fun e w' => e = .returned (readT l z) ∧ Below w.heap.size w w' := by
  have hL : (l.length : Int) ≤ 1048576 := by omega
  by_cases hz : z < 0
  · rw [readT_out (.inl hz)]
    go_enter Tryz.func175, Tryz.ntmps175
    go_wp2
    refine bodyPost_ret (results_tmp4 rfl _ _ _) rfl ?_
    exact ⟨rfl, Below.refl _ _⟩
  · by_cases hz2 : (l.length : Int) < z
    · rw [readT_out (.inr hz2)]
      go_enter Tryz.func175, Tryz.ntmps175
      go_wp2
      refine bodyPost_ret (results_tmp4 rfl _ _ _) rfl ?_
      exact ⟨rfl, Below.refl _ _⟩
    · obtain ⟨i, rfl⟩ : ∃ i : Nat, z = i := ⟨z.toNat, by omega⟩
      have hi : i ≤ l.length := by omega
      rw [readT_in hi]
      have cs := fun W => split_any l i W hi hl
      unfold SplitPost partsVal at cs
      obtain ⟨d1, d2, d3, d4, d5⟩ := parts_digs l i
      have cj := fun W => join_any (parts l i).neg (parts l i).eneg (parts l i).whole (parts l i).frac (parts l i).exp W d1 d2 (by omega) (by omega) (by omega)
      clear d1 d2 d3 d4 d5
      have hR : Hid (readN l i = numOf (parts l i)) := Lib.hid rfl
      generalize parts l i = p at *
      obtain ⟨neg, eneg, W, F, E, next, ok⟩ := p
      simp only at cs cj
      cases ok
      · have hR2 : Hid (readN l i = ⟨0, 0, next, 1⟩) := Lib.hid (by rw [hR.out]; rfl)
        clear hR cj
        go_enter Tryz.func175, Tryz.ntmps175
        go_wp2_with fail
        refine (cs _).mono ?_
        rintro e w1 ⟨rfl, hb1⟩
        go_wp2
        refine bodyPost_ret (results_tmp4 rfl _ _ _) rfl ?_
        exact ⟨by rw [hR2.out]; rfl, hb1.alloc hb1.size _⟩
      · go_enter Tryz.func175, Tryz.ntmps175
        go_wp2_with fail
        refine (cs _).mono ?_
        rintro e w1 ⟨rfl, hb1⟩
        go_wp2_with fail
        refine (cj _).mono ?_
        rintro e w2 ⟨hc, hb2⟩
        rcases hc with ⟨h1, h2, rfl⟩ | ⟨hno, rfl⟩
        · have hR2 : Hid (readN l i = ⟨sgnV neg (decVal 0 (W ++ F)), sgnV eneg (decVal 0 E) - F.length, next, 0⟩) := Lib.hid (by rw [hR.out]; unfold numOf; rw [if_pos rfl, if_pos ⟨h1, h2⟩])
          clear hR h1 h2
          go_wp2
          refine bodyPost_ret (results_tmp4 rfl _ _ _) rfl ?_
          exact ⟨by rw [hR2.out]; rfl, (hb1.alloc hb1.size _).trans (hb2.mono (by have := hb1.size; simp; omega))⟩
        · have hR2 : Hid (readN l i = ⟨0, 0, next, 2⟩) := Lib.hid (by rw [hR.out]; unfold numOf; rw [if_pos rfl, if_neg hno])
          clear hR hno
          go_wp2
          refine bodyPost_ret (results_tmp4 rfl _ _ _) rfl ?_
          exact ⟨by rw [hR2.out]; rfl, (hb1.alloc hb1.size _).trans (hb2.mono (by have := hb1.size; simp; omega))⟩
end Go.Proofs.YtnikcgmbkmbloaaGreatDoor
/- ReadToken: the parts of the program's answer: text, number. -/
namespace Go.Proofs.YtnikcgmbkmbloaaGreatDoor
open Go.RowKit
set_option maxRecDepth 100000
@[reducible] def TokR.val (r : TokR) : Value := .tuple #[r.t.val, .int .i64 r.next, .int .i64 r.code]
/-- a zero box of a token -/
structure ZT (w : World) (b : Nat) : Prop where
  c0 : w.cell? ⟨b, 0, none⟩ = some (.int .i64 0)
  c1 : w.cell? ⟨b, 1, none⟩ = some (.string ⟨#[]⟩)
  c2 : w.cell? ⟨b, 2, none⟩ = some (.int .i64 0)
  c3 : w.cell? ⟨b, 3, none⟩ = some (.int .i64 0)
  f : ∀ o, w.frozen? ⟨b, o, none⟩ = false
theorem ZT.blw {w w' : World} {b : Nat} (h : ZT w b) (hb : Below w.heap.size w w') : ZT w' b :=
  ⟨keep_below hb h.c0, keep_below hb h.c1, keep_below hb h.c2, keep_below hb h.c3, fun o => (hb.frozen (p := ⟨b, o, none⟩) (show b < w.heap.size from cell_lt h.c0)).trans (h.f o)⟩
abbrev ztObj (t : TypeId) : Obj := .cells #[.int .i64 0, .string ⟨#[]⟩, .int .i64 0, .int .i64 0] t
theorem zt_new (w : World) (t : TypeId) : ZT (w.alloc (.cells #[.int .i64 0, .string ⟨#[]⟩, .int .i64 0, .int .i64 0] t)) w.heap.size := by
  refine ⟨?_, ?_, ?_, ?_, fun o => ?_⟩ <;> simp [go_sem]
theorem tk_below {w W : World} (h : Below w.heap.size w W) {B : Nat} (hB : w.heap.size ≤ B) (v0 v1 v2 v3 : Value) :
    Below w.heap.size w ((((W.setCell ⟨B, 0, none⟩ v0).setCell ⟨B, 1, none⟩ v1).setCell ⟨B, 2, none⟩ v2).setCell ⟨B, 3, none⟩ v3) := bset (bset (bset (bset h hB) hB) hB) hB
theorem vbox_tr {w w1 : World} {o : Obj} (hb : Below (w.alloc o).heap.size (w.alloc o) w1) : Below w.heap.size w w1 := (vbox w o).trans (hb.mono (by simp))
theorem readtext_impl (l : List UInt8) (i : Nat) (w : World) (hl : l.length ≤ 1048576) (hi : i ≤ l.length) (hE : Env w) :
    Calls Tryz.prog 134 #[.string ⟨l.toArray⟩, .int .i64 i] w fun e w' => e = .returned (textR l i).val ∧ Below w.heap.size w w' := by
  have c := readquoted_impl l i (w.alloc (.cells #[.int .i64 0, .string ⟨#[]⟩, .int .i64 0, .int .i64 0] 76)) (by omega) (by omega) (by omega) (hE.below (vbox _ _))
  clear hE
  cases hq : readQ l i with
  | none =>
    have hr : readV l i = .tuple #[.string ⟨#[]⟩, .int .i64 0, .int .i64 1] := by unfold readV; rw [hq]
    have hv : textR l i = badR 1 := by unfold textR; rw [hq]
    rw [hr] at c
    rw [hv]
    clear hr hv hq
    go_enter Tryz.func134, Tryz.ntmps134
    go_wp2_with fail
    refine c.mono ?_
    rintro e w1 ⟨rfl, hb⟩
    obtain ⟨z0, z1, z2, z3, zf⟩ := (zt_new w 76).blw hb
    have HB := Lib.hid (vbox_tr hb)
    clear hb c
    go_wp2
    exact bodyPost_ret (v := (badR 1).val) (by simp [results, Tryz.results134, go_sem, z0, z1, z2, z3, badR, tok0, Tok.val, TokR.val]) rfl ⟨rfl, tk_below HB.out (Nat.le_refl _) _ _ _ _⟩
  | some p =>
    obtain ⟨rs, e⟩ := p
    have hr : readV l i = .tuple #[.string ⟨(flat rs).toArray⟩, .int .i64 e, .int .i64 0] := by unfold readV; rw [hq]
    have hv : textR l i = ⟨⟨2, flat rs, 0, 0⟩, e, 0⟩ := by unfold textR; rw [hq]
    rw [hr] at c
    rw [hv]
    clear hr hv hq
    generalize flat rs = fl at *
    go_enter Tryz.func134, Tryz.ntmps134
    go_wp2_with fail
    refine c.mono ?_
    rintro e w1 ⟨rfl, hb⟩
    obtain ⟨z0, z1, z2, z3, zf⟩ := (zt_new w 76).blw hb
    have HB := Lib.hid (vbox_tr hb)
    clear hb c
    go_wp2
    exact bodyPost_ret (by simp [results, Tryz.results134, go_sem, z0, z1, z2, z3]) rfl ⟨rfl, tk_below HB.out (Nat.le_refl _) _ _ _ _⟩
theorem readnumt_impl (l : List UInt8) (i : Nat) (w : World) (hl : l.length ≤ 1048576) (hi : i ≤ l.length) :
    Calls Tryz.prog 135 #[.string ⟨l.toArray⟩, .int .i64 i] w fun e w' => e = .returned (numR l i).val ∧ Below w.heap.size w w' := by
  have c := readnum_impl l i (w.alloc (.cells #[.int .i64 0, .string ⟨#[]⟩, .int .i64 0, .int .i64 0] 76)) hl
  rw [readT_in hi] at c
  unfold numT at c
  have hcode : (readN l i).code = 0 ∨ (readN l i).code = 1 ∨ (readN l i).code = 2 := by
    unfold readN numOf; split
    · split <;> simp
    · simp
  have hv : numR l i = if (readN l i).code = 0 then ⟨⟨3, [], (readN l i).n, (readN l i).x⟩, (readN l i).next, 0⟩ else badR (readN l i).code := rfl
  rw [hv]
  clear hv
  generalize readN l i = m at *
  obtain ⟨n, x, next, code⟩ := m
  simp only at c hcode ⊢
  rcases hcode with rfl | rfl | rfl
  · rw [if_pos rfl]
    go_enter Tryz.func135, Tryz.ntmps135
    go_wp2_with fail
    refine c.mono ?_
    rintro e w1 ⟨rfl, hb⟩
    obtain ⟨z0, z1, z2, z3, zf⟩ := (zt_new w 76).blw hb
    have HB := Lib.hid (vbox_tr hb)
    clear hb c
    go_wp2
    exact bodyPost_ret (by simp [results, Tryz.results135, go_sem, z0, z1, z2, z3]) rfl ⟨rfl, tk_below HB.out (Nat.le_refl _) _ _ _ _⟩
  · rw [if_neg (by decide)]
    go_enter Tryz.func135, Tryz.ntmps135
    go_wp2_with fail
    refine c.mono ?_
    rintro e w1 ⟨rfl, hb⟩
    obtain ⟨z0, z1, z2, z3, zf⟩ := (zt_new w 76).blw hb
    have HB := Lib.hid (vbox_tr hb)
    clear hb c
    go_wp2
    exact bodyPost_ret (by simp [results, Tryz.results135, go_sem, z0, z1, z2, z3, badR, tok0]) rfl ⟨rfl, tk_below HB.out (Nat.le_refl _) _ _ _ _⟩
  · rw [if_neg (by decide)]
    go_enter Tryz.func135, Tryz.ntmps135
    go_wp2_with fail
    refine c.mono ?_
    rintro e w1 ⟨rfl, hb⟩
    obtain ⟨z0, z1, z2, z3, zf⟩ := (zt_new w 76).blw hb
    have HB := Lib.hid (vbox_tr hb)
    clear hb c
    go_wp2
    exact bodyPost_ret (by simp [results, Tryz.results135, go_sem, z0, z1, z2, z3, badR, tok0]) rfl ⟨rfl, tk_below HB.out (Nat.le_refl _) _ _ _ _⟩
end Go.Proofs.YtnikcgmbkmbloaaGreatDoor
