import Derived.Test.YtnikcgmbkmbloaaGreatDoorG6
import Derived.Test.YtnikcgmbkmbloaaGreatDoorG11
import Derived.Test.YtnikcgmbkmbloaaGreatDoorRows
import Derived.Test.YtnikcgmbkmbloaaGreatDoorG0
import Derived.Test.YtnikcgmbkmbloaaGreatDoorG2
import Derived.WalkKit
import Derived.Lib.Hide
import Derived.Lib.ItoaNum
import Derived.Outline
import Derived.ProofKit
/- What the program's splitNumber returns: the parts of a number's text, taken by gotos from state to state. -/
namespace Go.Proofs.YtnikcgmbkmbloaaGreatDoor
open Go.RowKit
/-- The world while the parts are being gathered: the result's cells, the parts' cells. -/
abbrev stW (w : World) (neg eneg : Bool) (W F E : List UInt8) : World :=
  (w.alloc (.cells #[.bool false, .bool false, .string ⟨#[]⟩, .string ⟨#[]⟩, .string ⟨#[]⟩] 210)).alloc (.cells #[.bool neg, .bool eneg, .string ⟨W.toArray⟩, .string ⟨F.toArray⟩, .string ⟨E.toArray⟩] 210)
def stA (l : List UInt8) (w : World) (v1 : Value) (u : Nat → Value) : Act := ⟨#[.string ⟨l.toArray⟩, v1, u 2, u 3, .pointer (some ⟨w.heap.size, 0, none⟩), .int .i64 0, .bool false, .pointer (some ⟨w.heap.size + 1, 0, none⟩), u 8, u 9, u 10, u 11, u 12, u 13, u 14, u 15, u 16, u 17, u 18, u 19, u 20, u 21, u 22, u 23, u 24, u 25, u 26, u 27, u 28, u 29, u 30, u 31, u 32, u 33, u 34, u 35, u 36, u 37, u 38, u 39, u 40, u 41, u 42, u 43, u 44, u 45, u 46, u 47, u 48, u 49, u 50, u 51, u 52, u 53, u 54, u 55, u 56, u 57, u 58, u 59, u 60, u 61, u 62, u 63, u 64, u 65, u 66, u 67, u 68, u 69, u 70, u 71, u 72, u 73, u 74, u 75, u 76, u 77, u 78, u 79, u 80, u 81, u 82], []⟩
/-- What holds at a label. -/
def AtLab (l : List UInt8) (i : Nat) (w : World) (lab : Nat) (a : Act) (W' : World) : Prop :=
  ∃ (v1 : Value) (u : Nat → Value) (pos : Nat) (neg eneg : Bool) (W F E : List UInt8), a = stA l w v1 u ∧ v1 = .int .i64 pos ∧ pos ≤ l.length ∧ W' = stW w neg eneg W F E ∧
    ((lab = 0 ∧ eneg = false ∧ F = [] ∧ E = [] ∧ parts l i = partsF l neg W pos) ∨ (lab = 2 ∧ eneg = false ∧ E = [] ∧ parts l i = partsE l neg W F pos) ∨
      (lab = 3 ∧ parts l i = ⟨neg, eneg, W, F, E, pos, true⟩) ∨ (lab = 1 ∧ parts l i = noParts pos))
theorem atL_mk {l : List UInt8} {i : Nat} {w : World} {lab : Nat} {a : Act} {W' : World} (pos : Nat) (neg eneg : Bool) (W F E : List UInt8) (h : a = stA l w (a.tmps.getD 1 undef) (fun k => a.tmps.getD k undef)) (hv : a.tmps.getD 1 undef = .int .i64 pos)
    (hpos : pos ≤ l.length) (hw : W' = stW w neg eneg W F E)
    (hc : (lab = 0 ∧ eneg = false ∧ F = [] ∧ E = [] ∧ parts l i = partsF l neg W pos) ∨ (lab = 2 ∧ eneg = false ∧ E = [] ∧ parts l i = partsE l neg W F pos) ∨
      (lab = 3 ∧ parts l i = ⟨neg, eneg, W, F, E, pos, true⟩) ∨ (lab = 1 ∧ parts l i = noParts pos)) : AtLab l i w lab a W' :=
  ⟨_, _, pos, neg, eneg, W, F, E, h, hv, hpos, hw, hc⟩
def rank : Nat → Nat
  | 0 => 3
  | 2 => 2
  | 3 => 1
  | _ => 0
def partsVal (p : Parts) : Value := .agg #[.bool p.neg, .bool p.eneg, .string ⟨p.whole.toArray⟩, .string ⟨p.frac.toArray⟩, .string ⟨p.exp.toArray⟩]
theorem str_index (l : List UInt8) (i : Nat) (h : i < l.length) (w : World) : (Instr.index 9 (.string ⟨l.toArray⟩) (.int .i64 i)).run Tryz.prog w = .ok (.int .u8 (l[i]).toNat) w := by
  have := run_index_string (P := Tryz.prog) w 9 ⟨l.toArray⟩ .i64 i Tryz.underlying9
  rw [dif_pos (by rw [size_l]; omega)] at this
  rw [this]
  congr 3
theorem str_indexZ (l : List UInt8) (i : Nat) (z : Int) (hz : z = i) (h : i < l.length) (w : World) : (Instr.index 9 (.string ⟨l.toArray⟩) (.int .i64 z)).run Tryz.prog w = .ok (.int .u8 (l[i]).toNat) w := by subst hz; exact str_index l i h w
theorem byte_beq45 (c : UInt8) : ((c.toNat : Int) == 45) = (c == 45) := by
  rw [Bool.eq_iff_iff, beq_iff_eq, beq_iff_eq]
  constructor
  · intro h; exact UInt8.toNat_inj.1 (by have e : (45 : UInt8).toNat = 45 := rfl
                                         omega)
  · intro h; subst h; rfl
theorem atD_zero {l : List UInt8} {i : Nat} (h : atC l i 48 = true) : atD l i = true := by
  have hl := atC_lt h
  rw [atC_get hl] at h
  rw [atD_get hl, show l[i] = 48 by simpa using h]
  decide
theorem cut_zero {l : List UInt8} {i : Nat} (h : atC l i 48 = true) : cut l i (i + 1) = [48] := by
  have hl := atC_lt h
  rw [atC_get hl] at h
  unfold cut
  rw [List.drop_eq_getElem_cons hl, show i + 1 - i = 1 by omega, show l[i] = 48 by simpa using h]
  rfl
theorem cut_ne {l : List UInt8} {i : Nat} (h : atD l i = true) : (cut l i (dEnd l i) == []) = false := by
  have h1 := dEnd_ge l (i + 1)
  have h2 := dEnd_step h
  have h3 := cut_len (i := i) (dEnd_ge l i) (dEnd_le (l := l) (i := i) (by have := atD_lt h; omega))
  cases hc : cut l i (dEnd l i) with
  | nil => rw [hc] at h3; simp at h3; omega
  | cons a b => rfl
def SplitPost (l : List UInt8) (i : Nat) (w : World) (e : Ending) (w' : World) : Prop := e = .returned (.tuple #[partsVal (parts l i), .int .i64 (parts l i).next, .bool (parts l i).ok]) ∧ Below w.heap.size w w'
set_option maxRecDepth 100000 in
set_option maxHeartbeats 4000000 in
theorem split_any (l : List UInt8) (i : Nat) (w : World) (hi : i ≤ l.length) (hl : l.length ≤ 1048576) :
    Calls Tryz.prog 202 #[.string ⟨l.toArray⟩, .int .i64 i] w (SplitPost l i w) := by
  have hL : (l.length : Int) ≤ 1048576 := by omega
  go_enter Tryz.func202, Tryz.ntmps202
  go_wp2
  refine wp_scope_falls (AtLab l i w) rank ?_ ?_
  · intro lab a W' h ih
    obtain ⟨v1, u, pos, neg, eneg, W, F, E, rfl, rfl, hpos, rfl, hcase⟩ := h
    rcases hcase with ⟨rfl, rfl, rfl, rfl, hp⟩ | ⟨rfl, rfl, rfl, hp⟩ | ⟨rfl, hp⟩ | ⟨rfl, hp⟩
    · -- the point
      refine ⟨_, rfl, ?_⟩
      have HP := Lib.hid hp
      have IH := Lib.hid ih
      have cb := bytein_any l [46] pos
      rw [inS_one] at cb
      clear hp ih
      unfold stA
      cases he : atC l pos 46
      · rw [he] at cb
        have hq := HP.out
        unfold partsF at hq
        rw [he, if_neg (by decide)] at hq
        have HQ := Lib.hid hq
        clear hq he
        go_wp2_with fail
        refine (cb _ (by omega)).mono ?_
        rintro e w' ⟨rfl, rfl⟩
        go_wp2_with fail
        refine wp_goto ?_
        exact (show AtLab l i w 2 _ _ ∧ rank 2 < rank 0 from ⟨atL_mk pos neg false W [] [] rfl rfl hpos rfl (.inr (.inl ⟨rfl, rfl, rfl, HQ.out⟩)), by decide⟩)
      · rw [he] at cb
        have hlt : pos + 1 ≤ l.length := atC_lt he
        have hlt1 : (pos : Int) + 1 ≤ l.length := by omega
        have hq := HP.out
        unfold partsF at hq
        rw [he, if_pos rfl] at hq
        have cd := fun w1 => digitsat_any l (pos + 1) w1 hlt hl
        rw [show ((pos + 1 : Nat) : Int) = (pos : Int) + 1 by omega] at cd
        cases hd : atD l (pos + 1)
        · rw [hd, if_neg (by decide)] at hq
          rw [dEnd_stop hd, cut_nil] at cd
          have HQ := Lib.hid hq
          clear hq he hd
          go_wp2_with fail
          refine (cb _ (by omega)).mono ?_
          rintro e w' ⟨rfl, rfl⟩
          go_wp2_with fail
          refine (cd _).mono ?_
          rintro e w' ⟨rfl, rfl⟩
          go_wp2_with fail
          refine wp_goto ?_
          exact (show AtLab l i w 1 _ _ ∧ rank 1 < rank 0 from ⟨atL_mk (pos + 1) neg false W [] [] rfl rfl hlt rfl (.inr (.inr (.inr ⟨rfl, HQ.out⟩))), by decide⟩)
        · rw [hd, if_pos rfl] at hq
          have hne := cut_ne hd
          obtain ⟨F, hF⟩ : ∃ F, F = cut l (pos + 1) (dEnd l (pos + 1)) := ⟨_, rfl⟩
          have hlen : dEnd l (pos + 1) = pos + 1 + F.length := by rw [hF, cut_len (dEnd_ge _ _) (dEnd_le hlt)]; have := dEnd_ge l (pos + 1); omega
          have hle := dEnd_le hlt
          rw [← hF] at cd hq hne
          rw [hlen] at hq hle
          have HQ := Lib.hid hq
          have hle2 : (pos : Int) + 1 + F.length ≤ l.length := by omega
          clear hq he hd hF hlen
          go_wp2_with fail
          refine (cb _ (by omega)).mono ?_
          rintro e w' ⟨rfl, rfl⟩
          go_wp2_with fail
          refine (cd _).mono ?_
          rintro e w' ⟨rfl, rfl⟩
          go_wp2_with fail
          rename_i hK
          refine wp_label (hK _ _ ?_)
          exact fall_of (IH.out 2 _ _ (by decide) (atL_mk (pos + 1 + F.length) neg false W F [] rfl rfl hle rfl (.inr (.inl ⟨rfl, rfl, rfl, HQ.out⟩)))) rfl (fun _ _ _ h => ⟨h.1, Nat.lt_trans h.2 (by decide)⟩)
    · -- the exponent
      refine ⟨_, rfl, ?_⟩
      have HP := Lib.hid hp
      have IH := Lib.hid ih
      have cb := bytein_any l [101, 69] pos
      rw [inS_two] at cb
      clear hp ih
      unfold stA
      cases he : (atC l pos 101 || atC l pos 69)
      · rw [he] at cb
        have hq := HP.out
        unfold partsE at hq
        rw [he, if_neg (by decide)] at hq
        have HQ := Lib.hid hq
        clear hq he
        go_wp2_with (go_at_call 133; refine (cb _ (by omega)).mono ?_; rintro e w' ⟨rfl, rfl⟩)
        refine wp_goto ?_
        exact (show AtLab l i w 3 _ _ ∧ rank 3 < rank 2 from ⟨atL_mk pos neg false W F [] rfl rfl hpos rfl (.inr (.inr (.inl ⟨rfl, HQ.out⟩))), by decide⟩)
      · rw [he] at cb
        have hlt : pos + 1 ≤ l.length := by
          rw [Bool.or_eq_true] at he
          rcases he with he | he <;> exact atC_lt he
        have hq := HP.out
        unfold partsE at hq
        rw [he, if_pos rfl] at hq
        simp only at hq
        have cs := bytein_any l [43, 45] (pos + 1)
        rw [inS_two, show ((pos + 1 : Nat) : Int) = (pos : Int) + 1 by omega] at cs
        have hlt1 : (pos : Int) + 1 ≤ l.length := by omega
        cases hs : (atC l (pos + 1) 43 || atC l (pos + 1) 45)
        · have h45 : atC l (pos + 1) 45 = false := by rw [Bool.or_eq_false_iff] at hs; exact hs.2
          rw [hs] at hq cs
          rw [h45] at hq
          simp only [Bool.false_eq_true, ↓reduceIte] at hq
          clear hs h45
          have cd := fun w1 => digitsat_any l (pos + 1) w1 hlt hl
          rw [show ((pos + 1 : Nat) : Int) = (pos : Int) + 1 by omega] at cd
          cases hd : atD l (pos + 1)
          · rw [hd] at hq
            simp only [Bool.false_eq_true, ↓reduceIte] at hq
            rw [dEnd_stop hd, cut_nil] at cd
            have HQ := Lib.hid hq
            clear hq he hd
            go_wp2_with fail
            refine (cb _ (by omega)).mono ?_
            rintro e w' ⟨rfl, rfl⟩
            go_wp2_with fail
            refine (cs _ (by omega)).mono ?_
            rintro e w' ⟨rfl, rfl⟩
            go_wp2_with fail
            refine (cd _).mono ?_
            rintro e w' ⟨rfl, rfl⟩
            go_wp2_with fail
            refine wp_goto ?_
            exact (show AtLab l i w 1 _ _ ∧ rank 1 < rank 2 from ⟨atL_mk (pos + 1) neg false W F [] rfl rfl hlt rfl (.inr (.inr (.inr ⟨rfl, HQ.out⟩))), by decide⟩)
          · rw [hd] at hq
            simp only [↓reduceIte] at hq
            have hne := cut_ne hd
            obtain ⟨E, hE⟩ : ∃ E, E = cut l (pos + 1) (dEnd l (pos + 1)) := ⟨_, rfl⟩
            have hlen : dEnd l (pos + 1) = pos + 1 + E.length := by rw [hE, cut_len (dEnd_ge _ _) (dEnd_le hlt)]; have := dEnd_ge l (pos + 1); omega
            have hle := dEnd_le hlt
            rw [← hE] at cd hq hne
            rw [hlen] at hq hle
            have HQ := Lib.hid hq
            have hle2 : (pos : Int) + 1 + E.length ≤ l.length := by omega
            clear hq he hd hE hlen
            go_wp2_with fail
            refine (cb _ (by omega)).mono ?_
            rintro e w' ⟨rfl, rfl⟩
            go_wp2_with fail
            refine (cs _ (by omega)).mono ?_
            rintro e w' ⟨rfl, rfl⟩
            go_wp2_with fail
            refine (cd _).mono ?_
            rintro e w' ⟨rfl, rfl⟩
            go_wp2_with fail
            rename_i hK
            refine wp_label (hK _ _ ?_)
            exact fall_of (IH.out 3 _ _ (by decide) (atL_mk (pos + 1 + E.length) neg false W F E rfl rfl hle rfl (.inr (.inr (.inl ⟨rfl, HQ.out⟩))))) rfl (fun _ _ _ h => ⟨h.1, Nat.lt_trans h.2 (by decide)⟩)
        · rw [hs] at hq cs
          simp only [Bool.false_eq_true, ↓reduceIte] at hq
          have hlt2 : pos + 2 ≤ l.length := by
            rw [Bool.or_eq_true] at hs
            rcases hs with hs | hs <;> exact atC_lt hs
          have hltI : pos + 1 < l.length := hlt2
          have ix := fun W1 => str_indexZ l (pos + 1) ((pos : Int) + 1) (by omega) hltI W1
          have hen : (((l[pos + 1]).toNat : Int) == 45) = atC l (pos + 1) 45 := by rw [atC_get hltI, byte_beq45]
          have IX := Lib.hid ix
          have ZZ : (pos : Int) + 1 + 1 = (pos : Int) + 2 := by omega
          clear hs
          have cd := fun w1 => digitsat_any l (pos + 2) w1 hlt2 hl
          rw [show ((pos + 2 : Nat) : Int) = (pos : Int) + 2 by omega] at cd
          cases hd : atD l (pos + 2)
          · rw [hd] at hq
            simp only [Bool.false_eq_true, ↓reduceIte] at hq
            rw [dEnd_stop hd, cut_nil] at cd
            have HQ := Lib.hid hq
            clear hq he hd
            go_wp2_with fail
            refine (cb _ (by omega)).mono ?_
            rintro e w' ⟨rfl, rfl⟩
            go_wp2_with fail
            refine (cs _ (by omega)).mono ?_
            rintro e w' ⟨rfl, rfl⟩
            have ix := IX.out
            go_wp2_with fail
            refine (cd _).mono ?_
            rintro e w' ⟨rfl, rfl⟩
            go_wp2_with fail
            refine wp_goto ?_
            exact (show AtLab l i w 1 _ _ ∧ rank 1 < rank 2 from ⟨atL_mk (pos + 2) neg (atC l (pos + 1) 45) W F [] rfl rfl hlt2 rfl (.inr (.inr (.inr ⟨rfl, HQ.out⟩))), by decide⟩)
          · rw [hd] at hq
            simp only [↓reduceIte] at hq
            have hne := cut_ne hd
            obtain ⟨E, hE⟩ : ∃ E, E = cut l (pos + 2) (dEnd l (pos + 2)) := ⟨_, rfl⟩
            have hlen : dEnd l (pos + 2) = pos + 2 + E.length := by rw [hE, cut_len (dEnd_ge _ _) (dEnd_le hlt2)]; have := dEnd_ge l (pos + 2); omega
            have hle := dEnd_le hlt2
            rw [← hE] at cd hq hne
            rw [hlen] at hq hle
            have HQ := Lib.hid hq
            have hle2 : (pos : Int) + 2 + E.length ≤ l.length := by omega
            clear hq he hd hE hlen
            go_wp2_with fail
            refine (cb _ (by omega)).mono ?_
            rintro e w' ⟨rfl, rfl⟩
            go_wp2_with fail
            refine (cs _ (by omega)).mono ?_
            rintro e w' ⟨rfl, rfl⟩
            have ix := IX.out
            go_wp2_with fail
            refine (cd _).mono ?_
            rintro e w' ⟨rfl, rfl⟩
            go_wp2_with fail
            rename_i hK
            refine wp_label (hK _ _ ?_)
            exact fall_of (IH.out 3 _ _ (by decide) (atL_mk (pos + 2 + E.length) neg (atC l (pos + 1) 45) W F E rfl rfl hle rfl (.inr (.inr (.inl ⟨rfl, HQ.out⟩))))) rfl (fun _ _ _ h => ⟨h.1, Nat.lt_trans h.2 (by decide)⟩)
    · refine ⟨_, rfl, ?_⟩
      have HP := Lib.hid hp
      clear hp ih
      unfold stA
      go_wp2
      exact (show bodyPost Tryz.prog Tryz.f202 (SplitPost l i w) Exit.ret _ _ from bodyPost_ret (v := .tuple #[.agg #[.bool neg, .bool eneg, .string ⟨W.toArray⟩, .string ⟨F.toArray⟩, .string ⟨E.toArray⟩], .int .i64 pos, .bool true]) (by simp [results, Tryz.results202, go_sem]) rfl ⟨by rw [HP.out]; rfl, ((Below.refl _ _).alloc (Nat.le_refl _) _).alloc (by simp) _⟩)
    · refine ⟨_, rfl, ?_⟩
      have HP := Lib.hid hp
      clear hp ih
      unfold stA
      go_wp2
      exact (show bodyPost Tryz.prog Tryz.f202 (SplitPost l i w) Exit.ret _ _ from bodyPost_ret (v := .tuple #[.agg #[.bool false, .bool false, .string ⟨#[]⟩, .string ⟨#[]⟩, .string ⟨#[]⟩], .int .i64 pos, .bool false]) (by simp [results, Tryz.results202, go_sem]) rfl ⟨by rw [HP.out]; rfl, ((Below.refl _ _).alloc (Nat.le_refl _) _).alloc (by simp) _⟩)
  · intro ih
    have IH := Lib.hid ih
    have c0 := bytein_any l [45] i
    rw [inS_one] at c0
    have hI : (i : Int) ≤ l.length := by omega
    clear ih
    cases h0 : atC l i 45
    · rw [h0] at c0
      have hlt : i ≤ l.length := hi
      have hltI : (i : Int) ≤ l.length := by omega
      have hq : parts l i = partsW l false (i) := by unfold parts; rw [h0]; rfl
      unfold partsW at hq
      have cz := bytein_any l [48] (i)
      have cd := fun w1 => digitsat_any l (i) w1 hlt hl
      rw [inS_one] at cz
      rw [show ((i : Nat) : Int) = (i : Int) by omega] at cz cd
      clear h0
      cases hz : atC l (i) 48
      · rw [hz] at cz
        cases hd : atD l (i)
        · rw [hd, if_neg (by decide)] at hq
          rw [dEnd_stop hd, cut_nil] at cd
          have HQ := Lib.hid hq
          clear hq hz hd
          go_wp2_with fail
          refine (c0 _ (by omega)).mono ?_
          rintro e w' ⟨rfl, rfl⟩
          go_wp2_with fail
          refine (cz _ (by omega)).mono ?_
          rintro e w' ⟨rfl, rfl⟩
          go_wp2_with fail
          refine (cd _).mono ?_
          rintro e w' ⟨rfl, rfl⟩
          go_wp2_with fail
          refine wp_goto ?_
          exact (show AtLab l i w 1 _ _ from atL_mk (i) false false [] [] [] rfl rfl hlt rfl (.inr (.inr (.inr ⟨rfl, HQ.out⟩))))
        · rw [hd, if_pos rfl] at hq
          have hne := cut_ne hd
          have hwe : wEnd l (i) = dEnd l (i) := by unfold wEnd; rw [hz, if_neg (by decide)]
          rw [hwe] at hq
          obtain ⟨F, hF⟩ : ∃ F, F = cut l (i) (dEnd l (i)) := ⟨_, rfl⟩
          have hlen : dEnd l (i) = i + F.length := by rw [hF, cut_len (dEnd_ge _ _) (dEnd_le hlt)]; have := dEnd_ge l (i); omega
          have hle := dEnd_le hlt
          rw [← hF] at cd hq hne
          rw [hlen] at hq hle
          have HQ := Lib.hid hq
          have hle2 : (i : Int) + F.length ≤ l.length := by omega
          clear hq hz hd hF hlen hwe
          go_wp2_with fail
          refine (c0 _ (by omega)).mono ?_
          rintro e w' ⟨rfl, rfl⟩
          go_wp2_with fail
          refine (cz _ (by omega)).mono ?_
          rintro e w' ⟨rfl, rfl⟩
          go_wp2_with fail
          refine (cd _).mono ?_
          rintro e w' ⟨rfl, rfl⟩
          go_wp2_with fail
          rename_i hK
          refine wp_label (hK _ _ ?_)
          exact fall_of (IH.out 0 _ _ (atL_mk (i + F.length) false false F [] [] rfl rfl hle rfl (.inl ⟨rfl, rfl, rfl, rfl, HQ.out⟩))) rfl (fun _ _ _ h => h.1)
      · rw [hz] at cz
        have hlt2 := atC_lt hz
        have hlt2I : (i : Int) + 1 ≤ l.length := by omega
        have hd : atD l (i) = true := atD_zero hz
        have hwe : wEnd l (i) = i + 1 := by unfold wEnd; rw [hz, if_pos rfl]
        rw [hd, if_pos rfl, hwe, cut_zero hz] at hq
        have HQ := Lib.hid hq
        clear hq hz hd hwe
        go_wp2_with fail
        refine (c0 _ (by omega)).mono ?_
        rintro e w' ⟨rfl, rfl⟩
        go_wp2_with fail
        refine (cz _ (by omega)).mono ?_
        rintro e w' ⟨rfl, rfl⟩
        go_wp2_with fail
        refine wp_goto ?_
        exact (show AtLab l i w 0 _ _ from atL_mk (i + 1) false false [48] [] [] rfl rfl hlt2 rfl (.inl ⟨rfl, rfl, rfl, rfl, HQ.out⟩))
    · rw [h0] at c0
      have hlt : i + 1 ≤ l.length := atC_lt h0
      have hltI : (i : Int) + 1 ≤ l.length := by omega
      have hq : parts l i = partsW l true (i + 1) := by unfold parts; rw [h0]; rfl
      unfold partsW at hq
      have cz := bytein_any l [48] (i + 1)
      have cd := fun w1 => digitsat_any l (i + 1) w1 hlt hl
      rw [inS_one] at cz
      rw [show ((i + 1 : Nat) : Int) = (i : Int) + 1 by omega] at cz cd
      clear h0
      cases hz : atC l (i + 1) 48
      · rw [hz] at cz
        cases hd : atD l (i + 1)
        · rw [hd, if_neg (by decide)] at hq
          rw [dEnd_stop hd, cut_nil] at cd
          have HQ := Lib.hid hq
          clear hq hz hd
          go_wp2_with fail
          refine (c0 _ (by omega)).mono ?_
          rintro e w' ⟨rfl, rfl⟩
          go_wp2_with fail
          refine (cz _ (by omega)).mono ?_
          rintro e w' ⟨rfl, rfl⟩
          go_wp2_with fail
          refine (cd _).mono ?_
          rintro e w' ⟨rfl, rfl⟩
          go_wp2_with fail
          refine wp_goto ?_
          exact (show AtLab l i w 1 _ _ from atL_mk (i + 1) true false [] [] [] rfl rfl hlt rfl (.inr (.inr (.inr ⟨rfl, HQ.out⟩))))
        · rw [hd, if_pos rfl] at hq
          have hne := cut_ne hd
          have hwe : wEnd l (i + 1) = dEnd l (i + 1) := by unfold wEnd; rw [hz, if_neg (by decide)]
          rw [hwe] at hq
          obtain ⟨F, hF⟩ : ∃ F, F = cut l (i + 1) (dEnd l (i + 1)) := ⟨_, rfl⟩
          have hlen : dEnd l (i + 1) = i + 1 + F.length := by rw [hF, cut_len (dEnd_ge _ _) (dEnd_le hlt)]; have := dEnd_ge l (i + 1); omega
          have hle := dEnd_le hlt
          rw [← hF] at cd hq hne
          rw [hlen] at hq hle
          have HQ := Lib.hid hq
          have hle2 : (i : Int) + 1 + F.length ≤ l.length := by omega
          clear hq hz hd hF hlen hwe
          go_wp2_with fail
          refine (c0 _ (by omega)).mono ?_
          rintro e w' ⟨rfl, rfl⟩
          go_wp2_with fail
          refine (cz _ (by omega)).mono ?_
          rintro e w' ⟨rfl, rfl⟩
          go_wp2_with fail
          refine (cd _).mono ?_
          rintro e w' ⟨rfl, rfl⟩
          go_wp2_with fail
          rename_i hK
          refine wp_label (hK _ _ ?_)
          exact fall_of (IH.out 0 _ _ (atL_mk (i + 1 + F.length) true false F [] [] rfl rfl hle rfl (.inl ⟨rfl, rfl, rfl, rfl, HQ.out⟩))) rfl (fun _ _ _ h => h.1)
      · rw [hz] at cz
        have hlt2 := atC_lt hz
        have hlt2I : (i : Int) + 1 + 1 ≤ l.length := by omega
        have hd : atD l (i + 1) = true := atD_zero hz
        have hwe : wEnd l (i + 1) = i + 1 + 1 := by unfold wEnd; rw [hz, if_pos rfl]
        rw [hd, if_pos rfl, hwe, cut_zero hz] at hq
        have HQ := Lib.hid hq
        clear hq hz hd hwe
        go_wp2_with fail
        refine (c0 _ (by omega)).mono ?_
        rintro e w' ⟨rfl, rfl⟩
        go_wp2_with fail
        refine (cz _ (by omega)).mono ?_
        rintro e w' ⟨rfl, rfl⟩
        go_wp2_with fail
        refine wp_goto ?_
        exact (show AtLab l i w 0 _ _ from atL_mk (i + 1 + 1) true false [48] [] [] rfl rfl hlt2 rfl (.inl ⟨rfl, rfl, rfl, rfl, HQ.out⟩))
end Go.Proofs.YtnikcgmbkmbloaaGreatDoor
/- What NumText of the program and NumText of the model return: the decimal numeral, for every integer. -/
namespace Go.Proofs.YtnikcgmbkmbloaaGreatDoor
open Go.RowKit
def digs (m : Nat) : List UInt8 := if m = 0 then [] else Lib.decDigits m
theorem digs_zero : digs 0 = [] := rfl
theorem digs_step (m : Nat) (h : m ≠ 0) : digs m = digs (m / 10) ++ [UInt8.ofNat (48 + m % 10)] := by
  unfold digs
  rw [if_neg h, Lib.decDigits]
  by_cases h10 : m < 10
  · rw [dif_pos h10, if_pos (by omega), show m % 10 = m by omega]; rfl
  · rw [dif_neg h10, if_neg (by omega)]
theorem str_eq {k l : List UInt8} (h : k = l) : Ending.returned (.string ⟨k.toArray⟩) = .returned (.string ⟨l.toArray⟩) := by rw [h]
theorem digs_len (m : Nat) : (digs m).length ≤ m / 10 + 1 := by
  induction m using Nat.strongRecOn with
  | _ m ih =>
    by_cases h : m = 0
    · subst h; rw [digs_zero]; exact Nat.zero_le _
    · rw [digs_step m h, List.length_append]
      have h1 := ih (m / 10) (by omega)
      have h2 : ([UInt8.ofNat (48 + m % 10)] : List UInt8).length = 1 := rfl
      by_cases h10 : m < 10
      · rw [show m / 10 = 0 by omega] at h1 ⊢; rw [digs_zero]; exact Nat.le_refl _
      · omega
theorem cat_eq (a b : List UInt8) : ((⟨a.toArray⟩ : ByteArray) ++ (⟨b.toArray⟩ : ByteArray)) = ⟨(a ++ b).toArray⟩ := by
  apply ByteArray.ext
  simp [ByteArray.data_append]
theorem conv_cell (W : World) (B : Nat) (c : Int) (h : W.cell? ⟨B, 0, none⟩ = some (.int .u8 c)) : ∀ i, i < 1 → W.cell? ⟨B, 0 + i, none⟩ = some (.int .u8 (([c] : List Int).getD i 0)) := by
  intro i hi
  obtain rfl : i = 0 := by omega
  simpa using h
theorem conv_one (W : World) (B : Nat) (c : Int) (h : W.cell? ⟨B, 0, none⟩ = some (.int .u8 c)) : (convert 22 9 (.slice (some ⟨B, 0, none⟩) 1 1)).run Tryz.prog W = .ok (.string ⟨#[UInt8.ofNat c.toNat]⟩) W :=
  run_convert_bytes_arg W _ _ Tryz.underlying22 Tryz.underlying5 B 0 1 1 [c] rfl (conv_cell W B c h) _ Tryz.underlying9
theorem itoa_pos (n : Int) (h : 1 ≤ n) : Lib.itoa n = digs n.toNat := by
  unfold Lib.itoa digs; rw [if_neg (by omega), if_neg (by omega)]
theorem itoa_neg' (m : Nat) (h : 1 ≤ m) : Lib.itoa (-(m : Int)) = 45 :: digs m := by
  unfold Lib.itoa digs; rw [if_pos (by omega), if_neg (by omega)]; simp
theorem dg_eq (m : Nat) : (48 : UInt8) + UInt8.ofNat (m % 10) = UInt8.ofNat (48 + m % 10) := by
  have : m % 10 < 10 := Nat.mod_lt _ (by omega)
  have key : ∀ i : Fin 10, (48 : UInt8) + UInt8.ofNat i.val = UInt8.ofNat (48 + i.val) := by decide
  exact key ⟨m % 10, this⟩
theorem numtext_spec_pos (n : Nat) (w : World) (h0 : 1 ≤ n) (h1 : (n : Int) ≤ 9223372036854775807) : Calls Tryz.prog 81 #[.int .i64 n] w fun e w' => e = .returned (.string ⟨(digs n).toArray⟩) ∧ Below w.heap.size w w' := by
  have hn : ((n : Int) == 0) = false := by simp; omega
  go_enter Tryz.func81, Tryz.ntmps81
  go_wp2
  go_loopw [3, 4, 5] (fun s x d wr => ∃ (x' : Nat) (acc : List UInt8), x = .int .i64 x' ∧ s = .string ⟨acc.toArray⟩ ∧ digs x' ++ acc = digs n ∧ x' ≤ n ∧ Below w.heap.size w wr) (fun _ x _ _ => (intOf x).toNat)
  case atStart => exact ⟨n, [], rfl, rfl, by simp, Nat.le_refl _, Below.refl _ _⟩
  case round =>
    obtain ⟨x', acc, rfl, rfl, hk, hb, hbel⟩ := hrel
    by_cases hz : x' = 0
    · subst hz
      go_wp2
      go_ret
      rw [digs_zero, List.nil_append] at hk
      exact ⟨str_eq hk, hbel⟩
    · have hz' : ((x' : Int) != 0) = true := by simp; omega
      have h2 : (0 : Int) ≤ x' := by omega
      have h3 : (x' : Int) ≤ 9223372036854775807 := by omega
      have hl1 := congrArg List.length hk
      have hl2 := digs_len n
      rw [List.length_append] at hl1
      have hl3 : acc.length ≤ 922337203685477581 := by omega
      have HK := Lib.hid hk
      have hcv := conv_one
      clear hk hl1 hl2
      go_wp2
      go_roundw
      case rel => exact ⟨x' / 10, [UInt8.ofNat (48 + x' % 10)] ++ acc, by go_num, by rw [← cat_eq, ← dg_eq], by rw [← HK.out, digs_step x' hz, List.append_assoc], by omega, hbel.alloc hbel.size _⟩
      case measure => simp [intOf]; omega
theorem neg_tdiv (m : Nat) : (-(m : Int)).tdiv 10 = -((m / 10 : Nat) : Int) := by rw [Int.neg_tdiv]; rfl
theorem neg_tmod (m : Nat) : (-(m : Int)).tmod 10 = -((m % 10 : Nat) : Int) := by rw [Int.neg_tmod]; rfl
theorem numtext_spec_neg (n : Nat) (w : World) (h0 : 1 ≤ n) (h1 : (n : Int) ≤ 9223372036854775808) : Calls Tryz.prog 81 #[.int .i64 (-(n : Int))] w fun e w' => e = .returned (.string ⟨(45 :: digs n).toArray⟩) ∧ Below w.heap.size w w' := by
  have hn : ((-(n : Int)) == 0) = false := by simp; omega
  go_enter Tryz.func81, Tryz.ntmps81
  go_wp2
  go_loopw [3, 4, 5] (fun s x d wr => ∃ (x' : Nat) (acc : List UInt8), x = .int .i64 (-(x' : Int)) ∧ s = .string ⟨acc.toArray⟩ ∧ digs x' ++ acc = digs n ∧ x' ≤ n ∧ Below w.heap.size w wr) (fun _ x _ _ => (intOf x).natAbs)
  case atStart => exact ⟨n, [], rfl, rfl, by simp, Nat.le_refl _, Below.refl _ _⟩
  case round =>
    obtain ⟨x', acc, rfl, rfl, hk, hb, hbel⟩ := hrel
    have hl1 := congrArg List.length hk
    have hl2 := digs_len n
    rw [List.length_append] at hl1
    have hl3 : acc.length ≤ 922337203685477581 := by omega
    by_cases hz : x' = 0
    · subst hz
      have HK := Lib.hid hk
      clear hk hl1 hl2
      go_wp2
      go_ret
      have hk := HK.out
      rw [digs_zero, List.nil_append] at hk
      exact ⟨by rw [← hk]; exact congrArg (fun x => Ending.returned (.string x)) (cat_eq [45] acc), hbel⟩
    · have hz' : ((-(x' : Int)) != 0) = true := by simp; omega
      have h2 : (0 : Int) ≤ x' := by omega
      have h3 : (x' : Int) ≤ 9223372036854775808 := by omega
      have HK := Lib.hid hk
      have hcv := conv_one
      clear hk hl1 hl2
      have e1 := neg_tdiv x'
      have e2 := neg_tmod x'
      go_wp2
      · go_roundw
        case rel => exact ⟨x' / 10, [UInt8.ofNat (48 + x' % 10)] ++ acc, by go_num, by rw [← cat_eq, ← dg_eq], by rw [← HK.out, digs_step x' hz, List.append_assoc], by omega, hbel.alloc hbel.size _⟩
        case measure => simp [intOf]; omega
      · have hm : x' % 10 = 0 := by omega
        go_roundw
        case rel => exact ⟨x' / 10, [UInt8.ofNat (48 + x' % 10)] ++ acc, by go_num, by rw [← cat_eq, hm, show (x' : Int) % 10 = 0 by omega]; rfl, by rw [← HK.out, digs_step x' hz, List.append_assoc], by omega, hbel.alloc hbel.size _⟩
        case measure => simp [intOf]; omega
theorem numtext_spec (n : Int) (w : World) (h0 : -9223372036854775808 ≤ n) (h1 : n ≤ 9223372036854775807) : Calls Tryz.prog 81 #[.int .i64 n] w fun e w' => e = .returned (.string ⟨(Lib.itoa n).toArray⟩) ∧ Below w.heap.size w w' := by
  by_cases hp : 1 ≤ n
  · obtain ⟨m, rfl⟩ : ∃ m : Nat, n = m := ⟨n.toNat, by omega⟩
    rw [itoa_pos _ hp]
    exact numtext_spec_pos m w (by omega) h1
  · by_cases hz : n = 0
    · subst hz
      go_enter Tryz.func81, Tryz.ntmps81
      go_wp2
      go_ret
      exact ⟨str_eq (by decide +kernel), Below.refl _ _⟩
    · obtain ⟨m, rfl⟩ : ∃ m : Nat, n = -(m : Int) := ⟨n.natAbs, by omega⟩
      rw [itoa_neg' m (by omega)]
      exact numtext_spec_neg m w (by omega) (by omega)
theorem below_grow {w : World} {k : Nat} {os : Array Obj} : Below w.heap.size w (Sort.grow (w.drewN k) os) := by
  refine ⟨rfl, rfl, rfl, ?_, fun i hi => ?_⟩
  · show w.heap.size ≤ (w.heap ++ os).size
    rw [Array.size_append]; omega
  · show (w.heap ++ os)[i]? = w.heap[i]?
    rw [Array.getElem?_append_left hi]
theorem var_below {P : Program} {w w' : World} {n : String} {cs : Array Value} (hb : Below w.heap.size w w') (h : w.var? P n = some cs) : w'.var? P n = some cs := by
  unfold World.var? at h ⊢
  cases hg : P.globalNamed n with
  | none => simp [hg] at h
  | some g =>
    simp only [hg, Option.bind_some] at h ⊢
    have hlt : g < w.heap.size := by
      rcases Nat.lt_or_ge g w.heap.size with h' | h'
      · exact h'
      · simp [Array.getElem?_eq_none h'] at h
    rw [hb.block g hlt]
    exact h
theorem numtext_impl (n : Int) (w : World) (h0 : -9223372036854775808 ≤ n) (h1 : n ≤ 9223372036854775807) (htab : Lib.TabIs Tryz.prog w "internal/strconv.uint64pow10" .u64 Lib.pow10Tab) : Calls Tryz.prog 171 #[.int .i64 n] w fun e w' => e = .returned (.string ⟨(Lib.itoa n).toArray⟩) ∧ Below w.heap.size w w' := by
  go_enter Tryz.func171, Tryz.ntmps171
  go_wp2_with (go_at_call 196; refine (Tryz.strconv_Itoa n h0 h1 _ htab).mono ?_; rintro e w' ⟨rfl, k, os, rfl⟩)
  go_ret
  exact ⟨rfl, below_grow⟩
end Go.Proofs.YtnikcgmbkmbloaaGreatDoor
