/- What the program's splitNumber returns: the parts of a number's text, taken by gotos from state to state. -/
import Derived.Test.YtmjlbglnlpfadaaDoorByteIn
import Derived.Test.YtmjlbglnlpfadaaDoorGotos
namespace Go.Proofs.YtmjlbglnlpfadaaDoor
open Go.RowKit
/-- The world while the parts are being gathered: the result's cells, the parts' cells. -/
abbrev stW (w : World) (neg eneg : Bool) (W F E : List UInt8) : World :=
  (w.alloc (.cells #[.bool false, .bool false, .string ⟨#[]⟩, .string ⟨#[]⟩, .string ⟨#[]⟩] 55)).alloc (.cells #[.bool neg, .bool eneg, .string ⟨W.toArray⟩, .string ⟨F.toArray⟩, .string ⟨E.toArray⟩] 55)
def stA (l : List UInt8) (w : World) (v1 : Value) (u : Nat → Value) : Act := ⟨#[.string ⟨l.toArray⟩, v1, u 2, u 3, .pointer (some ⟨w.heap.size, 0, none⟩), .int .i64 0, .bool false, .pointer (some ⟨w.heap.size + 1, 0, none⟩), u 8, u 9, u 10, u 11, u 12, u 13, u 14, u 15, u 16, u 17, u 18, u 19, u 20, u 21, u 22, u 23, u 24, u 25, u 26, u 27, u 28, u 29, u 30, u 31, u 32, u 33, u 34, u 35, u 36, u 37, u 38, u 39, u 40, u 41, u 42, u 43, u 44, u 45, u 46, u 47, u 48, u 49, u 50, u 51, u 52, u 53, u 54, u 55, u 56, u 57, u 58, u 59, u 60, u 61, u 62, u 63, u 64, u 65, u 66, u 67, u 68, u 69, u 70, u 71, u 72, u 73, u 74, u 75, u 76, u 77, u 78, u 79, u 80, u 81, u 82], []⟩
/-- What holds at a label. -/
def AtL (l : List UInt8) (i : Nat) (w : World) (lab : Nat) (a : Act) (W' : World) : Prop :=
  ∃ (v1 : Value) (u : Nat → Value) (pos : Nat) (neg eneg : Bool) (W F E : List UInt8), a = stA l w v1 u ∧ v1 = .int .i64 pos ∧ pos ≤ l.length ∧ W' = stW w neg eneg W F E ∧
    ((lab = 0 ∧ eneg = false ∧ F = [] ∧ E = [] ∧ parts l i = partsF l neg W pos) ∨ (lab = 2 ∧ eneg = false ∧ E = [] ∧ parts l i = partsE l neg W F pos) ∨
      (lab = 3 ∧ parts l i = ⟨neg, eneg, W, F, E, pos, true⟩) ∨ (lab = 1 ∧ parts l i = noParts pos))
theorem atL_mk {l : List UInt8} {i : Nat} {w : World} {lab : Nat} {a : Act} {W' : World} (pos : Nat) (neg eneg : Bool) (W F E : List UInt8) (h : a = stA l w (a.tmps.getD 1 undef) (fun k => a.tmps.getD k undef)) (hv : a.tmps.getD 1 undef = .int .i64 pos)
    (hpos : pos ≤ l.length) (hw : W' = stW w neg eneg W F E)
    (hc : (lab = 0 ∧ eneg = false ∧ F = [] ∧ E = [] ∧ parts l i = partsF l neg W pos) ∨ (lab = 2 ∧ eneg = false ∧ E = [] ∧ parts l i = partsE l neg W F pos) ∨
      (lab = 3 ∧ parts l i = ⟨neg, eneg, W, F, E, pos, true⟩) ∨ (lab = 1 ∧ parts l i = noParts pos)) : AtL l i w lab a W' :=
  ⟨_, _, pos, neg, eneg, W, F, E, h, hv, hpos, hw, hc⟩
def rank : Nat → Nat
  | 0 => 3
  | 2 => 2
  | 3 => 1
  | _ => 0
def partsVal (p : Parts) : Value := .agg #[.bool p.neg, .bool p.eneg, .string ⟨p.whole.toArray⟩, .string ⟨p.frac.toArray⟩, .string ⟨p.exp.toArray⟩]
theorem str_index (l : List UInt8) (i : Nat) (h : i < l.length) (w : World) : (Instr.index 9 (.string ⟨l.toArray⟩) (.int .i64 i)).run Tryd.prog w = .ok (.int .u8 (l[i]).toNat) w := by
  have := run_index_string (P := Tryd.prog) w 9 ⟨l.toArray⟩ .i64 i Tryd.underlying9
  rw [dif_pos (by rw [size_l]; omega)] at this
  rw [this]
  congr 3
theorem str_indexZ (l : List UInt8) (i : Nat) (z : Int) (hz : z = i) (h : i < l.length) (w : World) : (Instr.index 9 (.string ⟨l.toArray⟩) (.int .i64 z)).run Tryd.prog w = .ok (.int .u8 (l[i]).toNat) w := by subst hz; exact str_index l i h w
theorem byte_beq45 (c : UInt8) : ((c.toNat : Int) == 45) = (c == 45) := by
  rw [Bool.eq_iff_iff, beq_iff_eq, beq_iff_eq]
  constructor
  · intro h; exact UInt8.toNat_inj.1 (by have e : (45 : UInt8).toNat = 45 := rfl
                                         omega)
  · intro h; subst h; rfl
theorem atD_zero {l : List UInt8} {i : Nat} (h : atC l i 48 = true) : atD l i = true := by
  have hl := atC_lt h
  rw [atC_get hl] at h
  rw [atD_get hl, show l[i] = 48 by simpa using h]
  decide
theorem cut_zero {l : List UInt8} {i : Nat} (h : atC l i 48 = true) : cut l i (i + 1) = [48] := by
  have hl := atC_lt h
  rw [atC_get hl] at h
  unfold cut
  rw [List.drop_eq_getElem_cons hl, show i + 1 - i = 1 by omega, show l[i] = 48 by simpa using h]
  rfl
theorem cut_ne {l : List UInt8} {i : Nat} (h : atD l i = true) : (cut l i (dEnd l i) == []) = false := by
  have h1 := dEnd_ge l (i + 1)
  have h2 := dEnd_step h
  have h3 := cut_len (i := i) (dEnd_ge l i) (dEnd_le (l := l) (i := i) (by have := atD_lt h; omega))
  cases hc : cut l i (dEnd l i) with
  | nil => rw [hc] at h3; simp at h3; omega
  | cons a b => rfl
def SplitPost (l : List UInt8) (i : Nat) (w : World) (e : Ending) (w' : World) : Prop := e = .returned (.tuple #[partsVal (parts l i), .int .i64 (parts l i).next, .bool (parts l i).ok]) ∧ Below w.heap.size w w'
set_option maxRecDepth 100000 in
set_option maxHeartbeats 4000000 in
theorem split_any (l : List UInt8) (i : Nat) (w : World) (hi : i ≤ l.length) (hl : l.length ≤ 1048576) :
    Calls Tryd.prog 34 #[.string ⟨l.toArray⟩, .int .i64 i] w (SplitPost l i w) := by
  have hL : (l.length : Int) ≤ 1048576 := by omega
  go_enter Tryd.func34, Tryd.ntmps34
  go_wp2
  refine wp_scope_falls (AtL l i w) rank ?_ ?_
  · intro lab a W' h ih
    obtain ⟨v1, u, pos, neg, eneg, W, F, E, rfl, rfl, hpos, rfl, hcase⟩ := h
    rcases hcase with ⟨rfl, rfl, rfl, rfl, hp⟩ | ⟨rfl, rfl, rfl, hp⟩ | ⟨rfl, hp⟩ | ⟨rfl, hp⟩
    · -- the point
      refine ⟨_, rfl, ?_⟩
      have HP := Lib.hid hp
      have IH := Lib.hid ih
      have cb := bytein_any l [46] pos
      rw [inS_one] at cb
      clear hp ih
      unfold stA
      cases he : atC l pos 46
      · rw [he] at cb
        have hq := HP.out
        unfold partsF at hq
        rw [he, if_neg (by decide)] at hq
        have HQ := Lib.hid hq
        clear hq he
        go_wp2_with fail
        refine (cb _ (by omega)).mono ?_
        rintro e w' ⟨rfl, rfl⟩
        go_wp2_with fail
        refine wp_goto ?_
        exact (show AtL l i w 2 _ _ ∧ rank 2 < rank 0 from ⟨atL_mk pos neg false W [] [] rfl rfl hpos rfl (.inr (.inl ⟨rfl, rfl, rfl, HQ.out⟩)), by decide⟩)
      · rw [he] at cb
        have hlt : pos + 1 ≤ l.length := atC_lt he
        have hlt1 : (pos : Int) + 1 ≤ l.length := by omega
        have hq := HP.out
        unfold partsF at hq
        rw [he, if_pos rfl] at hq
        have cd := fun w1 => digitsat_any l (pos + 1) w1 hlt hl
        rw [show ((pos + 1 : Nat) : Int) = (pos : Int) + 1 by omega] at cd
        cases hd : atD l (pos + 1)
        · rw [hd, if_neg (by decide)] at hq
          rw [dEnd_stop hd, cut_nil] at cd
          have HQ := Lib.hid hq
          clear hq he hd
          go_wp2_with fail
          refine (cb _ (by omega)).mono ?_
          rintro e w' ⟨rfl, rfl⟩
          go_wp2_with fail
          refine (cd _).mono ?_
          rintro e w' ⟨rfl, rfl⟩
          go_wp2_with fail
          refine wp_goto ?_
          exact (show AtL l i w 1 _ _ ∧ rank 1 < rank 0 from ⟨atL_mk (pos + 1) neg false W [] [] rfl rfl hlt rfl (.inr (.inr (.inr ⟨rfl, HQ.out⟩))), by decide⟩)
        · rw [hd, if_pos rfl] at hq
          have hne := cut_ne hd
          obtain ⟨F, hF⟩ : ∃ F, F = cut l (pos + 1) (dEnd l (pos + 1)) := ⟨_, rfl⟩
          have hlen : dEnd l (pos + 1) = pos + 1 + F.length := by rw [hF, cut_len (dEnd_ge _ _) (dEnd_le hlt)]; have := dEnd_ge l (pos + 1); omega
          have hle := dEnd_le hlt
          rw [← hF] at cd hq hne
          rw [hlen] at hq hle
          have HQ := Lib.hid hq
          have hle2 : (pos : Int) + 1 + F.length ≤ l.length := by omega
          clear hq he hd hF hlen
          go_wp2_with fail
          refine (cb _ (by omega)).mono ?_
          rintro e w' ⟨rfl, rfl⟩
          go_wp2_with fail
          refine (cd _).mono ?_
          rintro e w' ⟨rfl, rfl⟩
          go_wp2_with fail
          rename_i hK
          refine wp_label (hK _ _ ?_)
          exact fall_of (IH.out 2 _ _ (by decide) (atL_mk (pos + 1 + F.length) neg false W F [] rfl rfl hle rfl (.inr (.inl ⟨rfl, rfl, rfl, HQ.out⟩)))) rfl (fun _ _ _ h => ⟨h.1, Nat.lt_trans h.2 (by decide)⟩)
    · -- the exponent
      refine ⟨_, rfl, ?_⟩
      have HP := Lib.hid hp
      have IH := Lib.hid ih
      have cb := bytein_any l [101, 69] pos
      rw [inS_two] at cb
      clear hp ih
      unfold stA
      cases he : (atC l pos 101 || atC l pos 69)
      · rw [he] at cb
        have hq := HP.out
        unfold partsE at hq
        rw [he, if_neg (by decide)] at hq
        have HQ := Lib.hid hq
        clear hq he
        go_wp2_with (go_at_call 57; refine (cb _ (by omega)).mono ?_; rintro e w' ⟨rfl, rfl⟩)
        refine wp_goto ?_
        exact (show AtL l i w 3 _ _ ∧ rank 3 < rank 2 from ⟨atL_mk pos neg false W F [] rfl rfl hpos rfl (.inr (.inr (.inl ⟨rfl, HQ.out⟩))), by decide⟩)
      · rw [he] at cb
        have hlt : pos + 1 ≤ l.length := by
          rw [Bool.or_eq_true] at he
          rcases he with he | he <;> exact atC_lt he
        have hq := HP.out
        unfold partsE at hq
        rw [he, if_pos rfl] at hq
        simp only at hq
        have cs := bytein_any l [43, 45] (pos + 1)
        rw [inS_two, show ((pos + 1 : Nat) : Int) = (pos : Int) + 1 by omega] at cs
        have hlt1 : (pos : Int) + 1 ≤ l.length := by omega
        cases hs : (atC l (pos + 1) 43 || atC l (pos + 1) 45)
        · have h45 : atC l (pos + 1) 45 = false := by rw [Bool.or_eq_false_iff] at hs; exact hs.2
          rw [hs] at hq cs
          rw [h45] at hq
          simp only [Bool.false_eq_true, ↓reduceIte] at hq
          clear hs h45
          have cd := fun w1 => digitsat_any l (pos + 1) w1 hlt hl
          rw [show ((pos + 1 : Nat) : Int) = (pos : Int) + 1 by omega] at cd
          cases hd : atD l (pos + 1)
          · rw [hd] at hq
            simp only [Bool.false_eq_true, ↓reduceIte] at hq
            rw [dEnd_stop hd, cut_nil] at cd
            have HQ := Lib.hid hq
            clear hq he hd
            go_wp2_with fail
            refine (cb _ (by omega)).mono ?_
            rintro e w' ⟨rfl, rfl⟩
            go_wp2_with fail
            refine (cs _ (by omega)).mono ?_
            rintro e w' ⟨rfl, rfl⟩
            go_wp2_with fail
            refine (cd _).mono ?_
            rintro e w' ⟨rfl, rfl⟩
            go_wp2_with fail
            refine wp_goto ?_
            exact (show AtL l i w 1 _ _ ∧ rank 1 < rank 2 from ⟨atL_mk (pos + 1) neg false W F [] rfl rfl hlt rfl (.inr (.inr (.inr ⟨rfl, HQ.out⟩))), by decide⟩)
          · rw [hd] at hq
            simp only [↓reduceIte] at hq
            have hne := cut_ne hd
            obtain ⟨E, hE⟩ : ∃ E, E = cut l (pos + 1) (dEnd l (pos + 1)) := ⟨_, rfl⟩
            have hlen : dEnd l (pos + 1) = pos + 1 + E.length := by rw [hE, cut_len (dEnd_ge _ _) (dEnd_le hlt)]; have := dEnd_ge l (pos + 1); omega
            have hle := dEnd_le hlt
            rw [← hE] at cd hq hne
            rw [hlen] at hq hle
            have HQ := Lib.hid hq
            have hle2 : (pos : Int) + 1 + E.length ≤ l.length := by omega
            clear hq he hd hE hlen
            go_wp2_with fail
            refine (cb _ (by omega)).mono ?_
            rintro e w' ⟨rfl, rfl⟩
            go_wp2_with fail
            refine (cs _ (by omega)).mono ?_
            rintro e w' ⟨rfl, rfl⟩
            go_wp2_with fail
            refine (cd _).mono ?_
            rintro e w' ⟨rfl, rfl⟩
            go_wp2_with fail
            rename_i hK
            refine wp_label (hK _ _ ?_)
            exact fall_of (IH.out 3 _ _ (by decide) (atL_mk (pos + 1 + E.length) neg false W F E rfl rfl hle rfl (.inr (.inr (.inl ⟨rfl, HQ.out⟩))))) rfl (fun _ _ _ h => ⟨h.1, Nat.lt_trans h.2 (by decide)⟩)
        · rw [hs] at hq cs
          simp only [Bool.false_eq_true, ↓reduceIte] at hq
          have hlt2 : pos + 2 ≤ l.length := by
            rw [Bool.or_eq_true] at hs
            rcases hs with hs | hs <;> exact atC_lt hs
          have hltI : pos + 1 < l.length := hlt2
          have ix := fun W1 => str_indexZ l (pos + 1) ((pos : Int) + 1) (by omega) hltI W1
          have hen : (((l[pos + 1]).toNat : Int) == 45) = atC l (pos + 1) 45 := by rw [atC_get hltI, byte_beq45]
          have IX := Lib.hid ix
          have ZZ : (pos : Int) + 1 + 1 = (pos : Int) + 2 := by omega
          clear hs
          have cd := fun w1 => digitsat_any l (pos + 2) w1 hlt2 hl
          rw [show ((pos + 2 : Nat) : Int) = (pos : Int) + 2 by omega] at cd
          cases hd : atD l (pos + 2)
          · rw [hd] at hq
            simp only [Bool.false_eq_true, ↓reduceIte] at hq
            rw [dEnd_stop hd, cut_nil] at cd
            have HQ := Lib.hid hq
            clear hq he hd
            go_wp2_with fail
            refine (cb _ (by omega)).mono ?_
            rintro e w' ⟨rfl, rfl⟩
            go_wp2_with fail
            refine (cs _ (by omega)).mono ?_
            rintro e w' ⟨rfl, rfl⟩
            have ix := IX.out
            go_wp2_with fail
            refine (cd _).mono ?_
            rintro e w' ⟨rfl, rfl⟩
            go_wp2_with fail
            refine wp_goto ?_
            exact (show AtL l i w 1 _ _ ∧ rank 1 < rank 2 from ⟨atL_mk (pos + 2) neg (atC l (pos + 1) 45) W F [] rfl rfl hlt2 rfl (.inr (.inr (.inr ⟨rfl, HQ.out⟩))), by decide⟩)
          · rw [hd] at hq
            simp only [↓reduceIte] at hq
            have hne := cut_ne hd
            obtain ⟨E, hE⟩ : ∃ E, E = cut l (pos + 2) (dEnd l (pos + 2)) := ⟨_, rfl⟩
            have hlen : dEnd l (pos + 2) = pos + 2 + E.length := by rw [hE, cut_len (dEnd_ge _ _) (dEnd_le hlt2)]; have := dEnd_ge l (pos + 2); omega
            have hle := dEnd_le hlt2
            rw [← hE] at cd hq hne
            rw [hlen] at hq hle
            have HQ := Lib.hid hq
            have hle2 : (pos : Int) + 2 + E.length ≤ l.length := by omega
            clear hq he hd hE hlen
            go_wp2_with fail
            refine (cb _ (by omega)).mono ?_
            rintro e w' ⟨rfl, rfl⟩
            go_wp2_with fail
            refine (cs _ (by omega)).mono ?_
            rintro e w' ⟨rfl, rfl⟩
            have ix := IX.out
            go_wp2_with fail
            refine (cd _).mono ?_
            rintro e w' ⟨rfl, rfl⟩
            go_wp2_with fail
            rename_i hK
            refine wp_label (hK _ _ ?_)
            exact fall_of (IH.out 3 _ _ (by decide) (atL_mk (pos + 2 + E.length) neg (atC l (pos + 1) 45) W F E rfl rfl hle rfl (.inr (.inr (.inl ⟨rfl, HQ.out⟩))))) rfl (fun _ _ _ h => ⟨h.1, Nat.lt_trans h.2 (by decide)⟩)
    · refine ⟨_, rfl, ?_⟩
      have HP := Lib.hid hp
      clear hp ih
      unfold stA
      go_wp2
      exact (show bodyPost Tryd.prog Tryd.f34 (SplitPost l i w) Exit.ret _ _ from bodyPost_ret (v := .tuple #[.agg #[.bool neg, .bool eneg, .string ⟨W.toArray⟩, .string ⟨F.toArray⟩, .string ⟨E.toArray⟩], .int .i64 pos, .bool true]) (by simp [results, Tryd.results34, go_sem]) rfl ⟨by rw [HP.out]; rfl, ((Below.refl _ _).alloc (Nat.le_refl _) _).alloc (by simp) _⟩)
    · refine ⟨_, rfl, ?_⟩
      have HP := Lib.hid hp
      clear hp ih
      unfold stA
      go_wp2
      exact (show bodyPost Tryd.prog Tryd.f34 (SplitPost l i w) Exit.ret _ _ from bodyPost_ret (v := .tuple #[.agg #[.bool false, .bool false, .string ⟨#[]⟩, .string ⟨#[]⟩, .string ⟨#[]⟩], .int .i64 pos, .bool false]) (by simp [results, Tryd.results34, go_sem]) rfl ⟨by rw [HP.out]; rfl, ((Below.refl _ _).alloc (Nat.le_refl _) _).alloc (by simp) _⟩)
  · intro ih
    have IH := Lib.hid ih
    have c0 := bytein_any l [45] i
    rw [inS_one] at c0
    have hI : (i : Int) ≤ l.length := by omega
    clear ih
    cases h0 : atC l i 45
    · rw [h0] at c0
      have hlt : i ≤ l.length := hi
      have hltI : (i : Int) ≤ l.length := by omega
      have hq : parts l i = partsW l false (i) := by unfold parts; rw [h0]; rfl
      unfold partsW at hq
      have cz := bytein_any l [48] (i)
      have cd := fun w1 => digitsat_any l (i) w1 hlt hl
      rw [inS_one] at cz
      rw [show ((i : Nat) : Int) = (i : Int) by omega] at cz cd
      clear h0
      cases hz : atC l (i) 48
      · rw [hz] at cz
        cases hd : atD l (i)
        · rw [hd, if_neg (by decide)] at hq
          rw [dEnd_stop hd, cut_nil] at cd
          have HQ := Lib.hid hq
          clear hq hz hd
          go_wp2_with fail
          refine (c0 _ (by omega)).mono ?_
          rintro e w' ⟨rfl, rfl⟩
          go_wp2_with fail
          refine (cz _ (by omega)).mono ?_
          rintro e w' ⟨rfl, rfl⟩
          go_wp2_with fail
          refine (cd _).mono ?_
          rintro e w' ⟨rfl, rfl⟩
          go_wp2_with fail
          refine wp_goto ?_
          exact (show AtL l i w 1 _ _ from atL_mk (i) false false [] [] [] rfl rfl hlt rfl (.inr (.inr (.inr ⟨rfl, HQ.out⟩))))
        · rw [hd, if_pos rfl] at hq
          have hne := cut_ne hd
          have hwe : wEnd l (i) = dEnd l (i) := by unfold wEnd; rw [hz, if_neg (by decide)]
          rw [hwe] at hq
          obtain ⟨F, hF⟩ : ∃ F, F = cut l (i) (dEnd l (i)) := ⟨_, rfl⟩
          have hlen : dEnd l (i) = i + F.length := by rw [hF, cut_len (dEnd_ge _ _) (dEnd_le hlt)]; have := dEnd_ge l (i); omega
          have hle := dEnd_le hlt
          rw [← hF] at cd hq hne
          rw [hlen] at hq hle
          have HQ := Lib.hid hq
          have hle2 : (i : Int) + F.length ≤ l.length := by omega
          clear hq hz hd hF hlen hwe
          go_wp2_with fail
          refine (c0 _ (by omega)).mono ?_
          rintro e w' ⟨rfl, rfl⟩
          go_wp2_with fail
          refine (cz _ (by omega)).mono ?_
          rintro e w' ⟨rfl, rfl⟩
          go_wp2_with fail
          refine (cd _).mono ?_
          rintro e w' ⟨rfl, rfl⟩
          go_wp2_with fail
          rename_i hK
          refine wp_label (hK _ _ ?_)
          exact fall_of (IH.out 0 _ _ (atL_mk (i + F.length) false false F [] [] rfl rfl hle rfl (.inl ⟨rfl, rfl, rfl, rfl, HQ.out⟩))) rfl (fun _ _ _ h => h.1)
      · rw [hz] at cz
        have hlt2 := atC_lt hz
        have hlt2I : (i : Int) + 1 ≤ l.length := by omega
        have hd : atD l (i) = true := atD_zero hz
        have hwe : wEnd l (i) = i + 1 := by unfold wEnd; rw [hz, if_pos rfl]
        rw [hd, if_pos rfl, hwe, cut_zero hz] at hq
        have HQ := Lib.hid hq
        clear hq hz hd hwe
        go_wp2_with fail
        refine (c0 _ (by omega)).mono ?_
        rintro e w' ⟨rfl, rfl⟩
        go_wp2_with fail
        refine (cz _ (by omega)).mono ?_
        rintro e w' ⟨rfl, rfl⟩
        go_wp2_with fail
        refine wp_goto ?_
        exact (show AtL l i w 0 _ _ from atL_mk (i + 1) false false [48] [] [] rfl rfl hlt2 rfl (.inl ⟨rfl, rfl, rfl, rfl, HQ.out⟩))
    · rw [h0] at c0
      have hlt : i + 1 ≤ l.length := atC_lt h0
      have hltI : (i : Int) + 1 ≤ l.length := by omega
      have hq : parts l i = partsW l true (i + 1) := by unfold parts; rw [h0]; rfl
      unfold partsW at hq
      have cz := bytein_any l [48] (i + 1)
      have cd := fun w1 => digitsat_any l (i + 1) w1 hlt hl
      rw [inS_one] at cz
      rw [show ((i + 1 : Nat) : Int) = (i : Int) + 1 by omega] at cz cd
      clear h0
      cases hz : atC l (i + 1) 48
      · rw [hz] at cz
        cases hd : atD l (i + 1)
        · rw [hd, if_neg (by decide)] at hq
          rw [dEnd_stop hd, cut_nil] at cd
          have HQ := Lib.hid hq
          clear hq hz hd
          go_wp2_with fail
          refine (c0 _ (by omega)).mono ?_
          rintro e w' ⟨rfl, rfl⟩
          go_wp2_with fail
          refine (cz _ (by omega)).mono ?_
          rintro e w' ⟨rfl, rfl⟩
          go_wp2_with fail
          refine (cd _).mono ?_
          rintro e w' ⟨rfl, rfl⟩
          go_wp2_with fail
          refine wp_goto ?_
          exact (show AtL l i w 1 _ _ from atL_mk (i + 1) true false [] [] [] rfl rfl hlt rfl (.inr (.inr (.inr ⟨rfl, HQ.out⟩))))
        · rw [hd, if_pos rfl] at hq
          have hne := cut_ne hd
          have hwe : wEnd l (i + 1) = dEnd l (i + 1) := by unfold wEnd; rw [hz, if_neg (by decide)]
          rw [hwe] at hq
          obtain ⟨F, hF⟩ : ∃ F, F = cut l (i + 1) (dEnd l (i + 1)) := ⟨_, rfl⟩
          have hlen : dEnd l (i + 1) = i + 1 + F.length := by rw [hF, cut_len (dEnd_ge _ _) (dEnd_le hlt)]; have := dEnd_ge l (i + 1); omega
          have hle := dEnd_le hlt
          rw [← hF] at cd hq hne
          rw [hlen] at hq hle
          have HQ := Lib.hid hq
          have hle2 : (i : Int) + 1 + F.length ≤ l.length := by omega
          clear hq hz hd hF hlen hwe
          go_wp2_with fail
          refine (c0 _ (by omega)).mono ?_
          rintro e w' ⟨rfl, rfl⟩
          go_wp2_with fail
          refine (cz _ (by omega)).mono ?_
          rintro e w' ⟨rfl, rfl⟩
          go_wp2_with fail
          refine (cd _).mono ?_
          rintro e w' ⟨rfl, rfl⟩
          go_wp2_with fail
          rename_i hK
          refine wp_label (hK _ _ ?_)
          exact fall_of (IH.out 0 _ _ (atL_mk (i + 1 + F.length) true false F [] [] rfl rfl hle rfl (.inl ⟨rfl, rfl, rfl, rfl, HQ.out⟩))) rfl (fun _ _ _ h => h.1)
      · rw [hz] at cz
        have hlt2 := atC_lt hz
        have hlt2I : (i : Int) + 1 + 1 ≤ l.length := by omega
        have hd : atD l (i + 1) = true := atD_zero hz
        have hwe : wEnd l (i + 1) = i + 1 + 1 := by unfold wEnd; rw [hz, if_pos rfl]
        rw [hd, if_pos rfl, hwe, cut_zero hz] at hq
        have HQ := Lib.hid hq
        clear hq hz hd hwe
        go_wp2_with fail
        refine (c0 _ (by omega)).mono ?_
        rintro e w' ⟨rfl, rfl⟩
        go_wp2_with fail
        refine (cz _ (by omega)).mono ?_
        rintro e w' ⟨rfl, rfl⟩
        go_wp2_with fail
        refine wp_goto ?_
        exact (show AtL l i w 0 _ _ from atL_mk (i + 1 + 1) true false [48] [] [] rfl rfl hlt2 rfl (.inl ⟨rfl, rfl, rfl, rfl, HQ.out⟩))
end Go.Proofs.YtmjlbglnlpfadaaDoor
