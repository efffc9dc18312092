import Derived.Test.YtelehfefhlgbkaaDoorG15
import Derived.StillTailTactics
import Derived.Deep.RegionHeld3
import Derived.Test.YtelehfefhlgbkaaDoorG6
import Derived.Test.YtelehfefhlgbkaaDoorG0
import Derived.WalkKit
import Derived.ProofKit
import Derived.Lib.SmallJoins
import Derived.Deep.Slices
import Derived.Deep.Fields
import Derived.ChangeSame
import Derived.Test.YtelehfefhlgbkaaDoorG4
/- Tokens in the exact laws: equal rows, marks, what is held. -/
namespace Go.Proofs.YtelehfefhlgbkaaDoor
open Go.RowKit
set_option maxRecDepth 100000
/-- only the block of a slice has turned -/
structure OnlyO (a : Option Addr) (w w' : World) : Prop where
  os : w'.os = w.os
  tape : w'.tape = w.tape
  output : w'.output = w.output
  size : w.heap.size ≤ w'.heap.size
  block : ∀ k, k < w.heap.size → a.map (·.block) ≠ some k → w'.heap[k]? = w.heap[k]?
theorem OnlyO.below {N : Nat} {a : Option Addr} {w0 w w' : World} (h : OnlyO a w w') (hb : Below N w0 w) (ha : ∀ k, a.map (·.block) = some k → N ≤ k) (hN : N ≤ w.heap.size) : Below N w0 w' :=
  hb.trans ⟨h.os, h.tape, h.output, Nat.le_trans hN h.size |> fun _ => h.size, fun k hk => h.block k (by omega) (fun e => by have := ha k e; omega)⟩
theorem OwnT.onlyO {w w' : World} {a b : Option Addr} {B cap : Nat} {l : List Tok} (h : OwnT w B b cap l) (ho : OnlyO a w w') (hne : ∀ k, b.map (·.block) = some k → a.map (·.block) ≠ some k) : OwnT w' B b cap l :=
  own_heap h fun g hg => ho.block g (World.ownsRow.lt h g hg).2 (by
    cases b with
    | none => simp [Value.ownBlock] at hg
    | some b => exact hne g (by simpa [Value.ownBlock] using hg))
theorem OnlyO.of_only {g : Nat} {w w' : World} (h : Only g w w') : OnlyO (some ⟨g, 0, none⟩) w w' := ⟨h.os, h.tape, h.output, h.size, fun k hk hne => h.block k hk (fun e => hne (by rw [e]; rfl))⟩
theorem OnlyO.refl (a : Option Addr) (w : World) : OnlyO a w w := ⟨rfl, rfl, rfl, Nat.le_refl _, fun _ _ _ => rfl⟩
/-- marked tokens -/
def mkT (c n : Nat) : List Tok := (List.range n).map fun j => ⟨((c + 4 * j : Nat) : Int), mtx (c + 4 * j + 1), ((c + 4 * j + 2 : Nat) : Int), ((c + 4 * j + 3 : Nat) : Int)⟩
@[simp] theorem mkT_length (c n : Nat) : (mkT c n).length = n := by simp [mkT]
theorem mkT_succ (c n : Nat) : mkT c (n + 1) = mkT c n ++ [⟨((c + 4 * n : Nat) : Int), mtx (c + 4 * n + 1), ((c + 4 * n + 2 : Nat) : Int), ((c + 4 * n + 3 : Nat) : Int)⟩] := by simp [mkT, List.range_succ]
theorem mkT_get (c n j : Nat) (h : j < (mkT c n).length) : (mkT c n)[j] = ⟨((c + 4 * j : Nat) : Int), mtx (c + 4 * j + 1), ((c + 4 * j + 2 : Nat) : Int), ((c + 4 * j + 3 : Nat) : Int)⟩ := by simp [mkT]
theorem set_four (xs zs : List Value) (p : Nat) (v0 v1 v2 v3 : Value) (hx : xs.length = p) (hz : 4 ≤ zs.length) : ((((xs ++ zs).set p v0).set (p + 1) v1).set (p + 2) v2).set (p + 3) v3 = xs ++ [v0, v1, v2, v3] ++ zs.drop 4 := by
  subst hx
  match zs, hz with
  | z0 :: z1 :: z2 :: z3 :: r, _ => simp [List.set_append]
theorem eqTokS_yes (l : List Tok) (w : World) (N : Nat) (a b : Option Addr) (cap cap2 : Nat) (h : TkAt w N a cap l) (h2 : TkAt w N b cap2 l) (hN : N ≤ w.heap.size) (hl : l.length ≤ 9223372036854775807) :
    Calls Tryd.prog 12 #[.slice a l.length cap, .slice b l.length cap2] w fun e w' => e = .returned (.bool true) ∧ Below w.heap.size w w' := by
  have H := Lib.hid h
  have H2 := Lib.hid h2
  clear h h2
  go_enter Tryd.func12, Tryd.ntmps12
  go_wp2
  go_loopw [5] (fun i wr => ∃ i' : Nat, i = .int .i64 i' ∧ i' ≤ l.length ∧ Below w.heap.size w wr) (fun i _ => l.length - (intOf i).toNat)
  case atStart => exact ⟨0, rfl, Nat.zero_le _, Below.refl _ _⟩
  case round =>
    obtain ⟨i', rfl, hi', hb⟩ := hrel
    have HB := Lib.hid hb
    by_cases hlt : i' < l.length
    · obtain ⟨g, o, rfl, hgN, c0, c1, c2, c3⟩ := H.out.cell i' hlt
      obtain ⟨g2, o2, rfl, hgN2, d0, d1, d2, d3⟩ := H2.out.cell i' hlt
      replace c0 := (hb.cell (p := ⟨g, o + i' * 4, none⟩) (by show g < w.heap.size; omega)).trans c0
      replace c1 := (hb.cell (p := ⟨g, o + i' * 4 + 1, none⟩) (by show g < w.heap.size; omega)).trans c1
      replace c2 := (hb.cell (p := ⟨g, o + i' * 4 + 2, none⟩) (by show g < w.heap.size; omega)).trans c2
      replace c3 := (hb.cell (p := ⟨g, o + i' * 4 + 3, none⟩) (by show g < w.heap.size; omega)).trans c3
      replace d0 := (hb.cell (p := ⟨g2, o2 + i' * 4, none⟩) (by show g2 < w.heap.size; omega)).trans d0
      replace d1 := (hb.cell (p := ⟨g2, o2 + i' * 4 + 1, none⟩) (by show g2 < w.heap.size; omega)).trans d1
      replace d2 := (hb.cell (p := ⟨g2, o2 + i' * 4 + 2, none⟩) (by show g2 < w.heap.size; omega)).trans d2
      replace d3 := (hb.cell (p := ⟨g2, o2 + i' * 4 + 3, none⟩) (by show g2 < w.heap.size; omega)).trans d3
      obtain ⟨⟨k, st, n, x⟩, hs⟩ : ∃ s : Tok, s = l[i'] := ⟨_, rfl⟩
      rw [← hs] at c0 c1 c2 c3 d0 d1 d2 d3
      have hc := fun W => eqtok_yes ⟨k, st, n, x⟩ W
      have HC := Lib.hid hc
      clear hs hb hc
      go_wp2_with fail
      go_still_tail 8, (by kernel_rfl)
      go_wp2_with fail
      refine (HC.out _).mono ?_
      rintro e w2 ⟨rfl, hb2⟩
      go_wp2
      go_roundw
      case rel => exact ⟨i' + 1, by go_num, by omega, HB.out.trans (((Below.refl wr.heap.size wr).drew).trans hb2 |>.mono HB.out.size)⟩
      case measure => simp [intOf]; omega
    · go_wp2
      go_ret
      exact ⟨rfl, HB.out⟩
set_option maxHeartbeats 1000000 in
theorem mark_toks (a : Option Addr) (cap : Nat) (l : List Tok) (w : World) (B c : Nat) (h : OwnT w B a cap l) (hl : l.length ≤ 1048576) (hc1 : 1 ≤ c) (hc : c ≤ 100000000) :
    Calls Tryd.prog 13 #[.slice a l.length cap, .int .i64 (c : Nat)] w fun e w' => e = .returned (.int .i64 (c + 4 * l.length : Nat)) ∧ OwnT w' B a cap (mkT c l.length) ∧ OnlyO a w w' := by
  have H0 := Lib.hid (show w.ownsRow B 23 4 (.slice a l.length cap) l.length (tkv l) from h)
  have HBig := Lib.hid (show (c : Int) + 4 * l.length ≤ 200000000 by omega)
  unfold OwnT
  rw [mkT_length]
  rcases h.2 with ⟨hn, h0⟩ | ⟨g, cap', cur, hv, hb, hg, hnc, hcm, hcs, htake⟩
  · replace h0 : l.length = 0 := h0
    obtain rfl : l = [] := List.eq_nil_of_length_eq_zero h0
    clear hn h0 h
    go_enter Tryd.func13, Tryd.ntmps13
    go_wp2
    go_loopw [1, 5] (fun k i wr => k = .int .i64 c ∧ i = .int .i64 0 ∧ wr = w) (fun _ _ _ => 0)
    case atStart => exact ⟨rfl, rfl, rfl⟩
    case round =>
      obtain ⟨rfl, rfl, rfl⟩ := hrel
      go_wp2
      go_ret
      exact ⟨by simp, by simpa [mkT] using H0.out, OnlyO.refl _ _⟩
  · injection hv with h1 h2 h3
    replace h1 : a = some ⟨g, 0, none⟩ := h1
    subst h1
    have HG := Lib.hid (show g < w.heap.size from (World.ownsRow.lt h g rfl).2)
    clear hb hg hnc hcm hcs htake h h2 h3
    go_enter Tryd.func13, Tryd.ntmps13
    go_wp2
    go_loopw [1, 5] (fun k i wr => ∃ (i' c' : Nat), k = .int .i64 c' ∧ i = .int .i64 i' ∧ i' ≤ l.length ∧ c' = c + 4 * i' ∧ Hid (wr.ownsRow B 23 4 (.slice (some ⟨g, 0, none⟩) l.length cap) l.length (tkv (mkT c i') ++ (tkv l).drop (i' * 4))) ∧ Hid (Only g w wr)) (fun _ i _ => l.length - (intOf i).toNat)
    case atStart => exact ⟨0, c, rfl, rfl, Nat.zero_le _, by omega, Lib.hid (by simpa [mkT] using H0.out), Lib.hid (Only.refl _ _)⟩
    case round =>
      obtain ⟨i', c', rfl, rfl, hi', hcc, HO, HB⟩ := hrel
      have HCC := Lib.hid hcc
      have hcb : (c' : Int) ≤ 200000000 := by have := HBig.out; omega
      by_cases hlt : i' < l.length
      · have hfr := HO.out.frozenAt
        have hcell : ∀ c, c < 4 → ∃ u, wr.cell? ⟨g, i' * 4 + c, none⟩ = some u := fun c hc => by
          have h1 : i' * 4 + c < l.length * 4 := by omega
          exact ⟨_, (HO.out.cellAt (i' * 4 + c) h1).trans (List.getElem?_eq_getElem (by rw [HO.out.1]; exact h1))⟩
        obtain ⟨u0, k0⟩ := hcell 0 (by omega)
        rw [Nat.add_zero] at k0
        have cm := fun W => marktext_any (c' + 1) W (by omega) (by omega)
        rw [show ((c' + 1 : Nat) : Int) = (c' : Int) + 1 by omega] at cm
        have HM := Lib.hid cm
        have HO1 := Lib.hid ((HO.out.stored (i' * 4) (.int .i64 c')).1)
        have HB1 := Lib.hid (HB.out.setCell (i' * 4) (.int .i64 c'))
        clear hcell cm hcc
        go_wp2_with fail
        refine (HM.out _).mono ?_
        rintro e w2 ⟨rfl, hb2⟩
        have HO2 := Lib.hid (own_heap HO1.out (w' := w2) (fun q hq => hb2.block q (World.ownsRow.lt HO1.out q hq).2))
        have HB2 := Lib.hid (HB1.out.trans (Only.of_below hb2))
        clear hb2 HO1 HB1 k0 hfr u0
        have hfr := HO2.out.frozenAt
        have hcell : ∀ c, c < 4 → ∃ u, w2.cell? ⟨g, i' * 4 + c, none⟩ = some u := fun c hc => by
          have h1 : i' * 4 + c < l.length * 4 := by omega
          exact ⟨_, (HO2.out.cellAt (i' * 4 + c) h1).trans (List.getElem?_eq_getElem (by rw [HO2.out.1]; exact h1))⟩
        obtain ⟨u1, k1⟩ := hcell 1 (by omega)
        obtain ⟨u2, k2⟩ := hcell 2 (by omega)
        obtain ⟨u3, k3⟩ := hcell 3 (by omega)
        have HR : ∀ v1 v2 v3, Hid (((((w2.setCell ⟨g, i' * 4 + 1, none⟩ v1).setCell ⟨g, i' * 4 + 2, none⟩ v2).setCell ⟨g, i' * 4 + 3, none⟩ v3)).ownsRow B 23 4 (.slice (some ⟨g, 0, none⟩) l.length cap) l.length (tkv (mkT c i') ++ [.int .i64 c', v1, v2, v3] ++ (tkv l).drop ((i' + 1) * 4))) := fun v1 v2 v3 => Lib.hid (by
          have h9 := (((HO2.out.stored (i' * 4 + 1) v1).1.stored (i' * 4 + 2) v2).1.stored (i' * 4 + 3) v3).1
          rw [set_four _ _ _ _ _ _ _ (by rw [tkv_length, mkT_length]) (by simp; omega), List.drop_drop] at h9
          rw [show (i' + 1) * 4 = i' * 4 + 4 by omega]; exact h9)
        have HS : Hid (tkv (mkT c (i' + 1)) = tkv (mkT c i') ++ [.int .i64 (c' : Int), .string ⟨(mtx (c' + 1)).toArray⟩, .int .i64 ((c' : Int) + 1 + 1), .int .i64 ((c' : Int) + 1 + 1 + 1)]) := Lib.hid (by
          rw [mkT_succ, tkv_append, ← HCC.out, show ((c' + 2 : Nat) : Int) = (c' : Int) + 1 + 1 by omega, show ((c' + 3 : Nat) : Int) = (c' : Int) + 1 + 1 + 1 by omega]; rfl)
        clear hcell HO HO2
        generalize (ByteArray.mk (mtx (c' + 1)).toArray) = MT at *
        go_wp2
        refine ⟨⟨i' + 1, c' + 4, by go_num, by go_num, by omega, by have := HCC.out; omega, ?_, Lib.hid (((HB2.out.setCell _ _).setCell _ _).setCell _ _)⟩, ?_⟩
        · rw [HS.out]; exact HR _ _ _
        · simp [intOf]; omega
      · obtain heq : i' = l.length := by omega
        go_wp2
        go_ret
        exact ⟨ret_int (by rw [hcc, heq]), by have := HO.out; rw [heq, List.drop_eq_nil_of_le (by simp), List.append_nil] at this; exact this, OnlyO.of_only HB.out⟩
set_option maxHeartbeats 1000000 in
theorem held_toks (a : Option Addr) (cap n c : Nat) (w : World) (N : Nat) (h : TkAt w N a cap (mkT c n)) (hN : N ≤ w.heap.size) (hl : n ≤ 1048576) (hc : c ≤ 100000000) :
    Calls Tryd.prog 14 #[.slice a n cap, .int .i64 (c : Nat)] w fun e w' => e = .returned (.int .i64 (c + 4 * n : Nat)) ∧ Below w.heap.size w w' := by
  have H := Lib.hid h
  have HBig := Lib.hid (show (c : Int) + 4 * n ≤ 200000000 by omega)
  clear h
  go_enter Tryd.func14, Tryd.ntmps14
  go_wp2
  go_loopw [1, 5] (fun k i wr => ∃ (i' c' : Nat), k = .int .i64 c' ∧ i = .int .i64 i' ∧ i' ≤ n ∧ c' = c + 4 * i' ∧ Hid (Below w.heap.size w wr)) (fun _ i _ => n - (intOf i).toNat)
  case atStart => exact ⟨0, c, rfl, rfl, Nat.zero_le _, by omega, Lib.hid (Below.refl _ _)⟩
  case round =>
    obtain ⟨i', c', rfl, rfl, hi', hcc, HB⟩ := hrel
    have hcb : (c' : Int) ≤ 200000000 := by have := HBig.out; omega
    have HCC := Lib.hid hcc
    by_cases hlt : i' < n
    · have hlt2 : i' < (mkT c n).length := by rw [mkT_length]; exact hlt
      obtain ⟨b, o, rfl, hbN, c0, c1, c2, c3⟩ := H.out.cell i' hlt2
      rw [mkT_get _ _ _ hlt2, ← hcc] at c0 c1 c2 c3
      dsimp only at c0 c1 c2 c3
      rw [show ((c' + 2 : Nat) : Int) = (c' : Int) + 1 + 1 by omega] at c2
      rw [show ((c' + 3 : Nat) : Int) = (c' : Int) + 1 + 1 + 1 by omega] at c3
      replace c0 := (HB.out.cell (p := ⟨b, o + i' * 4, none⟩) (by show b < w.heap.size; omega)).trans c0
      replace c1 := (HB.out.cell (p := ⟨b, o + i' * 4 + 1, none⟩) (by show b < w.heap.size; omega)).trans c1
      replace c2 := (HB.out.cell (p := ⟨b, o + i' * 4 + 2, none⟩) (by show b < w.heap.size; omega)).trans c2
      replace c3 := (HB.out.cell (p := ⟨b, o + i' * 4 + 3, none⟩) (by show b < w.heap.size; omega)).trans c3
      have cm := fun W => marktext_any (c' + 1) W (by omega) (by omega)
      rw [show ((c' + 1 : Nat) : Int) = (c' : Int) + 1 by omega] at cm
      have HM := Lib.hid cm
      have hB := HB.out
      clear cm hcc hlt2
      generalize mtx (c' + 1) = MT at *
      have hmm : ((MT : List UInt8) != MT) = false := by simp
      go_wp2_with fail
      go_region_held3 (fun W' => W'.cell? ⟨b, o + i' * 4 + 1, none⟩ = some (.string ⟨MT.toArray⟩) ∧ W'.cell? ⟨b, o + i' * 4 + 2, none⟩ = some (.int .i64 ((c' : Int) + 1 + 1)) ∧ W'.cell? ⟨b, o + i' * 4 + 3, none⟩ = some (.int .i64 ((c' : Int) + 1 + 1 + 1)) ∧ Below w.heap.size w W') ((refine ⟨?_, ?_, ?_, ?_⟩ <;> first | with_reducible assumption | (with_reducible refine Below.drew ?_; with_reducible assumption) | with_reducible exact keep_below (by with_reducible assumption) (by with_reducible assumption) | with_reducible exact below_tr (by with_reducible assumption) (by with_reducible assumption) | assumption)) ((go_at_call 34; go_split_ands; with_reducible refine (HM.out _).mono ?_; rintro e u1 ⟨rfl, hb1⟩))
      all_goals go_split_ands
      all_goals (have HB1 : Hid (Below w.heap.size w u1) := Lib.hid (by with_reducible assumption))
      all_goals clear hB
      all_goals go_wp2
      all_goals go_roundw
      case rel => exact ⟨i' + 1, c' + 4, by go_num, by go_num, by omega, by have := HCC.out; omega, HB1⟩
      case measure => simp [intOf]; omega
    · obtain rfl : i' = n := by omega
      go_wp2
      go_ret
      exact ⟨ret_int (by rw [hcc]), HB.out⟩
end Go.Proofs.YtelehfefhlgbkaaDoor
/- The tokens that a law is handed. -/
namespace Go.Proofs.YtelehfefhlgbkaaDoor
open Go.RowKit Go.Joins Go.ChangeShapes Go.WideShapes Go.Deep
theorem tk_list_of {α : Type} {P : Nat → α → Prop} : ∀ (n : Nat), (∀ i, i < n → ∃ t, P i t) → ∃ l : List α, l.length = n ∧ ∀ i (h : i < l.length), P i l[i]
  | 0, _ => ⟨[], rfl, fun i h => absurd h (by simp)⟩
  | n + 1, h => by
    obtain ⟨l, hl, hp⟩ := tk_list_of n (fun i hi => h i (by omega))
    obtain ⟨t, ht⟩ := h n (by omega)
    refine ⟨l ++ [t], by simp [hl], fun i hi => ?_⟩
    by_cases hil : i < l.length
    · rw [List.getElem_append_left hil]; exact hp i hil
    · have : i = n := by simp at hi; omega
      subst this
      rw [List.getElem_append_right (by omega)]
      simpa [hl] using ht
section
variable {H : Type} {enc : TypeId × Value → H} {P : Program} {w : World} {base : Nat} {spare : Nat → Bool} {held : Bool}
theorem trod_four {t : TypeId} {f0 f1 f2 f3 : Field} {cs : List Value} {fuel : Nat} {x : DataW H × List MemPlace} (hs : P.underlying t = some (.struct #[f0, f1, f2, f3])) (hone : oneCellFields P #[f0, f1, f2, f3] = true) (hC : P.cellsOf t = 4)
    (h : DataW.trod enc P w base spare held fuel t cs = some x) :
    ∃ (v0 v1 v2 v3 : Value) (y0 y1 y2 y3 : DataW H × List MemPlace) (n : Nat), fuel = n + 1 ∧ cs = [v0, v1, v2, v3] ∧ DataW.trod enc P w base spare held n f0.type [v0] = some y0 ∧ DataW.trod enc P w base spare held n f1.type [v1] = some y1 ∧
      DataW.trod enc P w base spare held n f2.type [v2] = some y2 ∧ DataW.trod enc P w base spare held n f3.type [v3] = some y3 := by
  obtain ⟨xs, n, hfu, _, hcl, hlen, hg⟩ := DataW.trod_struct hs h
  have hC2 := hcl.trans hC
  obtain ⟨o0, k0⟩ := hone_of hone 0 f0 rfl
  obtain ⟨o1, k1⟩ := hone_of hone 1 f1 rfl
  obtain ⟨o2, k2⟩ := hone_of hone 2 f2 rfl
  obtain ⟨o3, k3⟩ := hone_of hone 3 f3 rfl
  match cs, hC2, xs, hlen with
  | [c0, c1, c2, c3], _, [y0, y1, y2, y3], _ =>
    exact ⟨c0, c1, c2, c3, y0, y1, y2, y3, n, hfu, rfl, by simpa [o0, k0] using hg 0 f0 rfl, by simpa [o1, k1] using hg 1 f1 rfl, by simpa [o2, k2] using hg 2 f2 rfl, by simpa [o3, k3] using hg 3 f3 rfl⟩
end
/-- what a token that a law is handed keeps to -/
structure TokIn (t : Tok) : Prop where
  k0 : -9223372036854775808 ≤ t.k
  k1 : t.k ≤ 9223372036854775807
  s : t.s.length ≤ 9223372036854775807
  n0 : -9223372036854775808 ≤ t.n
  n1 : t.n ≤ 9223372036854775807
  x0 : -9223372036854775808 ≤ t.x
  x1 : t.x ≤ 9223372036854775807
section
variable {H : Type} {enc : TypeId × Value → H} {W : World} {base : Nat} {spare : Nat → Bool} {held : Bool}
theorem tok_cells4 : Tryd.prog.cellsOf 34 = 4 := by kernel_rfl
set_option maxRecDepth 100000 in
theorem open_tok_of (fuel : Nat) (cs : List Value) (x : DataW H × List MemPlace) (h : DataW.trod enc Tryd.prog W base spare held fuel 34 cs = some x) :
    ∃ t : Tok, cs = [.int .i64 t.k, .string ⟨t.s.toArray⟩, .int .i64 t.n, .int .i64 t.x] ∧ TokIn t := by
  obtain ⟨v0, v1, v2, v3, y0, y1, y2, y3, n, _, rfl, h0, h1, h2, h3⟩ := trod_four Tryd.underlying34 (by kernel_rfl) tok_cells4 h
  obtain ⟨k, hk, _, wk⟩ := DataW.trod_int Tryd.underlying3 h0
  obtain ⟨s, hs, _, ws⟩ := DataW.trod_string Tryd.underlying9 h1
  obtain ⟨N, hN, _, wN⟩ := DataW.trod_int Tryd.underlying3 h2
  obtain ⟨X, hX, _, wX⟩ := DataW.trod_int Tryd.underlying3 h3
  simp only [List.cons.injEq, and_true] at hk hs hN hX
  subst hk hs hN hX
  refine ⟨⟨k, s.data.toList, N, X⟩, by simp, (wf_le wk).1, (wf_le wk).2, ?_, (wf_le wN).1, (wf_le wN).2, (wf_le wX).1, (wf_le wX).2⟩
  have : s.size = s.data.toList.length := (Array.length_toList (xs := s.data)).symm
  unfold maxLen at ws; show s.data.toList.length ≤ _; omega
set_option maxRecDepth 100000 in
/-- an argument that is a token -/
theorem open_tok {v : Value} {d : DataW H} {p : List MemPlace} {r : Reach} {b0 : Nat} (hv : Value.okWide Tryd.prog W r b0 34 v) (h : DataW.Trod enc Tryd.prog W base spare held 34 v d p) : ∃ t : Tok, v = t.val ∧ TokIn t := by
  obtain ⟨cs, rfl, hsz⟩ := okWide_struct Tryd.underlying34 hv
  obtain ⟨fuel, hf⟩ := h
  obtain ⟨t, hc, ht⟩ := open_tok_of fuel _ _ hf
  refine ⟨t, ?_, ht⟩
  have : cs.toList = [.int .i64 t.k, .string ⟨t.s.toArray⟩, .int .i64 t.n, .int .i64 t.x] := hc
  rw [← Array.toArray_toList (xs := cs), this]
set_option maxRecDepth 100000 in
/-- an argument that is a slice of tokens -/
theorem open_toks {v : Value} {d : DataW H} {p : List MemPlace} {r : Reach} {b0 : Nat} (hv : Value.okWide Tryd.prog W r b0 39 v) (h : DataW.Trod enc Tryd.prog W base spare held 39 v d p) :
    ∃ a cap l, v = .slice a (List.length l) cap ∧ TkAt W W.heap.size a cap l ∧ l.length ≤ 9223372036854775807 ∧ ∀ t ∈ l, TokIn t := by
  obtain ⟨a0, len0, cap0, rfl⟩ := WideShapes.okWide_slice Tryd.underlying39 hv
  obtain ⟨fuel, hf⟩ := h
  rcases DataW.trod_slice Tryd.underlying39 hf with ⟨hc, _⟩ | ⟨a, len, cap, elems, rest, n, hfu, hc, _, _, hlc, hcm, hel, hread, _, _⟩
  · simp only [Value.cells, List.cons.injEq, and_true] at hc
    exact ⟨none, 0, [], hc, TkAt.nil _ _ _ _, by simp, by simp⟩
  · rw [tok_cells4] at hread
    have hsp : 0 < len → a.spot = none := by
      intro h0
      have key := hread 0 h0
      rw [List.getElem?_eq_getElem (by omega)] at key
      obtain ⟨cs', h1, h2⟩ := Option.bind_eq_some_iff.1 key
      obtain ⟨T, rfl, _⟩ := open_tok_of n _ _ h2
      obtain ⟨_, _, hat⟩ := World.cells?_some h1
      simpa [Addr.add] using World.cell?_spot (hat 0 (by omega))
    obtain ⟨l, hl, hp⟩ := tk_list_of (P := fun i (T : Tok) => ∃ b o, a = ⟨b, o, none⟩ ∧ b < W.heap.size ∧ (W.cell? ⟨b, o + i * 4, none⟩ = some (.int .i64 T.k) ∧ W.cell? ⟨b, o + i * 4 + 1, none⟩ = some (.string ⟨T.s.toArray⟩) ∧ W.cell? ⟨b, o + i * 4 + 2, none⟩ = some (.int .i64 T.n) ∧ W.cell? ⟨b, o + i * 4 + 3, none⟩ = some (.int .i64 T.x)) ∧ TokIn T) len (fun i hi => by
      have key := hread i hi
      rw [List.getElem?_eq_getElem (by omega)] at key
      obtain ⟨cs', h1, h2⟩ := Option.bind_eq_some_iff.1 key
      obtain ⟨T, rfl, hin⟩ := open_tok_of n _ _ h2
      obtain ⟨_, _, hat⟩ := World.cells?_some h1
      obtain ⟨b, off, spot⟩ := a
      obtain rfl : spot = none := hsp (by omega)
      have ha : ∀ j, j < 4 → W.cell? ⟨b, off + i * 4 + j, none⟩ = [Value.int .i64 T.k, .string ⟨T.s.toArray⟩, .int .i64 T.n, .int .i64 T.x][j]? := fun j hj => by
        have := hat j hj
        rw [addr_add, addr_add] at this
        exact this
      exact ⟨T, b, off, rfl, cell_lt (p := ⟨b, off + i * 4 + 0, none⟩) ((ha 0 (by omega)).trans rfl), ⟨(ha 0 (by omega)).trans rfl, (ha 1 (by omega)).trans rfl, (ha 2 (by omega)).trans rfl, (ha 3 (by omega)).trans rfl⟩, hin⟩)
    simp only [Value.cells, List.cons.injEq, and_true] at hc
    refine ⟨some a, cap, l, by rw [hc, hl], ⟨by omega, fun j hj => ?_⟩, ?_, fun t ht => ?_⟩
    · obtain ⟨b, o, rfl, hb, hc, _⟩ := hp j hj
      exact ⟨b, o, rfl, hb, hc⟩
    · unfold maxLen at hcm; omega
    · obtain ⟨j, hj, rfl⟩ := List.getElem_of_mem ht
      obtain ⟨b, o, _, hb, hc, hwf⟩ := hp j hj
      exact hwf
end
end Go.Proofs.YtelehfefhlgbkaaDoor
/- Tokens in the exact laws: sizes and copies. -/
namespace Go.Proofs.YtelehfefhlgbkaaDoor
open Go.RowKit
set_option maxRecDepth 100000
/-- what is left of a bound -/
def lft (n left : Nat) : Int := if n ≤ left then ((left - n : Nat) : Int) else -1
theorem totok_any (t : Tok) (w : World) : Calls Tryd.prog 17 #[t.val] w fun e w' => e = .returned t.val ∧ Below w.heap.size w w' := by
  obtain ⟨k, s, n, x⟩ := t
  show Calls Tryd.prog 17 #[.agg #[.int .i64 k, .string ⟨s.toArray⟩, .int .i64 n, .int .i64 x]] w _
  go_enter Tryd.func17, Tryd.ntmps17
  go_wp2
  refine bodyPost_ret (v := .agg #[.int .i64 k, .string ⟨s.toArray⟩, .int .i64 n, .int .i64 x]) (by simp [results, Tryd.results17, go_sem]) rfl ⟨rfl, ?_⟩
  exact (((Below.refl _ _).alloc (Nat.le_refl _) _).alloc (by simp) _).alloc (by simp; omega) _
theorem sztok_any (t : Tok) (left : Nat) (w : World) (hs : t.s.length ≤ 9223372036854775807) (hl : left ≤ 1048576) : Calls Tryd.prog 15 #[t.val, .int .i64 left] w fun e w' => e = .returned (.int .i64 (lft t.s.length left)) ∧ Below w.heap.size w w' := by
  obtain ⟨k, s, n, x⟩ := t
  simp only at hs ⊢
  have hsz := size_l s
  show Calls Tryd.prog 15 #[.agg #[.int .i64 k, .string ⟨s.toArray⟩, .int .i64 n, .int .i64 x], .int .i64 left] w _
  by_cases h : s.length ≤ left
  · have hr : lft s.length left = (left : Int) - s.length := by unfold lft; rw [if_pos h]; omega
    have h2 : ¬ ((left : Int) - s.length < 0) := by omega
    rw [hr]
    generalize (ByteArray.mk s.toArray) = S at *
    go_enter Tryd.func15, Tryd.ntmps15
    go_wp2
    go_ret
    exact ⟨rfl, vbox _ _⟩
  · have hr : lft s.length left = -1 := by unfold lft; rw [if_neg h]
    have h2 : (left : Int) - s.length < 0 := by omega
    rw [hr]
    generalize (ByteArray.mk s.toArray) = S at *
    go_enter Tryd.func15, Tryd.ntmps15
    go_wp2
    go_ret
    exact ⟨rfl, vbox _ _⟩
/-- the size of tokens: their number and the bytes of their strings -/
def szT (l : List Tok) : Nat := l.length + (l.map fun t => t.s.length).sum
/-- what is left behind the first i tokens -/
theorem sum_take_le (l : List Tok) (i : Nat) : ((l.take i).map fun t => t.s.length).sum ≤ (l.map fun t => t.s.length).sum := by
  induction l generalizing i with
  | nil => simp
  | cons t l ih =>
    cases i with
    | zero => simp
    | succ i => rw [List.take_succ_cons]; simp only [List.map_cons, List.sum_cons]; have := ih i; omega
theorem sum_take_succ {l : List Tok} {i : Nat} (h : i < l.length) : ((l.take (i + 1)).map fun t => t.s.length).sum = ((l.take i).map fun t => t.s.length).sum + (l[i]).s.length := by
  rw [List.take_succ_eq_append_getElem h, List.map_append, List.sum_append]
  simp only [List.map_cons, List.map_nil, List.sum_cons, List.sum_nil, Nat.add_zero]
set_option maxHeartbeats 1000000 in
theorem sztoks_any (l : List Tok) (a : Option Addr) (cap : Nat) (w : World) (N : Nat) (h : TkAt w N a cap l) (hN : N ≤ w.heap.size) (hll : l.length ≤ 9223372036854775807) (hs : ∀ t ∈ l, t.s.length ≤ 9223372036854775807) :
    Calls Tryd.prog 19 #[.slice a l.length cap, .int .i64 1048576] w fun e w' => e = .returned (.int .i64 (lft (szT l) 1048576)) ∧ Below w.heap.size w w' := by
  by_cases hl : l.length ≤ 1048576
  rotate_left
  · have hr : lft (szT l) 1048576 = -1 := by unfold lft szT; rw [if_neg (by omega)]
    have h2 : (1048576 : Int) - l.length < 0 := by omega
    rw [hr]
    go_enter Tryd.func19, Tryd.ntmps19
    go_wp2
    go_ret
    exact ⟨rfl, Below.refl _ _⟩
  have H := Lib.hid h
  have HNN := Lib.hid hN
  have h2 : ¬ ((1048576 : Int) - l.length < 0) := by omega
  have hlen : (l.length : Int) ≤ 1048576 := by omega
  have CZ := Lib.hid (fun (i left : Nat) (hi : i < l.length) (hlf : left ≤ 1048576) (W : World) => sztok_any l[i] left W (hs _ (List.getElem_mem hi)) hlf)
  have HBIG := Lib.hid (fun (i : Nat) (hi : i < l.length) (hb : ¬ l.length + ((l.take (i + 1)).map fun t => t.s.length).sum ≤ 1048576) => show lft (szT l) 1048576 = -1 by
    have := sum_take_le l (i + 1)
    unfold lft szT; rw [if_neg (by omega)])
  clear h hN hs hll
  go_enter Tryd.func19, Tryd.ntmps19
  go_wp2
  go_loopw [1, 5] (fun k i wr => ∃ i' c' : Nat, k = .int .i64 c' ∧ i = .int .i64 i' ∧ i' ≤ l.length ∧ Hid (c' + l.length + ((l.take i').map fun t => t.s.length).sum = 1048576) ∧ Hid (Below w.heap.size w wr)) (fun _ i _ => l.length - (intOf i).toNat)
  case atStart => exact ⟨0, 1048576 - l.length, by congr 1; omega, rfl, Nat.zero_le _, Lib.hid (by simp; omega), Lib.hid (Below.refl _ _)⟩
  case round =>
    obtain ⟨i', c', rfl, rfl, hi', HC, HB⟩ := hrel
    by_cases hlt : i' < l.length
    · obtain ⟨b, o, rfl, hbN, c0, c1, c2, c3⟩ := H.out.cell i' hlt
      replace c0 := (HB.out.cell (p := ⟨b, o + i' * 4, none⟩) (by have := HNN.out; show b < w.heap.size; omega)).trans c0
      replace c1 := (HB.out.cell (p := ⟨b, o + i' * 4 + 1, none⟩) (by have := HNN.out; show b < w.heap.size; omega)).trans c1
      replace c2 := (HB.out.cell (p := ⟨b, o + i' * 4 + 2, none⟩) (by have := HNN.out; show b < w.heap.size; omega)).trans c2
      replace c3 := (HB.out.cell (p := ⟨b, o + i' * 4 + 3, none⟩) (by have := HNN.out; show b < w.heap.size; omega)).trans c3
      have cz := CZ.out i' c' hlt (by have := HC.out; omega) wr
      have hsum := sum_take_succ hlt
      have hbig := HBIG.out i' hlt
      rw [hsum] at hbig
      have HSM := Lib.hid hsum
      generalize l[i'] = t at *
      obtain ⟨k, st, n, x⟩ := t
      simp only [Tok.val] at cz c0 c1 c2 c3 hbig HSM
      clear hsum
      by_cases hf : st.length ≤ c'
      · rw [show lft st.length c' = ((c' - st.length : Nat) : Int) by unfold lft; rw [if_pos hf]] at cz
        have hneg : ¬ (((c' - st.length : Nat) : Int) < 0) := by omega
        have HC2 : Hid (c' - st.length + l.length + ((l.take (i' + 1)).map fun t => t.s.length).sum = 1048576) := Lib.hid (by have := HC.out; rw [HSM.out]; omega)
        generalize c' - st.length = d at *
        clear hbig hf
        have CZ1 := Lib.hid cz
        clear cz
        go_wp2_with fail
        refine CZ1.out.mono ?_
        rintro e w2 ⟨rfl, hb2⟩
        have HB2 := Lib.hid (HB.out.trans (hb2.mono HB.out.size))
        clear hb2 CZ1 c0 c1 c2 c3
        go_wp2
        go_roundw
        case rel => exact ⟨i' + 1, d, rfl, by go_num, by omega, HC2, HB2⟩
        case measure => simp [intOf]; omega
      · rw [show lft st.length c' = -1 by unfold lft; rw [if_neg hf]] at cz
        have HR := Lib.hid (hbig (by have := HC.out; omega))
        clear hbig hf
        have CZ1 := Lib.hid cz
        clear cz
        go_wp2_with fail
        refine CZ1.out.mono ?_
        rintro e w2 ⟨rfl, hb2⟩
        have HB2 := Lib.hid (HB.out.trans (hb2.mono HB.out.size))
        clear hb2 CZ1 c0 c1 c2 c3
        go_wp2
        go_ret
        exact ⟨by rw [HR.out]; rfl, HB2.out⟩
    · have heq : i' = l.length := by omega
      have HR : Hid (lft (szT l) 1048576 = c') := Lib.hid (by
        have := HC.out
        rw [heq, List.take_length] at this
        unfold lft szT; rw [if_pos (by omega)]; omega)
      clear heq
      go_wp2
      go_ret
      exact ⟨by rw [HR.out]; rfl, HB.out⟩
theorem totoks_any (w : World) (N : Nat) (a : Option Addr) (cap : Nat) (l : List Tok) (h : TkAt w N a cap l) (hN : N ≤ w.heap.size) (hl : l.length ≤ 1048576) :
    Calls Tryd.prog 21 #[.slice a l.length cap] w fun e w' => ∃ a' cap', e = .returned (.slice a' l.length cap') ∧ OwnT w' w.heap.size a' cap' l ∧ Below w.heap.size w w' := by
  obtain ⟨i0, hi, hz0, hz1, hz2⟩ := info_parts tokenInfo
  have H := Lib.hid h
  clear h
  go_enter Tryd.func21, Tryd.ntmps21
  go_wp2_with (at_make; refine wpList_make_full _ rfl _ _ _ rfl w.heap.size 23 i0 (.agg #[.int .i64 0, .string ⟨#[]⟩, .int .i64 0, .int .i64 0]) 4 Tryd.underlying28 hi hz0 hz1 _ _ _ _ l.length rfl rfl rfl rfl ?b2 ?b3 ?b4 ?_)
  case b2 => rw [hz2]; omega
  case b3 => unfold maxLen; omega
  case b4 => exact Nat.le_refl _
  intro w1 hown hgrow
  obtain ⟨z, hzl, hown⟩ : ∃ z : List Value, z.length = l.length * 4 ∧ w1.ownsRow w.heap.size 23 4 (.slice (some ⟨w.heap.size, 0, none⟩) l.length l.length) l.length z :=
    ⟨_, by rw [Array.length_toList, size_madeCells], hown⟩
  go_wp2
  go_loopw [4] (fun i wr => ∃ i' : Nat, i = .int .i64 i' ∧ i' ≤ l.length ∧ wr.ownsRow w.heap.size 23 4 (.slice (some ⟨w.heap.size, 0, none⟩) l.length l.length) l.length (tkv (l.take i') ++ z.drop (i' * 4)) ∧ Below w.heap.size w wr) (fun i _ => l.length - (intOf i).toNat)
  case atStart => exact ⟨0, rfl, Nat.zero_le _, by simpa using hown, grown_below0 hgrow (by simp)⟩
  case round =>
    obtain ⟨i', rfl, hi', hown', hb⟩ := hrel
    have HO := Lib.hid hown'
    have HB := Lib.hid hb
    clear hown hgrow
    by_cases hlt : i' < l.length
    · obtain ⟨b, o, rfl, hbN, c0, c1, c2, c3⟩ := H.out.cell i' hlt
      replace c0 := (hb.cell (p := ⟨b, o + i' * 4, none⟩) (by show b < w.heap.size; omega)).trans c0
      replace c1 := (hb.cell (p := ⟨b, o + i' * 4 + 1, none⟩) (by show b < w.heap.size; omega)).trans c1
      replace c2 := (hb.cell (p := ⟨b, o + i' * 4 + 2, none⟩) (by show b < w.heap.size; omega)).trans c2
      replace c3 := (hb.cell (p := ⟨b, o + i' * 4 + 3, none⟩) (by show b < w.heap.size; omega)).trans c3
      have HTK : Hid (tkv (l.take (i' + 1)) = tkv (l.take i') ++ [.int .i64 (l[i']).k, .string ⟨(l[i']).s.toArray⟩, .int .i64 (l[i']).n, .int .i64 (l[i']).x]) := Lib.hid (by rw [List.take_succ_eq_append_getElem hlt, tkv_append]; rfl)
      have CT := Lib.hid (fun W => totok_any l[i'] W)
      have CT' := CT.out
      obtain ⟨⟨k, st, n, x⟩, hs⟩ : ∃ s : Tok, s = l[i'] := ⟨_, rfl⟩
      rw [← hs] at c0 c1 c2 c3 HTK CT'
      simp only [Tok.val] at CT' c0 c1 c2 c3
      have hlen : (tkv (l.take i')).length = i' * 4 := by rw [tkv_length, List.length_take]; omega
      have HL := Lib.hid hlen
      have CT := Lib.hid CT'
      clear hs hown' hb hlen CT'
      go_wp2_with fail
      refine (CT.out _).mono ?_
      rintro e w2 ⟨rfl, hb2⟩
      have hOR := own_heap HO.out (w' := w2) (fun g hg => hb2.block g (World.ownsRow.lt HO.out g hg).2)
      have hcell : ∀ c, c < 4 → ∃ u, w2.cell? ⟨w.heap.size, i' * 4 + c, none⟩ = some u := fun c hc => by
        have h1 : i' * 4 + c < l.length * 4 := by omega
        exact ⟨_, (hOR.cellAt (i' * 4 + c) h1).trans (List.getElem?_eq_getElem (by rw [hOR.1]; exact h1))⟩
      obtain ⟨u0, k0⟩ := hcell 0 (by omega)
      obtain ⟨u1, k1⟩ := hcell 1 (by omega)
      obtain ⟨u2, k2⟩ := hcell 2 (by omega)
      obtain ⟨u3, k3⟩ := hcell 3 (by omega)
      rw [Nat.add_zero] at k0
      have hfr := hOR.frozenAt
      have HB2 := Lib.hid hb2
      have HOR := Lib.hid hOR
      clear hb2 hOR hcell c0 c1 c2 c3
      go_wp2
      go_roundw
      case rel =>
        refine ⟨i' + 1, by go_num, by omega, ?_, bset (bset (bset (bset (HB.out.trans (HB2.out.mono HB.out.size)) (Nat.le_refl _)) (Nat.le_refl _)) (Nat.le_refl _)) (Nat.le_refl _)⟩
        have h4 := ((((HOR.out.stored (i' * 4) (.int .i64 k)).1.stored (i' * 4 + 1) (.string ⟨st.toArray⟩)).1.stored (i' * 4 + 2) (.int .i64 n)).1.stored (i' * 4 + 3) (.int .i64 x)).1
        rw [set_four _ _ _ _ _ _ _ HL.out (by rw [List.length_drop]; omega), List.drop_drop] at h4
        rw [HTK.out, show (i' + 1) * 4 = i' * 4 + 4 by omega]
        exact h4
      case measure => simp [intOf]; omega
    · obtain rfl : i' = l.length := by omega
      clear hown' hb
      go_wp2
      go_ret
      refine ⟨_, _, rfl, ?_, HB.out⟩
      have h1 := HO.out
      rw [List.take_of_length_le (Nat.le_refl _), List.drop_eq_nil_of_le (by omega), List.append_nil] at h1
      exact h1
end Go.Proofs.YtelehfefhlgbkaaDoor
