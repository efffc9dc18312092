import Derived.Test.YtpkmlfmkgodhkaaNamesOf
import Derived.Test.YtpkmlfmkgodhkaaSameSpec
import Derived.RangeFuncNested
import Derived.RangeFuncBound
import Derived.RangeFuncCalls
import Derived.RangeFuncLeaves
import Derived.Shelf.Abstract
import Derived.Shelf.RegionOpen
import Derived.WalkKit
import Derived.OwnWalkIn
import Derived.TacticsInMore
import Derived.LoopNIn
import Derived.LoopIn
import Derived.Test.YtpkmlfmkgodhkaaTree
import Derived.Test.YtpkmlfmkgodhkaaWalk
import Derived.Test.YtpkmlfmkgodhkaaUniq
import Derived.Deep.RegionHeld3
import Derived.Test.YtpkmlfmkgodhkaaKeepVal
import Derived.Test.YtpkmlfmkgodhkaaCopyImpl
/- The value of a name: plain, Lookup of the model. -/
namespace Go.Proofs.Ytpkmlfmkgodhkaa
open Go.RowKit
set_option maxRecDepth 100000
/-- the value of the last pair whose name is m -/
def lookL : List PT → PT → Option PT
  | n :: v :: l, m => (lookL l m).or (if n.same m then some v else none)
  | _, _ => none
def zeroPT : PT := .mk 0 0 0 [] []
def PT.even : PT → Bool
  | .mk k _ _ _ l => k == 10 && l.length % 2 == 0
def PT.look (p m : PT) : PT × Bool := match p with
  | .mk k n x s l => if (PT.mk k n x s l).even = true then (match lookL l m with | some v => (v, true) | none => (zeroPT, false)) else (zeroPT, false)
theorem lookL_none (l : List PT) (m : PT) (h : ∀ j (hj : 2 * j + 1 < l.length), (l[2 * j]).same m = false) : lookL l m = none := by
  induction l using evens.induct with
  | case1 => rfl
  | case2 => rfl
  | case3 x y l ih =>
    simp only [lookL]
    have h0 : x.same m = false := h 0 (by simp)
    rw [ih (fun j hj => by
      have := h (j + 1) (by simp; omega)
      simpa [Nat.mul_add] using this), h0]
    rfl
theorem lookL_some (l : List PT) (m : PT) (j : Nat) (hj : 2 * j + 1 < l.length) (h : (l[2 * j]).same m = true) (h2 : ∀ i (hi : 2 * i + 1 < l.length), j < i → (l[2 * i]).same m = false) : lookL l m = some l[2 * j + 1] := by
  induction l using evens.induct generalizing j with
  | case1 => simp at hj
  | case2 => simp at hj
  | case3 x y l ih =>
    simp only [lookL]
    cases j with
    | zero =>
      have h0 : x.same m = true := h
      rw [lookL_none l m (fun i hi => by
        have := h2 (i + 1) (by simp; omega) (by omega)
        simpa [Nat.mul_add] using this), h0]
      rfl
    | succ j =>
      have hj' : 2 * j + 1 < l.length := by simp at hj; omega
      have := ih j hj' (by simpa [Nat.mul_add] using h) (fun i hi hji => by
        have := h2 (i + 1) (by simp; omega) (by omega)
        simpa [Nat.mul_add] using this)
      rw [this]
      simp [Nat.mul_add]
theorem lookL_mem {l : List PT} {m v : PT} (h : lookL l m = some v) : v ∈ l := by
  induction l using evens.induct with
  | case1 => cases h
  | case2 => cases h
  | case3 x y l ih =>
    simp only [lookL] at h
    cases hl : lookL l m with
    | some u =>
      rw [hl] at h
      obtain rfl : u = v := by simpa using h
      exact List.mem_cons_of_mem _ (List.mem_cons_of_mem _ (ih hl))
    | none =>
      rw [hl] at h
      cases hs : x.same m
      · rw [hs] at h; cases h
      · rw [hs] at h
        obtain rfl : y = v := by simpa using h
        simp
theorem cnt_mem' {l : List PT} {t : PT} (h : t ∈ l) : t.cnt ≤ PT.cntL l := by
  induction l with
  | nil => cases h
  | cons u l ih =>
    simp only [PT.cntL]
    rcases List.mem_cons.1 h with rfl | h
    · omega
    · have := ih h; omega
theorem look_wf (p m : PT) (h : p.Wf) (hc : p.cnt ≤ 1048578) : (p.look m).1.Wf ∧ (p.look m).1.cnt ≤ 1048578 := by
  obtain ⟨k, n, x, s, l⟩ := p
  have hz : zeroPT.Wf ∧ zeroPT.cnt ≤ 1048578 := ⟨.mk (by omega) (by omega) (by omega) (by simp) (by simp) (by simp), by simp [zeroPT, PT.cnt, PT.cntL]⟩
  simp only [PT.look]
  split
  · cases hl : lookL l m with
    | none => exact hz
    | some v =>
      have hm := lookL_mem hl
      have := cnt_mem' hm
      simp only [PT.cnt] at hc
      exact ⟨h.sub' v hm, by show v.cnt ≤ _; omega⟩
  · exact hz
theorem even_iff {k n x : Int} {s : List UInt8} {l : List PT} : (PT.mk k n x s l).even = true ↔ k = 10 ∧ l.length % 2 = 0 := by simp [PT.even]
theorem l7map_spec (T : AT) (w : World) (hl : T.l.length ≤ 9223372036854775807) : Calls Try.prog 101 #[T.val] w fun e w' => e = .returned (.bool T.pt.even) ∧ Below w.heap.size w w' := by
  obtain ⟨k, n, x, s, a, cap, l⟩ := T
  have hev : (AT.mk k n x s a cap l).pt.even = (k == 10 && l.length % 2 == 0) := by simp [AT.pt, PT.even]
  rw [hev]
  simp only [AT.l] at hl
  show Calls Try.prog 101 #[.agg #[.int .i64 k, .int .i64 n, .int .i64 x, .string ⟨s.toArray⟩, .slice a l.length cap]] w _
  by_cases hk : k = 10
  · subst hk
    have hm : ((l.length : Int) % 2 == 0) = (l.length % 2 == 0) := by
      cases h : l.length % 2 == 0
      · rw [beq_eq_false_iff_ne] at *; omega
      · rw [beq_iff_eq] at *; omega
    rw [show ((10 : Int) == 10 && l.length % 2 == 0) = (l.length % 2 == 0) by simp]
    cases hq : l.length % 2 == 0
    · rw [hq] at hm
      go_enter Try.func101, Try.ntmps101
      go_wp2
      go_ret
      exact ⟨rfl, vbox _ _⟩
    · rw [hq] at hm
      go_enter Try.func101, Try.ntmps101
      go_wp2
      go_ret
      exact ⟨rfl, vbox _ _⟩
  · have hkb : (k == 10) = false := by simpa using hk
    rw [hkb]
    go_enter Try.func101, Try.ntmps101
    go_wp2
    go_ret
    exact ⟨rfl, vbox _ _⟩
theorem haspairs_impl (T : AT) (w : World) (hl : T.l.length ≤ 9223372036854775807) : Calls Try.prog 95 #[T.val] w fun e w' => e = .returned (.bool T.pt.even) ∧ Below w.heap.size w w' := by
  obtain ⟨k, n, x, s, a, cap, l⟩ := T
  have hev : (AT.mk k n x s a cap l).pt.even = (k == 10 && l.length % 2 == 0) := by simp [AT.pt, PT.even]
  rw [hev]
  simp only [AT.l] at hl
  show Calls Try.prog 95 #[.agg #[.int .i64 k, .int .i64 n, .int .i64 x, .string ⟨s.toArray⟩, .slice a l.length cap]] w _
  by_cases hk : k = 10
  · subst hk
    have hm : ((l.length : Int) % 2 == 0) = (l.length % 2 == 0) := by
      cases h : l.length % 2 == 0
      · rw [beq_eq_false_iff_ne] at *; omega
      · rw [beq_iff_eq] at *; omega
    rw [show ((10 : Int) == 10 && l.length % 2 == 0) = (l.length % 2 == 0) by simp]
    cases hq : l.length % 2 == 0
    · rw [hq] at hm
      go_enter Try.func95, Try.ntmps95
      go_wp2
      go_ret
      exact ⟨rfl, vbox _ _⟩
    · rw [hq] at hm
      go_enter Try.func95, Try.ntmps95
      go_wp2
      go_ret
      exact ⟨rfl, vbox _ _⟩
  · have hkb : (k == 10) = false := by simpa using hk
    rw [hkb]
    go_enter Try.func95, Try.ntmps95
    go_wp2
    go_ret
    exact ⟨rfl, vbox _ _⟩
/-- what Lookup hands on -/
def LookPost (w : World) (r : PT × Bool) (e : Ending) (w' : World) : Prop := ∃ X : AT, X.pt = r.1 ∧ e = .returned (.tuple #[X.val, .bool r.2]) ∧ X.Own w' w.heap.size ∧ X.blks.Nodup ∧ Below w.heap.size w w'
def zeroAT : AT := .mk 0 0 0 [] none 0 []
theorem zeroAT_pt : zeroAT.pt = zeroPT := by simp [zeroAT, zeroPT, AT.pt, AT.ptL]
theorem zbox_cells {w W : World} {z : Nat} (hz : VC w z 0 0 0 ⟨#[]⟩ none 0 0) (hf : ∀ o, w.frozen? ⟨z, o, none⟩ = false) (hb : Below w.heap.size w W) : VC W z 0 0 0 ⟨#[]⟩ none 0 0 ∧ ∀ o, W.frozen? ⟨z, o, none⟩ = false :=
  ⟨hz.blw hb, fun o => by rw [frozen_blk' (hb.block z (cell_lt hz.c0))]; exact hf o⟩
theorem three_boxes (w : World) (k n x k2 n2 x2 : Int) (s s2 : ByteArray) (a a2 : Option Addr) (len cap len2 cap2 : Nat) (t : TypeId) :
    let W := ((w.alloc (.cells #[.int .i64 k, .int .i64 n, .int .i64 x, .string s, .slice a len cap] t)).alloc (.cells #[.int .i64 k2, .int .i64 n2, .int .i64 x2, .string s2, .slice a2 len2 cap2] t)).alloc (.cells #[.int .i64 0, .int .i64 0, .int .i64 0, .string ⟨#[]⟩, .slice none 0 0] t)
    VC W w.heap.size k n x s a len cap ∧ VC W (w.heap.size + 1) k2 n2 x2 s2 a2 len2 cap2 ∧ VC W (w.heap.size + 2) 0 0 0 ⟨#[]⟩ none 0 0 ∧ (∀ o, W.frozen? ⟨w.heap.size + 2, o, none⟩ = false) ∧ Below w.heap.size w W ∧ W.heap.size = w.heap.size + 3 := by
  refine ⟨⟨?_, ?_, ?_, ?_, ?_⟩, ⟨?_, ?_, ?_, ?_, ?_⟩, ⟨?_, ?_, ?_, ?_, ?_⟩, fun o => ?_, boxes3 w _ _ _, by simp⟩ <;> simp [go_sem]
set_option maxHeartbeats 4000000 in
theorem look_spec (T U : AT) (w : World) (N : Nat) (hwf : T.pt.Wf) (hwf2 : U.pt.Wf) (hin : T.In w N) (hin2 : U.In w N) (hsz : T.pt.sz ≤ 1048576) (hN : N ≤ w.heap.size) : Calls Try.prog 47 #[T.val, U.val] w (LookPost w (T.pt.look U.pt)) := by
  have hll : T.l.length ≤ 1048576 := by have := len_le_sz T; omega
  have hcp : ∀ t ∈ T.l, t.pt.sz ≤ 1048576 := fun t ht => by
    have h1 := szL_ge ht
    have h2 : PT.szL (AT.ptL T.l) ≤ T.pt.sz := by obtain ⟨k, n, x, s, a, cap, l⟩ := T; simp [AT.pt, PT.sz, AT.l]; omega
    omega
  have hsw : ∀ t ∈ T.l, t.pt.Wf := fun t ht => by
    obtain ⟨k, n, x, s, a, cap, l⟩ := T
    exact hwf.sub' t.pt (by rw [AT.ptL_eq]; exact List.mem_map_of_mem ht)
  have HMAP := Lib.hid (fun (w1 : World) => l7map_spec T w1 (by omega))
  have HCP := Lib.hid (fun (t : AT) (ht : t ∈ T.l) (w1 : World) (hb : Below w.heap.size w w1) => l6Copy_any t (hcp t ht) w1 N ((hin.lv'.sub t ht).blw hb hN) (Nat.le_trans hN hb.size))
  have HSM := Lib.hid (fun (t : AT) (ht : t ∈ T.l) (w1 : World) (hb : Below w.heap.size w w1) => same_spec t (hsw t ht) U w1 N hwf2 ((hin.lv'.sub t ht).blw hb hN) (hin2.blw hb hN) (Nat.le_trans hN hb.size))
  have H := Lib.hid hin.lv'
  have hlook : T.pt.look U.pt = if T.pt.even = true then (match lookL (AT.ptL T.l) U.pt with | some v => (v, true) | none => (zeroPT, false)) else (zeroPT, false) := by
    obtain ⟨k, n, x, s, a, cap, l⟩ := T
    rfl
  have hev : T.pt.even = true → T.l.length % 2 = 0 := fun h => by
    obtain ⟨k, n, x, s, a, cap, l⟩ := T
    have := (even_iff (k := k) (n := n) (x := x) (s := s) (l := AT.ptL l)).1 h
    simpa [AT.l] using this.2
  obtain ⟨p, hp⟩ : ∃ p, p = U.pt := ⟨_, rfl⟩
  rw [← hp] at hlook HSM ⊢
  obtain ⟨r, hr⟩ : ∃ r, r = T.pt.look p := ⟨_, rfl⟩
  rw [← hr] at hlook ⊢
  have HLK := Lib.hid hlook
  clear hin hin2 hsz hcp hsw hwf hwf2 hp hr hlook
  show Calls Try.prog 47 #[.agg #[.int .i64 T.k, .int .i64 T.n, .int .i64 T.x, .string ⟨T.s.toArray⟩, .slice T.a T.l.length T.cap], .agg #[.int .i64 U.k, .int .i64 U.n, .int .i64 U.x, .string ⟨U.s.toArray⟩, .slice U.a U.l.length U.cap]] w _
  have h3 := three_boxes w T.k T.n T.x U.k U.n U.x ⟨T.s.toArray⟩ ⟨U.s.toArray⟩ T.a U.a T.l.length T.cap U.l.length U.cap 26
  go_enter Try.func47, Try.ntmps47
  go_wp2_with fail
  try dsimp only at h3
  generalize (((w.alloc (.cells #[.int .i64 T.k, .int .i64 T.n, .int .i64 T.x, .string ⟨T.s.toArray⟩, .slice T.a T.l.length T.cap] 26)).alloc (.cells #[.int .i64 U.k, .int .i64 U.n, .int .i64 U.x, .string ⟨U.s.toArray⟩, .slice U.a U.l.length U.cap] 26)).alloc (.cells #[.int .i64 0, .int .i64 0, .int .i64 0, .string ⟨#[]⟩, .slice none 0 0] 26)) = W0 at *
  obtain ⟨hT, hU, hZ, hzf, hB, hz⟩ := h3
  have HB := Lib.hid hB
  have hwz : w.heap.size ≤ W0.heap.size := by omega
  have hz2 : w.heap.size + 2 < W0.heap.size := by omega
  have HX := Lib.hid (And.intro hT (And.intro hU (And.intro hZ hzf)))
  clear hT hU hZ hzf hB hz
  have HZERO : Hid (∀ W : World, Rl W0 W → LookPost w (zeroPT, false) (.returned (.tuple #[.agg #[.int .i64 0, .int .i64 0, .int .i64 0, .string ⟨#[]⟩, .slice none 0 0], .bool false])) (((((W.setCell ⟨w.heap.size + 2, 0, none⟩ (.int .i64 0)).setCell ⟨w.heap.size + 2, 1, none⟩ (.int .i64 0)).setCell ⟨w.heap.size + 2, 2, none⟩ (.int .i64 0)).setCell ⟨w.heap.size + 2, 3, none⟩ (.string ⟨#[]⟩)).setCell ⟨w.heap.size + 2, 4, none⟩ (.slice none 0 0))) := Lib.hid (fun W hW => by
    have hb := HB.out.trans (hW.b.mono HB.out.size)
    exact ⟨zeroAT, zeroAT_pt, rfl, AT.leaf_own _ _ 0 0 0 [], by simp [zeroAT, AT.blks, AT.blksL], bset (bset (bset (bset (bset hb (by omega)) (by omega)) (by omega)) (by omega)) (by omega)⟩)
  have hh : ∀ W : World, Rl W0 W → VC W w.heap.size T.k T.n T.x ⟨T.s.toArray⟩ T.a T.l.length T.cap ∧ VC W (w.heap.size + 1) U.k U.n U.x ⟨U.s.toArray⟩ U.a U.l.length U.cap ∧ VC W (w.heap.size + 2) 0 0 0 ⟨#[]⟩ none 0 0 ∧ (∀ o, W.frozen? ⟨w.heap.size + 2, o, none⟩ = false) := fun W hW =>
    ⟨HX.out.1.blw hW.b, HX.out.2.1.blw hW.b, HX.out.2.2.1.blw hW.b, fun o => by rw [frozen_blk' (hW.b.block _ hz2)]; exact HX.out.2.2.2 o⟩
  have HH := Lib.hid hh
  clear hh HX
  cases he : T.pt.even
  · have HR : Hid (r = (zeroPT, false)) := Lib.hid (by rw [HLK.out, he]; rfl)
    rw [he] at HMAP
    clear hev he HCP HSM
    obtain ⟨⟨c0, c1, c2, c3, c4⟩, -, -, -⟩ := HH.out W0 (Rl.refl _)
    go_wp2_with fail
    go_loopw [6] (fun i wr => i = .int .i64 ((T.l.length : Int) - 2) ∧ wr = W0) (fun _ _ => 0)
    case atStart => exact ⟨rfl, rfl⟩
    case round =>
      obtain ⟨rfl, rfl⟩ := hrel
      by_cases hge : (0 : Int) ≤ (T.l.length : Int) - 2
      · have hd : decide ((0 : Int) ≤ (T.l.length : Int) - 2) = true := by simpa using hge
        go_wp2_with fail
        refine (HMAP.out _).mono ?_
        rintro e w1 ⟨rfl, hb1⟩
        have HR1 := Lib.hid ((Rl.refl wr).below hb1)
        obtain ⟨-, -, ⟨z0, z1, z2, z3, z4⟩, zf⟩ := HH.out w1 HR1.out
        clear hb1
        go_wp2
        refine bodyPost_ret (v := .tuple #[.agg #[.int .i64 0, .int .i64 0, .int .i64 0, .string ⟨#[]⟩, .slice none 0 0], .bool false]) (by simp [results, Try.results47, go_sem, z0, z1, z2, z3, z4]) rfl ?_
        rw [HR.out]; exact HZERO.out w1 HR1.out
      · have hd : decide ((0 : Int) ≤ (T.l.length : Int) - 2) = false := by simpa using hge
        obtain ⟨-, -, ⟨z0, z1, z2, z3, z4⟩, zf⟩ := HH.out wr (Rl.refl _)
        go_wp2
        refine bodyPost_ret (v := .tuple #[.agg #[.int .i64 0, .int .i64 0, .int .i64 0, .string ⟨#[]⟩, .slice none 0 0], .bool false]) (by simp [results, Try.results47, go_sem, z0, z1, z2, z3, z4]) rfl ?_
        rw [HR.out]; exact HZERO.out wr (Rl.refl _)
  · have hm2 := hev he
    rw [he] at HMAP
    have hlook2 : r = match lookL (AT.ptL T.l) p with | some v => (v, true) | none => (zeroPT, false) := by rw [HLK.out, he]; rfl
    have HL := Lib.hid hlook2
    clear hev he hlook2
    obtain ⟨⟨c0, c1, c2, c3, c4⟩, -, -, -⟩ := HH.out W0 (Rl.refl _)
    go_wp2_with fail
    go_loopw [6] (fun i wr => ∃ j : Nat, i = .int .i64 (2 * (j : Int) - 2) ∧ 2 * j ≤ T.l.length ∧ Hid (∀ q (hq : 2 * q + 1 < (AT.ptL T.l).length), j ≤ q → ((AT.ptL T.l)[2 * q]).same p = false) ∧ Hid (Rl W0 wr)) (fun i _ => (intOf i + 2).toNat)
    case atStart => exact ⟨T.l.length / 2, by congr 1; omega, by omega, Lib.hid (fun q hq hj => by rw [AT.ptL_length] at hq; omega), Lib.hid (Rl.refl _)⟩
    case round =>
      obtain ⟨j, rfl, hj, HN, HRl⟩ := hrel
      cases j with
      | zero =>
        have HR : Hid (r = (zeroPT, false)) := Lib.hid (by rw [HL.out, lookL_none _ _ (fun q hq => HN.out q hq (Nat.zero_le _))])
        obtain ⟨-, -, ⟨z0, z1, z2, z3, z4⟩, zf⟩ := HH.out wr HRl.out
        go_wp2
        refine bodyPost_ret (v := .tuple #[.agg #[.int .i64 0, .int .i64 0, .int .i64 0, .string ⟨#[]⟩, .slice none 0 0], .bool false]) (by simp [results, Try.results47, go_sem, z0, z1, z2, z3, z4]) rfl ?_
        rw [HR.out]; exact HZERO.out wr HRl.out
      | succ j =>
        obtain ⟨i, hi⟩ : ∃ i : Nat, i = 2 * j := ⟨_, rfl⟩
        have hiv : 2 * ((j + 1 : Nat) : Int) - 2 = (i : Int) := by omega
        rw [hiv]
        have hlt : i < T.l.length := by omega
        have hlt2 : i + 1 < T.l.length := by omega
        have hge : decide ((0 : Int) ≤ (i : Int)) = true := by simp
        have HI := Lib.hid hi
        obtain ⟨⟨c0, c1, c2, c3, c4⟩, ⟨d0, d1, d2, d3, d4⟩, -, -⟩ := HH.out wr HRl.out
        clear hi hiv hm2
        go_wp2_with fail
        refine (HMAP.out _).mono ?_
        rintro e w1 ⟨rfl, hb1⟩
        have HR1 := Lib.hid (HRl.out.below hb1)
        have HBw := Lib.hid (HB.out.trans (HR1.out.b.mono hwz))
        clear hb1 c0 c1 c2 c3 c4 d0 d1 d2 d3 d4
        obtain ⟨⟨c0, c1, c2, c3, c4⟩, ⟨d0, d1, d2, d3, d4⟩, -, -⟩ := HH.out w1 HR1.out
        obtain ⟨b, o, ha, hbN, hC⟩ := H.out.cell i hlt
        obtain ⟨b', o', ha', hbN', hC'⟩ := H.out.cell (i + 1) hlt2
        rw [ha] at ha'
        injection ha' with ha'
        injection ha' with e1 e2
        subst e1 e2
        have HC := Lib.hid hC
        have HC' := Lib.hid hC'
        have hcall := fun w2 hb => HSM.out T.l[i] (List.getElem_mem hlt) w2 hb
        have hcopy := fun w2 hb => HCP.out T.l[i + 1] (List.getElem_mem hlt2) w2 hb
        have e1 : i < (AT.ptL T.l).length := by rw [AT.ptL_length]; exact hlt
        have e2 : i + 1 < (AT.ptL T.l).length := by rw [AT.ptL_length]; exact hlt2
        have hnext : (T.l[i]).pt.same p = false → ∀ q (hq : 2 * q + 1 < (AT.ptL T.l).length), j ≤ q → ((AT.ptL T.l)[2 * q]).same p = false := fun h q hq hjq => by
          by_cases hq2 : q = j
          · subst hq2
            have hi := HI.out
            subst hi
            rw [ptL_get T.l (2 * q) hlt]; exact h
          · exact HN.out q hq (by omega)
        have hfound : (T.l[i]).pt.same p = true → r = ((T.l[i + 1]).pt, true) := fun h => by
          have hi := HI.out
          subst hi
          rw [HL.out, lookL_some (AT.ptL T.l) p j e2 (by rw [ptL_get T.l (2 * j) hlt]; exact h) (fun q hq hjq => HN.out q hq (by omega)), ptL_get T.l (2 * j + 1) hlt2]
        obtain ⟨V, hV⟩ : ∃ V, V = T.l[i] := ⟨_, rfl⟩
        obtain ⟨V2, hV2⟩ : ∃ V2, V2 = T.l[i + 1] := ⟨_, rfl⟩
        rw [← hV] at HC hcall hnext hfound
        rw [← hV2] at HC' hcopy hfound
        have HCALL := Lib.hid hcall
        have HCOPY := Lib.hid hcopy
        have HNEXT := Lib.hid hnext
        have HFOUND := Lib.hid hfound
        obtain ⟨f0, f1, f2, f3, f4⟩ := HC.out.keep (HBw.out.block b (by omega))
        have hi1 : (i : Int) < T.l.length := by omega
        have hi2 : (i : Int) + 1 < T.l.length := by omega
        have hi0 : (0 : Int) ≤ (i : Int) + 1 := by omega
        have hix : IntKind.i64.wrap ((i : Int) + 1) = (i : Int) + 1 := IntWalk.i64_in _ (by omega)
        rw [ha] at c4
        have HA := Lib.hid ha
        clear hV hV2 hcall hcopy hnext hfound hC hC' e1 e2 ha
        go_wp2_with fail
        refine wp_region_still_tail 6 (by kernel_rfl) (by kernel_rfl) ?_
        simp only [List.take_succ_cons, List.take_zero, List.drop_succ_cons, List.drop_zero]
        repeat still_step
        refine wpStill_nil ?_
        change wpList _ _ _ _ _ (World.drew _)
        have HR2 := Lib.hid HR1.out.drew
        have HB2 := Lib.hid (HBw.out.drew)
        clear c0 c1 c2 c3 c4 d0 d1 d2 d3 d4 f0 f1 f2 f3 f4
        generalize World.drew _ = w2 at *
        go_wp2_with fail
        refine (HCALL.out _ HB2.out).mono ?_
        rintro e w3 ⟨rfl, hb3⟩
        have HR3 := Lib.hid (HR2.out.below hb3)
        have HB3 := Lib.hid (HB.out.trans (HR3.out.b.mono hwz))
        clear hb3
        cases hs : V.pt.same p
        · have HNX := Lib.hid (HNEXT.out hs)
          have hw2 : IntKind.i64.wrap ((i : Int) - 2) = (i : Int) - 2 := IntWalk.i64_in _ (by omega)
          clear hs
          go_wp2
          go_roundw
          case rel => exact ⟨j, by congr 1; have := HI.out; omega, by omega, HNX, HR3⟩
          case measure => simp [intOf]; have := HI.out; omega
        · have HF := Lib.hid (HFOUND.out hs)
          obtain ⟨f0, f1, f2, f3, f4⟩ := HC'.out.keep (HB3.out.block b (by omega))
          obtain ⟨⟨c0, c1, c2, c3, c4⟩, -, -, -⟩ := HH.out w3 HR3.out
          rw [HA.out] at c4
          clear hs
          go_wp2_with fail
          refine (HCOPY.out _ HB3.out).mono ?_
          rintro e w4 ⟨X, hX, rfl, hO, hNd, hb4⟩
          have HR4 := Lib.hid (HR3.out.below hb4)
          have HO := Lib.hid (hO.base HR3.out.z)
          have HND := Lib.hid hNd
          have HXP := Lib.hid hX
          have HB4 := Lib.hid (HB.out.trans (HR4.out.b.mono hwz))
          obtain ⟨-, -, ⟨z0, z1, z2, z3, z4⟩, zf⟩ := HH.out w4 HR4.out
          clear hX hO hNd hb4 c0 c1 c2 c3 c4 f0 f1 f2 f3 f4
          go_wp2
          refine bodyPost_ret (v := .tuple #[.agg #[.int .i64 X.k, .int .i64 X.n, .int .i64 X.x, .string ⟨X.s.toArray⟩, .slice X.a X.l.length X.cap], .bool true]) (by simp [results, Try.results47, go_sem, z0, z1, z2, z3, z4]) rfl ?_
          rw [HF.out]
          refine ⟨X, HXP.out, rfl, ?_, HND.out, ?_⟩
          · exact AT.Own.base (AT.Own.set (AT.Own.set (AT.Own.set (AT.Own.set (AT.Own.set HO.out hz2) hz2) hz2) hz2) hz2) hwz
          · exact bset (bset (bset (bset (bset HB4.out (by omega)) (by omega)) (by omega)) (by omega)) (by omega)
theorem Rl.five {W0 W : World} {B : Nat} {v0 v1 v2 v3 v4 : Value} (h : Rl W0 W) (hB : W0.heap.size ≤ B) : Rl W0 (((((W.setCell ⟨B, 0, none⟩ v0).setCell ⟨B, 1, none⟩ v1).setCell ⟨B, 2, none⟩ v2).setCell ⟨B, 3, none⟩ v3).setCell ⟨B, 4, none⟩ v4) := ((((h.set hB v0).set hB v1).set hB v2).set hB v3).set hB v4
theorem leaf_early {W0 W : World} {B N : Nat} {G : AT} (hR : Rl W0 W) (hB : W0.heap.size ≤ B) (hN : W0.heap.size ≤ N) (hBN : B < N) (hO : G.Own W N) (hnd : G.blks.Nodup) (z0 : W.cell? ⟨B, 0, none⟩ = some (.int .i64 0)) (z1 : W.cell? ⟨B, 1, none⟩ = some (.int .i64 0)) (z2 : W.cell? ⟨B, 2, none⟩ = some (.int .i64 0)) (z3 : W.cell? ⟨B, 3, none⟩ = some (.string ⟨#[]⟩)) (z4 : W.cell? ⟨B, 4, none⟩ = some (.slice none 0 0)) :
    G.Own (((((W.setCell ⟨B, 0, none⟩ (.int .i64 G.k)).setCell ⟨B, 1, none⟩ (.int .i64 G.n)).setCell ⟨B, 2, none⟩ (.int .i64 G.x)).setCell ⟨B, 3, none⟩ (.string ⟨G.s.toArray⟩)).setCell ⟨B, 4, none⟩ (.slice G.a G.l.length G.cap)) W0.heap.size ∧ G.blks.Nodup ∧ B ∉ G.blks ∧ W0.heap.size ≤ B ∧ Rl W0 (((((W.setCell ⟨B, 0, none⟩ (.int .i64 G.k)).setCell ⟨B, 1, none⟩ (.int .i64 G.n)).setCell ⟨B, 2, none⟩ (.int .i64 G.x)).setCell ⟨B, 3, none⟩ (.string ⟨G.s.toArray⟩)).setCell ⟨B, 4, none⟩ (.slice G.a G.l.length G.cap)) ∧ (((((W.setCell ⟨B, 0, none⟩ (.int .i64 G.k)).setCell ⟨B, 1, none⟩ (.int .i64 G.n)).setCell ⟨B, 2, none⟩ (.int .i64 G.x)).setCell ⟨B, 3, none⟩ (.string ⟨G.s.toArray⟩)).setCell ⟨B, 4, none⟩ (.slice G.a G.l.length G.cap)).cell? ⟨B, 0, none⟩ = some (.int .i64 G.k) ∧ (((((W.setCell ⟨B, 0, none⟩ (.int .i64 G.k)).setCell ⟨B, 1, none⟩ (.int .i64 G.n)).setCell ⟨B, 2, none⟩ (.int .i64 G.x)).setCell ⟨B, 3, none⟩ (.string ⟨G.s.toArray⟩)).setCell ⟨B, 4, none⟩ (.slice G.a G.l.length G.cap)).cell? ⟨B, 1, none⟩ = some (.int .i64 G.n) ∧ (((((W.setCell ⟨B, 0, none⟩ (.int .i64 G.k)).setCell ⟨B, 1, none⟩ (.int .i64 G.n)).setCell ⟨B, 2, none⟩ (.int .i64 G.x)).setCell ⟨B, 3, none⟩ (.string ⟨G.s.toArray⟩)).setCell ⟨B, 4, none⟩ (.slice G.a G.l.length G.cap)).cell? ⟨B, 2, none⟩ = some (.int .i64 G.x) ∧ (((((W.setCell ⟨B, 0, none⟩ (.int .i64 G.k)).setCell ⟨B, 1, none⟩ (.int .i64 G.n)).setCell ⟨B, 2, none⟩ (.int .i64 G.x)).setCell ⟨B, 3, none⟩ (.string ⟨G.s.toArray⟩)).setCell ⟨B, 4, none⟩ (.slice G.a G.l.length G.cap)).cell? ⟨B, 3, none⟩ = some (.string ⟨G.s.toArray⟩) ∧ (((((W.setCell ⟨B, 0, none⟩ (.int .i64 G.k)).setCell ⟨B, 1, none⟩ (.int .i64 G.n)).setCell ⟨B, 2, none⟩ (.int .i64 G.x)).setCell ⟨B, 3, none⟩ (.string ⟨G.s.toArray⟩)).setCell ⟨B, 4, none⟩ (.slice G.a G.l.length G.cap)).cell? ⟨B, 4, none⟩ = some (.slice G.a G.l.length G.cap) := by
  refine ⟨(AT.Own.set (AT.Own.set (AT.Own.set (AT.Own.set (AT.Own.set hO hBN) hBN) hBN) hBN) hBN).base hN, hnd, fun hm => by have := (hO.lt B hm).1; omega, hB, hR.five hB, ?_, ?_, ?_, ?_, ?_⟩ <;> simp [go_sem, z0, z1, z2, z3, z4]
theorem leaf_last {W0 W : World} {N : Nat} {G : AT} {ty : TypeId} (hR : Rl W0 W) (hN : W0.heap.size ≤ N) (hO : G.Own W N) (hnd : G.blks.Nodup) :
    G.Own (W.alloc (.cells #[.int .i64 G.k, .int .i64 G.n, .int .i64 G.x, .string ⟨G.s.toArray⟩, .slice G.a G.l.length G.cap] ty)) W0.heap.size ∧ G.blks.Nodup ∧ W.heap.size ∉ G.blks ∧ W0.heap.size ≤ W.heap.size ∧ Rl W0 (W.alloc (.cells #[.int .i64 G.k, .int .i64 G.n, .int .i64 G.x, .string ⟨G.s.toArray⟩, .slice G.a G.l.length G.cap] ty)) ∧ (W.alloc (.cells #[.int .i64 G.k, .int .i64 G.n, .int .i64 G.x, .string ⟨G.s.toArray⟩, .slice G.a G.l.length G.cap] ty)).cell? ⟨W.heap.size, 0, none⟩ = some (.int .i64 G.k) ∧ (W.alloc (.cells #[.int .i64 G.k, .int .i64 G.n, .int .i64 G.x, .string ⟨G.s.toArray⟩, .slice G.a G.l.length G.cap] ty)).cell? ⟨W.heap.size, 1, none⟩ = some (.int .i64 G.n) ∧ (W.alloc (.cells #[.int .i64 G.k, .int .i64 G.n, .int .i64 G.x, .string ⟨G.s.toArray⟩, .slice G.a G.l.length G.cap] ty)).cell? ⟨W.heap.size, 2, none⟩ = some (.int .i64 G.x) ∧ (W.alloc (.cells #[.int .i64 G.k, .int .i64 G.n, .int .i64 G.x, .string ⟨G.s.toArray⟩, .slice G.a G.l.length G.cap] ty)).cell? ⟨W.heap.size, 3, none⟩ = some (.string ⟨G.s.toArray⟩) ∧ (W.alloc (.cells #[.int .i64 G.k, .int .i64 G.n, .int .i64 G.x, .string ⟨G.s.toArray⟩, .slice G.a G.l.length G.cap] ty)).cell? ⟨W.heap.size, 4, none⟩ = some (.slice G.a G.l.length G.cap) :=
  ⟨(hO.blw (vbox W _)).base hN, hnd, fun hm => by have := (hO.lt _ hm).2; omega, hR.z, hR.alloc _, vcells5 W G ty⟩
end Go.Proofs.Ytpkmlfmkgodhkaa
/- slices.Backward: the iterator's contract. -/
namespace Go.Proofs.Ytpkmlfmkgodhkaa
open Go.RowKit Go.Shelf
set_option maxRecDepth 100000
attribute [local go_sem] Oper.semAt_some
/-- the first k of the indices below len, from the last on -/
def desc (len k : Nat) : List Nat := (List.range k).map fun j => len - 1 - j
theorem desc_succ (len k : Nat) : desc len (k + 1) = desc len k ++ [len - 1 - k] := by simp [desc, List.range_succ]
theorem desc_mem {len k q : Nat} (hk : k ≤ len) : q ∈ desc len k ↔ len - k ≤ q ∧ q < len := by
  simp only [desc, List.mem_map, List.mem_range]
  constructor
  · rintro ⟨j, hj, rfl⟩; omega
  · rintro ⟨h1, h2⟩; exact ⟨len - 1 - q, by omega, by omega⟩
theorem back_in (a : Option Addr) (len cap : Nat) (w : World) : Calls Try.prog 99 #[.slice a len cap] w fun e w' => e = .returned (.func (.func 133) #[] #[.pointer (some ⟨w.heap.size, 0, none⟩)]) ∧ w' = w.alloc (.cells #[.slice a len cap] 24) := by
  go_enter Try.func99, Try.ntmps99
  go_wp2
  go_ret
  exact ⟨rfl, rfl⟩
abbrev Idx (ns : List AT) := { i : Nat // i < ns.length }
set_option maxHeartbeats 2000000 in
theorem back_stops (n : Nat) (hn : 1 ≤ n) (Bs n₀ : Nat) (a : Option Addr) (cap : Nat) (ns : List AT) (w : World) (hl : ns.length ≤ 1048576) (hBs : Bs < n₀) (hn₀ : n₀ ≤ w.heap.size) (hc : w.cell? ⟨Bs, 0, none⟩ = some (.slice a ns.length cap)) (hI : Lv w n₀ a cap ns) :
    SeqStopsK Fence.wide n Try.prog 133 #[.pointer (some ⟨Bs, 0, none⟩)] (fun x : Idx ns => #[Value.int .i64 (x.1 : Int), (ns[x.1]'x.2).val]) (Below n₀) (fun ys => ys.map (·.1) = desc ns.length ns.length) (fun pre => ∃ k, k ≤ ns.length ∧ pre.map (·.1) = desc ns.length k) ns.length w := fun l J Jx W hW hJa hJxa hY h0 => by
  have hc' := (hW.cell (p := ⟨Bs, 0, none⟩) (by show Bs < w.heap.size; omega)).trans hc
  have hI' := hI.below hW hn₀
  have HY := Lib.hid hY
  have HI := Lib.hid hI'
  have HC := Lib.hid hc'
  clear hW hI hc hY hI' hJa hJxa
  refine callsIn_of_wp Try.func133 rfl trivial ?_ rfl
  simp only [Try.ntmps133, List.size_toArray, List.length_cons, List.length_nil, Nat.reduceAdd, Nat.reduceSub, Array.replicate_succ, Array.replicate_zero, List.push_toArray, List.append_toArray, List.nil_append, List.cons_append]
  gi_wp2
  have hw0 : IntKind.i64.wrap ((ns.length : Int) - 1) = (ns.length : Int) - 1 := IntWalk.i64_in _ (by omega)
  gi_loopw [3] (fun i wr => ∃ pre : List (Idx ns), i = .int .i64 ((ns.length : Int) - 1 - pre.length) ∧ pre.map (·.1) = desc ns.length pre.length ∧ pre.length ≤ ns.length ∧ J pre wr ∧ Below n₀ W wr) (fun i _ => (intOf i + 1).toNat)
  case atStart => exact ⟨[], by simp, by simp [desc], by simp, h0, Below.refl _ _⟩
  case round =>
    obtain ⟨pre, rfl, hp, hle, hJs, hb⟩ := hrel
    by_cases hlt : pre.length < ns.length
    · obtain ⟨q, hq⟩ : ∃ q : Nat, q = ns.length - 1 - pre.length := ⟨_, rfl⟩
      have hqi : (ns.length : Int) - 1 - pre.length = (q : Int) := by omega
      have hql : q < ns.length := by omega
      obtain ⟨fn, tmps, assign, body, hy, hR⟩ := HY.out pre ⟨q, hql⟩ wr hJs hlt
      obtain ⟨b, o, rfl, hbN, hC⟩ := HI.out.cell q hql
      replace hC := hC.keep (hb.block b hbN)
      have c0 := (hb.cell (p := ⟨Bs, 0, none⟩) hBs).trans HC.out
      have HMAP : Hid ((pre ++ [(⟨q, hql⟩ : Idx ns)]).map (fun x => x.1) = desc ns.length (pre.length + 1)) := Lib.hid (by rw [List.map_append, hp, desc_succ, ← hq]; rfl)
      dsimp only at hy
      obtain ⟨V, hV⟩ : ∃ V, V = ns[q]'hql := ⟨_, rfl⟩
      rw [← hV] at hC hy
      obtain ⟨f0, f1, f2, f3, f4⟩ := hC
      have hq0 : (0 : Int) ≤ (q : Int) := by omega
      have hq1 : (q : Int) < ns.length := by omega
      rw [hqi]
      have HQ := Lib.hid hq
      have hn1 : 1 ≤ n := hn
      clear hV hqi hq hp hJs
      gi_wp2
      refine hR.mono ?_
      rintro e W3 (⟨rfl, hJ3, hk3⟩ | ⟨rfl, hJx3⟩)
      · have hw2 : IntKind.i64.wrap ((q : Int) - 1) = (q : Int) - 1 := IntWalk.i64_in _ (by omega)
        gi_wp2
        go_roundw
        case rel => exact ⟨pre ++ [⟨q, hql⟩], by rw [List.length_append, List.length_singleton]; congr 1; have := HQ.out; omega, by rw [List.length_append, List.length_singleton]; exact HMAP.out, by rw [List.length_append, List.length_singleton]; omega, hJ3, hb.trans hk3⟩
        case measure => simp [intOf]
      · gi_wp2
        refine bodyPost_ret (results_none rfl _ _ _) rfl ?_
        exact ⟨⟨_, rfl⟩, .inr ⟨pre ++ [⟨q, hql⟩], ⟨pre.length + 1, by omega, HMAP.out⟩, hJx3⟩⟩
    · have hz : (ns.length : Int) - 1 - pre.length = -1 := by omega
      have HMAP : Hid (pre.map (·.1) = desc ns.length ns.length) := Lib.hid (by rw [hp, show pre.length = ns.length by omega])
      rw [hz]
      clear hz hp
      gi_wp2
      go_end0
      exact ⟨⟨_, rfl⟩, .inl ⟨pre, HMAP.out, hJs⟩⟩
end Go.Proofs.Ytpkmlfmkgodhkaa
/- The program's walk begun: walkOf. -/
namespace Go.Proofs.Ytpkmlfmkgodhkaa
open Go.RowKit
theorem walkof_any (T : AT) (w : World) (N : Nat) (hin : T.In w N) (hN : N ≤ w.heap.size) :
    Calls Try.prog 74 #[T.val] w fun e w' => e = .returned (.pointer (some ⟨w.heap.size + 3, 0, none⟩)) ∧ WalkAt w' (w.heap.size + 2) (w.heap.size + 2) (w.heap.size + 3) (w.heap.size + 2) 1 [⟨some ⟨w.heap.size + 1, 0, none⟩, 1, [T]⟩] 0 ∧ Below w.heap.size w w' ∧ w'.heap.size = w.heap.size + 4 := by
  have H := Lib.hid hin
  clear hin
  obtain ⟨k, n, x, s, a, cap, l⟩ := T
  show Calls Try.prog 74 #[.agg #[.int .i64 k, .int .i64 n, .int .i64 x, .string ⟨s.toArray⟩, .slice a l.length cap]] w _
  go_enter Try.func74, Try.ntmps74
  go_wp2
  go_ret
  have hb : Below w.heap.size w ((((w.alloc (.cells #[.int .i64 k, .int .i64 n, .int .i64 x, .string ⟨s.toArray⟩, .slice a l.length cap] 26)).alloc (.cells #[.int .i64 k, .int .i64 n, .int .i64 x, .string ⟨s.toArray⟩, .slice a l.length cap] 26)).alloc (.cells #[.slice (some ⟨w.heap.size + 1, 0, none⟩) 1 1] 24)).alloc (.cells #[.slice (some ⟨w.heap.size + 1 + 1, 0, none⟩) 1 1, .int .i64 0] 82)) :=
    ((((Below.refl _ _).alloc (Nat.le_refl _) _).alloc (by simp) _).alloc (by simp; omega) _).alloc (by simp; omega) _
  refine ⟨rfl, ?_, hb, by simp⟩
  exact {
    rest := by simp [go_sem]
    deep := by simp [go_sem]
    fr := fun o => by simp [go_sem]
    row := by
      refine ⟨rfl, .inr ⟨w.heap.size + 2, 1, #[.slice (some ⟨w.heap.size + 1, 0, none⟩) 1 1], rfl, Nat.le_refl _, ?_, Nat.le_refl _, by unfold maxLen; omega, rfl, rfl⟩⟩
      rw [Below.heap_alloc _ _ _ (by simp)]
      have := heap_alloc_new ((w.alloc (.cells #[.int .i64 k, .int .i64 n, .int .i64 x, .string ⟨s.toArray⟩, .slice a l.length cap] 26)).alloc (.cells #[.int .i64 k, .int .i64 n, .int .i64 x, .string ⟨s.toArray⟩, .slice a l.length cap] 26)) (.cells #[.slice (some ⟨w.heap.size + 1, 0, none⟩) 1 1] 24)
      simpa using this
    pB := by omega
    pN := Nat.le_refl _
    ne := by omega
    lv := fun L hL => by
      obtain rfl : L = ⟨some ⟨w.heap.size + 1, 0, none⟩, 1, [.mk k n x s a cap l]⟩ := by simpa using hL
      refine ⟨Nat.le_refl _, fun j hj => ⟨w.heap.size + 1, 0, rfl, by omega, ?_⟩, fun t ht => ?_⟩
      · obtain rfl : j = 0 := by simp at hj; exact hj
        refine ⟨?_, ?_, ?_, ?_, ?_⟩ <;> simp [go_sem, AT.k, AT.n, AT.x, AT.s, AT.a, AT.cap, AT.l]
      · obtain rfl : t = .mk k n x s a cap l := by simpa using ht
        exact (H.out.blw hb hN).mono (by omega) }
end Go.Proofs.Ytpkmlfmkgodhkaa
/- CountOf and DeepOf of the program. -/
namespace Go.Proofs.Ytpkmlfmkgodhkaa
open Go.RowKit
/-- what holds at the head of a loop over a walk: the box of the value at hand lies at X and is no part of the walk -/
structure HeadAt (w wr : World) (B P g cap : Nat) (S : List Lev) (d : Int) (X : Nat) (T : AT) : Prop where
  walk : WalkAt wr B B P g cap S d
  x : CellsAt wr X 0 T
  xP : X ≠ P
  xg : X ≠ g
  xB : w.heap.size ≤ X
  bB : w.heap.size ≤ B
  below : Below w.heap.size w wr
theorem HeadAt.xlt {w wr : World} {B P g cap : Nat} {S : List Lev} {d : Int} {X : Nat} {T : AT} (h : HeadAt w wr B P g cap S d X T) : X < wr.heap.size := cell_lt h.x.c0
/-- a step, read at the head of such a loop -/
theorem next_head {w wr : World} {B P g cap : Nat} {S : List Lev} {d : Int} (h : WalkAt wr B B P g cap S d) (hB : w.heap.size ≤ B) (hb : Below w.heap.size w wr) (hS : S.length ≤ 4194304) :
    Calls Try.prog 75 #[.pointer (some ⟨P, 0, none⟩)] wr fun e w' =>
      (∃ (S1 E : List Lev) (L : Lev) (t : AT) (tl : List AT) (a' : Option Addr) (c' g' cap' : Nat), S = S1 ++ L :: E ∧ (∀ L' ∈ E, L'.l = []) ∧ L.l = t :: tl ∧ e = .returned (.tuple #[t.val, .bool true]) ∧
        WalkAt w' B B P g' cap' (S1 ++ [⟨a', c', tl⟩, ⟨t.a, t.cap, t.l⟩]) (S1.length + 1 : Nat) ∧ (g' = g ∨ wr.heap.size ≤ g') ∧ Only2 P g wr w' ∧ Below w.heap.size w w') ∨
      ((∀ L' ∈ S, L'.l = []) ∧ e = .returned (.tuple #[(AT.leaf 0 0 0 []).val, .bool false]) ∧ Only2 P g wr w' ∧ Below w.heap.size w w') := by
  have hl := h.lt
  have hp := h.pB
  have hs := hb.size
  refine (next_any wr B B P g cap S d h hS).mono fun e w' hpost => ?_
  rcases hpost with ⟨S1, E, L, t, tl, a', c', g', cap', h1, h2, h3, h4, h5, h6, h7⟩ | ⟨h1, h2, h3⟩
  · exact .inl ⟨S1, E, L, t, tl, a', c', g', cap', h1, h2, h3, h4, h5, h6, h7, hb.trans (h7.below (by omega) (by omega) (by omega))⟩
  · exact .inr ⟨h1, h2, h3, hb.trans (h3.below (by omega) (by omega) (by omega))⟩
/-- walkOf, its blocks as letters -/
theorem walkof_head (T : AT) (w : World) (N : Nat) (hin : T.In w N) (hN : N ≤ w.heap.size) (w1 : World) (hb1 : Below w.heap.size w w1) :
    Calls Try.prog 74 #[T.val] w1 fun e w' => ∃ P g b B, e = .returned (.pointer (some ⟨P, 0, none⟩)) ∧ WalkAt w' B B P g 1 [⟨some ⟨b, 0, none⟩, 1, [T]⟩] 0 ∧ w1.heap.size ≤ B ∧ Below w1.heap.size w1 w' ∧ Below w.heap.size w w' := by
  refine (walkof_any T w1 N (hin.blw hb1 hN) (Nat.le_trans hN hb1.size)).mono fun e w' h => ?_
  exact ⟨_, _, _, _, h.1, h.2.1, by omega, h.2.2.1, hb1.trans (h.2.2.1.mono hb1.size)⟩
/-- the box of the value at hand, and the walk behind it: the head of the next round -/
theorem HeadAt.new {w wr : World} {B P g cap : Nat} {S : List Lev} {d : Int} {t : AT} (h : WalkAt wr B B P g cap S d) (hB : w.heap.size ≤ B) (hb : Below w.heap.size w wr) :
    HeadAt w (wr.alloc (.cells #[.int .i64 t.k, .int .i64 t.n, .int .i64 t.x, .string ⟨t.s.toArray⟩, .slice t.a t.l.length t.cap] 26)) B P g cap S d wr.heap.size t where
  walk := h.blw (vbox _ _)
  x := by refine ⟨?_, ?_, ?_, ?_, ?_⟩ <;> simp [go_sem]
  xP := by have := h.lt; omega
  xg := by have := h.lt; omega
  xB := hb.size
  bB := hB
  below := hb.alloc hb.size _
theorem HeadAt.step {w wr w' : World} {B P g cap g' cap' : Nat} {S S' : List Lev} {d d' : Int} {X : Nat} {t : AT} (h : HeadAt w wr B P g cap S d X t) (hw : WalkAt w' B B P g' cap' S' d') (hg : g' = g ∨ wr.heap.size ≤ g') (ho : Only2 P g wr w') (hb : Below w.heap.size w w') : HeadAt w w' B P g' cap' S' d' X t where
  walk := hw
  x := h.x.keep (ho.block X h.xlt h.xP h.xg)
  xP := h.xP
  xg := by have := h.xlt; have := h.xg; omega
  xB := h.xB
  bB := h.bB
  below := hb
set_option maxHeartbeats 4000000 in
theorem count_impl (T : AT) (w : World) (N : Nat) (hin : T.In w N) (hN : N ≤ w.heap.size) (hsz : T.pt.sz ≤ 1048576) :
    Calls Try.prog 27 #[T.val] w fun e w' => e = .returned (.int .i64 (T.pt.cnt : Nat)) ∧ Below w.heap.size w w' := by
  have hcb : T.pt.cnt ≤ 1048577 := by have := cnt_le_sz T.pt; omega
  have HWO := Lib.hid (walkof_head T w N hin hN)
  have hrem : ∀ b, remN [Lev.mk (some ⟨b, 0, none⟩) 1 [T]] = T.pt.cnt := fun b => by simp [remN, AT.ptL, PT.cntL]
  have HREM := Lib.hid hrem
  clear hin hrem hsz
  obtain ⟨C, hC⟩ : ∃ C, C = T.pt.cnt := ⟨_, rfl⟩
  rw [← hC] at hcb HREM ⊢
  clear hC
  obtain ⟨k, n, x, s, a, cap, l⟩ := T
  show Calls Try.prog 27 #[.agg #[.int .i64 k, .int .i64 n, .int .i64 x, .string ⟨s.toArray⟩, .slice a l.length cap]] w _
  go_enter Try.func27, Try.ntmps27
  go_wp2_with fail
  refine (HWO.out _ (vbox _ _)).mono ?_
  rintro e w1 ⟨P, g, b, B, rfl, hw1, hB, hb1, hbw⟩
  have hBw : w.heap.size ≤ B := by simp at hB; omega
  have HW1 := Lib.hid hw1
  have HBW := Lib.hid hbw
  clear hw1 hb1 hbw hB
  go_wp2_with fail
  refine (next_head HW1.out hBw HBW.out (by simp)).mono ?_
  rintro e w2 (⟨S1, E, L, t, tl, a', c', g', cap', hS, hE, hL, rfl, hw2, hg2, ho2, hb2⟩ | ⟨hS, -⟩)
  case inr => exact absurd (hS _ (List.mem_singleton.2 rfl)) (by simp)
  have hr2 : remN (S1 ++ [Lev.mk a' c' tl, Lev.mk t.a t.cap t.l]) + 1 = C := by
    rw [← HREM.out b, hS, ← remN_step S1 E L t tl a' c' hE hL]
  have hlen : (S1 ++ [Lev.mk a' c' tl, Lev.mk t.a t.cap t.l]).length ≤ 2 := by
    have h1 : 1 = S1.length + (E.length + 1) := by
      have := congrArg List.length hS
      rw [List.length_append, List.length_cons] at this
      exact this
    rw [List.length_append]
    show S1.length + 2 ≤ 2
    omega
  have HH := Lib.hid (HeadAt.new (t := t) hw2 hBw hb2)
  have HR2 := Lib.hid hr2
  have HLEN := Lib.hid hlen
  clear hS hE hL hw2 hg2 ho2 hb2 hr2 hlen HREM HWO
  go_wp2_with fail
  go_loopw [3, 5, 6] (fun c x more wr => ∃ (bo : Bool) (cn : Nat), c = .int .i64 cn ∧ more = .bool bo ∧ cn ≤ C ∧
    ((bo = true ∧ ∃ g cap S d X t, x = .pointer (some ⟨X, 0, none⟩) ∧ HeadAt w wr B P g cap S d X t ∧ remN S + 1 + cn = C ∧ S.length ≤ cn + 2) ∨ (bo = false ∧ cn = C ∧ Below w.heap.size w wr))) (fun c _ _ _ => C - (intOf c).toNat)
  case atStart => exact ⟨true, 0, rfl, rfl, Nat.zero_le _, .inl ⟨rfl, _, _, _, _, _, _, rfl, HH.out, by have := HR2.out; omega, HLEN.out⟩⟩
  case round =>
    obtain ⟨bo, cn, rfl, rfl, hcn, ⟨rfl, g, cap, S, d, X, t, rfl, hh, hr, hlen⟩ | ⟨rfl, hcC, hbf⟩⟩ := hrel
    · have HHH := Lib.hid hh
      have HR := Lib.hid hr
      have hlen2 : S.length ≤ 4194304 := by omega
      have HLE := Lib.hid hlen
      have hcn2 : cn < C := by omega
      obtain ⟨c0, c1, c2, c3, c4⟩ := hh.x
      have hhn := HeadAt.new (t := t) hh.walk hh.bB hh.below
      have HN := Lib.hid hhn
      clear hh hr hlen hhn
      go_wp2_with fail
      refine (next_head HN.out.walk hBw HN.out.below hlen2).mono ?_
      rintro e w3 (⟨S1, E, L, t', tl, a', c', g', cap', hS, hE, hL, rfl, hw2, hg2, ho2, hb2⟩ | ⟨hS, rfl, ho2, hb2⟩)
      · have hnew := HN.out.step hw2 hg2 ho2 hb2
        have hr2 : remN (S1 ++ [Lev.mk a' c' tl, Lev.mk t'.a t'.cap t'.l]) + 1 + (cn + 1) = C := by
          have := remN_step S1 E L t' tl a' c' hE hL
          rw [← hS] at this
          have := HR.out
          omega
        have hlen3 : (S1 ++ [Lev.mk a' c' tl, Lev.mk t'.a t'.cap t'.l]).length ≤ cn + 1 + 2 := by
          have h1 := congrArg List.length hS
          have h2 := HLE.out
          rw [List.length_append, List.length_cons] at h1
          rw [List.length_append]
          show S1.length + 2 ≤ cn + 1 + 2
          omega
        have HNEW := Lib.hid hnew
        have HR3 := Lib.hid hr2
        have HL3 := Lib.hid hlen3
        clear hS hE hL hw2 hg2 ho2 hb2 hnew hr2 hlen3
        go_wp2
        go_roundw
        case rel => exact ⟨true, cn + 1, by go_num, rfl, by omega, .inl ⟨rfl, _, _, _, _, _, _, rfl, HNEW.out, HR3.out, HL3.out⟩⟩
        case measure => simp [intOf]; omega
      · have hr2 : cn + 1 = C := by
          have := remN_empty S hS
          have := HR.out
          omega
        have HR3 := Lib.hid hr2
        have HB3 := Lib.hid hb2
        clear hS ho2 hb2 hr2
        go_wp2
        go_roundw
        case rel => exact ⟨false, cn + 1, by go_num, rfl, by omega, .inr ⟨rfl, HR3.out, HB3.out⟩⟩
        case measure => simp [intOf]; omega
    · have HBF := Lib.hid hbf
      have HCC := Lib.hid hcC
      clear hbf hcC
      go_wp2
      go_ret
      exact ⟨ret_int (by rw [HCC.out]), HBF.out⟩
end Go.Proofs.Ytpkmlfmkgodhkaa
/- SameVal of the program. -/
namespace Go.Proofs.Ytpkmlfmkgodhkaa
open Go.RowKit
set_option maxHeartbeats 4000000 in
theorem fields_impl (T U : AT) (w : World) : Calls Try.prog 78 #[T.val, U.val] w fun e w' => e = .returned (.bool (T.hd U)) ∧ Below w.heap.size w w' := by
  obtain ⟨k, n, x, s, a, cap, l⟩ := T
  obtain ⟨k2, n2, x2, s2, b, cap2, m⟩ := U
  have hsame : ∀ B, (AT.mk k n x s a cap l).hd (AT.mk k2 n2 x2 s2 b cap2 m) = B ↔ (k == k2 && n == n2 && x == x2 && s == s2 && l.length == m.length) = B := fun B => Iff.rfl
  have HS := Lib.hid hsame
  clear hsame
  show Calls Try.prog 78 #[.agg #[.int .i64 k, .int .i64 n, .int .i64 x, .string ⟨s.toArray⟩, .slice a l.length cap], .agg #[.int .i64 k2, .int .i64 n2, .int .i64 x2, .string ⟨s2.toArray⟩, .slice b m.length cap2]] w _
  by_cases hf : k = k2 ∧ n = n2 ∧ x = x2 ∧ s = s2 ∧ l.length = m.length
  · obtain ⟨rfl, rfl, rfl, rfl, hlen⟩ := hf
    have HR : Hid ((AT.mk k n x s a cap l).hd (AT.mk k n x s b cap2 m) = true) := Lib.hid ((HS.out true).2 (by simp [hlen]))
    rw [← hlen]
    clear hlen HS
    go_enter Try.func78, Try.ntmps78
    go_wp2
    go_ret
    exact ⟨by rw [HR.out]; rfl, two' _ _ _⟩
  · have hfalse : (k == k2 && n == n2 && x == x2 && s == s2 && l.length == m.length) = false := by
      rw [Bool.eq_false_iff]
      intro h
      simp only [Bool.and_eq_true, beq_iff_eq] at h
      exact hf ⟨h.1.1.1.1, h.1.1.1.2, h.1.1.2, h.1.2, h.2⟩
    have HR : Hid ((AT.mk k n x s a cap l).hd (AT.mk k2 n2 x2 s2 b cap2 m) = false) := Lib.hid ((HS.out false).2 hfalse)
    clear hfalse HS
    rcases hd_cases hf with h0 | ⟨rfl, h1⟩ | ⟨rfl, rfl, h2⟩ | ⟨rfl, rfl, rfl, h3, h4⟩ | ⟨rfl, rfl, rfl, rfl, h5, h6⟩
    all_goals clear hf
    all_goals
      go_enter Try.func78, Try.ntmps78
      go_wp2
      go_ret
      exact ⟨by rw [HR.out]; rfl, two' _ _ _⟩
/-- two stacks, level by level -/
def sameS : List Lev → List Lev → Bool
  | L :: S, M :: R => PT.sameL (AT.ptL L.l) (AT.ptL M.l) && sameS S R
  | _, _ => true
theorem sameS_append (S R S' R' : List Lev) (h : S.length = R.length) : sameS (S ++ S') (R ++ R') = (sameS S R && sameS S' R') := by
  induction S generalizing R with
  | nil => cases R with
    | nil => simp [sameS]
    | cons M R => simp at h
  | cons L S ih =>
    cases R with
    | nil => simp at h
    | cons M R => simp only [List.cons_append, sameS]; rw [ih R (by simpa using h), Bool.and_assoc]
theorem sameS_empty (S R : List Lev) (h : ∀ L ∈ S, L.l = []) : sameS S R = true := by
  induction S generalizing R with
  | nil => rfl
  | cons L S ih =>
    cases R with
    | nil => rfl
    | cons M R =>
      simp only [sameS, h L (by simp), AT.ptL, ih R (fun L hL => h L (by simp [hL]))]
      cases h2 : AT.ptL M.l <;> simp [PT.sameL]
def lens (S : List Lev) : List Nat := S.map fun L => L.l.length
theorem zeros_split (A A' Z Z' : List Nat) (a a' : Nat) (hZ : ∀ z ∈ Z, z = 0) (hZ' : ∀ z ∈ Z', z = 0) (h : A ++ (a + 1) :: Z = A' ++ (a' + 1) :: Z') : A = A' ∧ a = a' ∧ Z = Z' := by
  induction A generalizing A' with
  | nil =>
    cases A' with
    | nil => simp at h; exact ⟨rfl, h.1, h.2⟩
    | cons x A' =>
      simp only [List.nil_append, List.cons_append, List.cons.injEq] at h
      have := hZ (a' + 1) (by rw [h.2]; simp)
      omega
  | cons x A ih =>
    cases A' with
    | nil =>
      simp only [List.nil_append, List.cons_append, List.cons.injEq] at h
      have := hZ' (a + 1) (by rw [← h.2]; simp)
      omega
    | cons y A' =>
      simp only [List.cons_append, List.cons.injEq] at h
      obtain ⟨rfl, h⟩ := h
      obtain ⟨rfl, h2⟩ := ih A' h
      exact ⟨rfl, h2⟩
theorem lens_empty {S : List Lev} (h : ∀ L ∈ S, L.l = []) : ∀ z ∈ lens S, z = 0 := by
  intro z hz
  obtain ⟨L, hL, rfl⟩ := List.mem_map.1 hz
  rw [h L hL]; rfl
theorem lens_none {S R : List Lev} (h : lens S = lens R) (hS : ∀ L ∈ S, L.l = []) : ∀ L ∈ R, L.l = [] := by
  intro L hL
  have : L.l.length ∈ lens S := by rw [h]; exact List.mem_map_of_mem hL
  exact List.length_eq_zero_iff.1 (lens_empty hS _ this)
/-- the two walks' steps, side by side -/
theorem sameS_step {S1 E R1 F : List Lev} {L M : Lev} {t u : AT} {tl ul : List AT} (a c a' c') (hE : ∀ L ∈ E, L.l = []) (hF : ∀ L ∈ F, L.l = []) (hl : L.l = t :: tl) (hm : M.l = u :: ul) (h : lens (S1 ++ L :: E) = lens (R1 ++ M :: F)) :
    (sameS (S1 ++ L :: E) (R1 ++ M :: F) = (t.hd u && sameS (S1 ++ [Lev.mk a c tl, Lev.mk t.a t.cap t.l]) (R1 ++ [Lev.mk a' c' ul, Lev.mk u.a u.cap u.l]))) ∧ (t.hd u = true → lens (S1 ++ [Lev.mk a c tl, Lev.mk t.a t.cap t.l]) = lens (R1 ++ [Lev.mk a' c' ul, Lev.mk u.a u.cap u.l])) := by
  simp only [lens, List.map_append, List.map_cons, hl, hm, List.length_cons] at h
  obtain ⟨h1, h2, h3⟩ := zeros_split _ _ _ _ _ _ (lens_empty hE) (lens_empty hF) h
  have hlen : S1.length = R1.length := by simpa using congrArg List.length h1
  constructor
  · rw [sameS_append _ _ _ _ hlen, sameS_append _ _ _ _ hlen]
    simp only [sameS, sameS_empty E F hE, hl, hm, AT.ptL, PT.sameL, ptsame_eq, Bool.and_true]
    cases t.hd u <;> cases sameS S1 R1 <;> cases PT.sameL (AT.ptL t.l) (AT.ptL u.l) <;> cases PT.sameL (AT.ptL tl) (AT.ptL ul) <;> rfl
  · intro hh
    simp only [AT.hd, Bool.and_eq_true, beq_iff_eq] at hh
    simp only [lens, List.map_append, List.map_cons, List.map_nil, h2, hh.2]
    rw [h1]
end Go.Proofs.Ytpkmlfmkgodhkaa
/- SameVal of the program: two walks side by side. -/
namespace Go.Proofs.Ytpkmlfmkgodhkaa
open Go.RowKit
/-- the second walk: not begun (its one level lies in block b), or begun (its levels lie below N0) -/
def RightAt (w : World) (N0 B P g b : Nat) (T2 : AT) (R : List Lev) : Prop :=
  (∃ cap d, WalkAt w N0 B P g cap R d) ∨ (∃ d, R = [Lev.mk (some ⟨b, 0, none⟩) 1 [T2]] ∧ WalkAt w B B P g 1 R d ∧ T2.In w N0 ∧ N0 ≤ B)
theorem RightAt.lt {w : World} {N0 B P g b : Nat} {T2 : AT} {R : List Lev} (h : RightAt w N0 B P g b T2 R) : P < w.heap.size ∧ g < w.heap.size ∧ B ≤ P ∧ B ≤ g ∧ N0 ≤ B := by
  rcases h with ⟨cap, d, h⟩ | ⟨d, _, h, _, hN⟩
  · exact ⟨h.lt.1, h.lt.2.2, h.pB, h.lt.2.1, h.pN⟩
  · exact ⟨h.lt.1, h.lt.2.2, h.pB, h.lt.2.1, hN⟩
theorem RightAt.kept {w w' : World} {N0 B P g b : Nat} {T2 : AT} {R : List Lev} (h : RightAt w N0 B P g b T2 R) (hk : ∀ k, k = P ∨ k = g ∨ k = b ∨ k < N0 → w'.heap[k]? = w.heap[k]?) : RightAt w' N0 B P g b T2 R := by
  rcases h with ⟨cap, d, h⟩ | ⟨d, hR, h, hin, hN⟩
  · exact .inl ⟨cap, d, h.kept fun k hk' => hk k (by rcases hk' with h | h | h; exact .inl h; exact .inr (.inl h); exact .inr (.inr (.inr h)))⟩
  · have hin' : T2.In w' N0 := hin.kept fun k hk' => hk k (.inr (.inr (.inr hk')))
    refine .inr ⟨d, hR, ?_, hin', hN⟩
    have hP := hk P (.inl rfl)
    exact {
      rest := by rw [World.cell?_of_block (w := w) (w' := w') hP]; exact h.rest
      deep := by rw [World.cell?_of_block (w := w) (w' := w') hP]; exact h.deep
      fr := fun o => by rw [frozen_blk hP]; exact h.fr o
      row := own_heap h.row (fun k hg => hk k (.inr (.inl (by simp [Value.ownBlock] at hg; exact hg.symm))))
      pB := h.pB
      pN := h.pN
      ne := h.ne
      lv := fun L hL => by
        have h0 := h.lv L hL
        subst hR
        obtain rfl : L = Lev.mk (some ⟨b, 0, none⟩) 1 [T2] := by simpa using hL
        refine ⟨h0.hc, fun j hj => ?_, fun t ht => ?_⟩
        · obtain ⟨b', o', e, hb, hC⟩ := h0.cell j hj
          injection e with e
          injection e with e1 e2
          subst e1 e2
          exact ⟨b, 0, rfl, hb, hC.keep (hk b (.inr (.inr (.inl rfl))))⟩
        · obtain rfl : t = T2 := by simpa using ht
          exact hin'.mono hN }
structure TwoAt (w0 wr : World) (N0 B1 P1 g1 B2 P2 g2 b : Nat) (T2 : AT) (S R : List Lev) : Prop where
  left : ∃ cap d, WalkAt wr B1 B1 P1 g1 cap S d
  right : RightAt wr N0 B2 P2 g2 b T2 R
  n0 : N0 ≤ B1
  bne : b ≠ P1 ∧ b ≠ g1 ∧ b < wr.heap.size
  ne : P1 ≠ P2 ∧ P1 ≠ g2 ∧ g1 ≠ P2 ∧ g1 ≠ g2
  lo : B1 ≤ P2 ∧ B1 ≤ g2
  w0B : w0.heap.size ≤ B1
  below : Below w0.heap.size w0 wr
theorem TwoAt.lt {w0 wr : World} {N0 B1 P1 g1 B2 P2 g2 b : Nat} {T2 : AT} {S R : List Lev} (h : TwoAt w0 wr N0 B1 P1 g1 B2 P2 g2 b T2 S R) : P1 < wr.heap.size ∧ g1 < wr.heap.size ∧ P2 < wr.heap.size ∧ g2 < wr.heap.size ∧ B1 ≤ P1 ∧ B1 ≤ g1 ∧ N0 ≤ B2 := by
  obtain ⟨cap, d, hw⟩ := h.left
  have h2 := h.right.lt
  exact ⟨hw.lt.1, hw.lt.2.2, h2.1, h2.2.1, hw.pB, hw.lt.2.1, h2.2.2.2.2⟩
/-- nothing of the two walks turned -/
theorem TwoAt.kept {w0 wr w' : World} {N0 B1 P1 g1 B2 P2 g2 b : Nat} {T2 : AT} {S R : List Lev} (h : TwoAt w0 wr N0 B1 P1 g1 B2 P2 g2 b T2 S R) (hk : ∀ k, k = P1 ∨ k = g1 ∨ k = P2 ∨ k = g2 ∨ k = b ∨ k < B1 → w'.heap[k]? = wr.heap[k]?) (hs : wr.heap.size ≤ w'.heap.size) (hb : Below w0.heap.size w0 w') : TwoAt w0 w' N0 B1 P1 g1 B2 P2 g2 b T2 S R where
  left := by
    obtain ⟨cap, d, hw⟩ := h.left
    exact ⟨cap, d, hw.kept fun k hk' => hk k (by rcases hk' with h | h | h <;> simp [h])⟩
  right := h.right.kept fun k hk' => hk k (by
    have := h.n0
    rcases hk' with h | h | h | h
    · simp [h]
    · simp [h]
    · simp [h]
    · exact .inr (.inr (.inr (.inr (.inr (by omega))))))
  n0 := h.n0
  bne := ⟨h.bne.1, h.bne.2.1, by have := h.bne.2.2; omega⟩
  ne := h.ne
  lo := h.lo
  w0B := h.w0B
  below := hb
theorem TwoAt.blw {w0 wr w' : World} {N0 B1 P1 g1 B2 P2 g2 b : Nat} {T2 : AT} {S R : List Lev} (h : TwoAt w0 wr N0 B1 P1 g1 B2 P2 g2 b T2 S R) (hb : Below wr.heap.size wr w') : TwoAt w0 w' N0 B1 P1 g1 B2 P2 g2 b T2 S R := by
  have hl := h.lt
  have hb2 := h.bne.2.2
  exact h.kept (fun k hk => hb.block k (by rcases hk with rfl | rfl | rfl | rfl | rfl | hk <;> omega)) hb.size (h.below.trans (hb.mono h.below.size))
theorem TwoAt.setX {w0 wr : World} {N0 B1 P1 g1 B2 P2 g2 b X o : Nat} {u : Value} {T2 : AT} {S R : List Lev} (h : TwoAt w0 wr N0 B1 P1 g1 B2 P2 g2 b T2 S R) (hX : X ≠ P1 ∧ X ≠ g1 ∧ X ≠ P2 ∧ X ≠ g2 ∧ X ≠ b ∧ B1 ≤ X) : TwoAt w0 (wr.setCell ⟨X, o, none⟩ u) N0 B1 P1 g1 B2 P2 g2 b T2 S R := by
  refine h.kept (fun k hk => Below.heap_setCell _ _ _ _ ?_) (by simp [World.setCell]) (bset h.below (by have := h.w0B; omega))
  show k ≠ X
  rcases hk with rfl | rfl | rfl | rfl | rfl | hk <;> omega
theorem left_next {w0 wr : World} {N0 B1 P1 g1 B2 P2 g2 b : Nat} {T2 : AT} {S R : List Lev} (h : TwoAt w0 wr N0 B1 P1 g1 B2 P2 g2 b T2 S R) (hS : S.length ≤ 4194304) :
    Calls Try.prog 75 #[.pointer (some ⟨P1, 0, none⟩)] wr fun e w' =>
      (∃ (S1 E : List Lev) (L : Lev) (t : AT) (tl : List AT) (a' : Option Addr) (c' g1' : Nat), S = S1 ++ L :: E ∧ (∀ L' ∈ E, L'.l = []) ∧ L.l = t :: tl ∧ e = .returned (.tuple #[t.val, .bool true]) ∧
        TwoAt w0 w' N0 B1 P1 g1' B2 P2 g2 b T2 (S1 ++ [⟨a', c', tl⟩, ⟨t.a, t.cap, t.l⟩]) R ∧ (g1' = g1 ∨ wr.heap.size ≤ g1') ∧ Only2 P1 g1 wr w') ∨
      ((∀ L' ∈ S, L'.l = []) ∧ e = .returned (.tuple #[(AT.leaf 0 0 0 []).val, .bool false]) ∧ Only2 P1 g1 wr w' ∧ Below w0.heap.size w0 w') := by
  obtain ⟨cap, d, hw⟩ := h.left
  have hl := h.lt
  have hb2 := h.bne
  have hlo := h.lo
  have hn0 := h.n0
  have hne := h.ne
  have hw0 := h.w0B
  have hsz := h.below.size
  refine (next_any wr B1 B1 P1 g1 cap S d hw hS).mono fun e w' hpost => ?_
  rcases hpost with ⟨S1, E, L, t, tl, a', c', g', cap', h1, h2, h3, h4, h5, h6, h7⟩ | ⟨h1, h2, h3⟩
  · refine .inl ⟨S1, E, L, t, tl, a', c', g', h1, h2, h3, h4, ?_, h6, h7⟩
    exact {
      left := ⟨cap', _, h5⟩
      right := h.right.kept fun k hk => h7.block k (by rcases hk with rfl | rfl | rfl | hk <;> omega) (by rcases hk with rfl | rfl | rfl | hk <;> omega) (by rcases hk with rfl | rfl | rfl | hk <;> omega)
      n0 := hn0
      bne := ⟨hb2.1, by omega, by have := h7.size; omega⟩
      ne := ⟨hne.1, hne.2.1, by omega, by omega⟩
      lo := hlo
      w0B := hw0
      below := h.below.trans (h7.below (by omega) (by omega) hsz) }
  · exact .inr ⟨h1, h2, h3, h.below.trans (h3.below (by omega) (by omega) hsz)⟩
theorem right_next {w0 wr : World} {N0 B1 P1 g1 B2 P2 g2 b : Nat} {T2 : AT} {S R : List Lev} (h : TwoAt w0 wr N0 B1 P1 g1 B2 P2 g2 b T2 S R) (hR : R.length ≤ 4194304) :
    Calls Try.prog 75 #[.pointer (some ⟨P2, 0, none⟩)] wr fun e w' =>
      (∃ (R1 F : List Lev) (M : Lev) (u : AT) (ul : List AT) (a' : Option Addr) (c' g2' : Nat), R = R1 ++ M :: F ∧ (∀ L' ∈ F, L'.l = []) ∧ M.l = u :: ul ∧ e = .returned (.tuple #[u.val, .bool true]) ∧
        TwoAt w0 w' N0 B1 P1 g1 B2 P2 g2' b T2 S (R1 ++ [⟨a', c', ul⟩, ⟨u.a, u.cap, u.l⟩]) ∧ (g2' = g2 ∨ wr.heap.size ≤ g2') ∧ Only2 P2 g2 wr w') ∨ (∀ L' ∈ R, L'.l = []) := by
  have hl := h.lt
  have hb2 := h.bne
  have hlo := h.lo
  have hn0 := h.n0
  have hne := h.ne
  have hw0 := h.w0B
  have hsz := h.below.size
  have hlr := h.right.lt
  have fin : ∀ (w' : World) (R' : List Lev) (g2' cap' : Nat) (d' : Int), Only2 P2 g2 wr w' → (g2' = g2 ∨ wr.heap.size ≤ g2') → WalkAt w' N0 B2 P2 g2' cap' R' d' → TwoAt w0 w' N0 B1 P1 g1 B2 P2 g2' b T2 S R' := by
    intro w' R' g2' cap' d' h7 h6 h5
    obtain ⟨cap, d, hw⟩ := h.left
    exact {
      left := ⟨cap, d, hw.kept fun k hk => h7.block k (by rcases hk with rfl | rfl | hk <;> omega) (by rcases hk with rfl | rfl | hk <;> omega) (by rcases hk with rfl | rfl | hk <;> omega)⟩
      right := .inl ⟨cap', d', h5⟩
      n0 := hn0
      bne := ⟨hb2.1, hb2.2.1, by have := h7.size; omega⟩
      ne := ⟨hne.1, by omega, hne.2.2.1, by omega⟩
      lo := ⟨hlo.1, by omega⟩
      w0B := hw0
      below := h.below.trans (h7.below (by omega) (by omega) hsz) }
  rcases h.right with ⟨cap, d, hw⟩ | ⟨d, hRe, hw, hin, hN⟩
  · refine (next_any wr N0 B2 P2 g2 cap R d hw hR).mono fun e w' hpost => ?_
    rcases hpost with ⟨S1, E, L, t, tl, a', c', g', cap', h1, h2, h3, h4, h5, h6, h7⟩ | ⟨h1, h2, h3⟩
    · exact .inl ⟨S1, E, L, t, tl, a', c', g', h1, h2, h3, h4, fin _ _ _ _ _ h7 h6 h5, h6, h7⟩
    · exact .inr h1
  · refine (next_any wr B2 B2 P2 g2 1 R d hw hR).mono fun e w' hpost => ?_
    rcases hpost with ⟨S1, E, L, t, tl, a', c', g', cap', h1, h2, h3, h4, h5, h6, h7⟩ | ⟨h1, h2, h3⟩
    · refine .inl ⟨S1, E, L, t, tl, a', c', g', h1, h2, h3, h4, ?_, h6, h7⟩
      rw [hRe] at h1
      have e1 : S1 = [] ∧ L = Lev.mk (some ⟨b, 0, none⟩) 1 [T2] ∧ E = [] := by
        cases S1 with
        | nil => simp only [List.nil_append, List.cons.injEq] at h1; exact ⟨rfl, h1.1.symm, h1.2.symm⟩
        | cons x S1 => simp at h1
      obtain ⟨rfl, rfl, rfl⟩ := e1
      simp only [List.cons.injEq] at h3
      obtain ⟨rfl, rfl⟩ := h3
      have hin' : T2.In w' N0 := hin.kept fun k hk => h7.block k (by omega) (by omega) (by omega)
      refine fin _ _ _ _ _ h7 h6 { h5 with pN := hN, lv := fun L hL => ?_ }
      simp only [List.nil_append, List.mem_cons, List.not_mem_nil, or_false] at hL
      rcases hL with rfl | rfl
      · exact ⟨Nat.zero_le _, fun j hj => absurd hj (by simp), by simp⟩
      · exact hin'.lv'
    · exact .inr h1
end Go.Proofs.Ytpkmlfmkgodhkaa
/- SameVal of the program. -/
namespace Go.Proofs.Ytpkmlfmkgodhkaa
open Go.RowKit
theorem walkof_two (T : AT) (w : World) (N : Nat) (hin : T.In w N) (hN : N ≤ w.heap.size) (w1 : World) (hb1 : Below w.heap.size w w1) :
    Calls Try.prog 74 #[T.val] w1 fun e w' => ∃ P g b B, e = .returned (.pointer (some ⟨P, 0, none⟩)) ∧ (WalkAt w' B B P g 1 [⟨some ⟨b, 0, none⟩, 1, [T]⟩] 0 ∧ w1.heap.size ≤ B ∧ w1.heap.size ≤ b ∧ b < w'.heap.size) ∧ Below w1.heap.size w1 w' := by
  refine (walkof_any T w1 N (hin.blw hb1 hN) (Nat.le_trans hN hb1.size)).mono fun e w' h => ?_
  exact ⟨_, _, _, _, h.1, ⟨h.2.1, by omega, by omega, by have := h.2.2.2; omega⟩, h.2.2.1⟩
theorem vold {w w' : World} {k n x : Int} {s : ByteArray} {a : Option Addr} {len cap : Nat} (h : w'.heap[w.heap.size]? = (w.alloc (.cells #[.int .i64 k, .int .i64 n, .int .i64 x, .string s, .slice a len cap] 26)).heap[w.heap.size]?) :
    w'.cell? ⟨w.heap.size, 0, none⟩ = some (.int .i64 k) ∧ w'.cell? ⟨w.heap.size, 1, none⟩ = some (.int .i64 n) ∧ w'.cell? ⟨w.heap.size, 2, none⟩ = some (.int .i64 x) ∧ w'.cell? ⟨w.heap.size, 3, none⟩ = some (.string s) ∧ w'.cell? ⟨w.heap.size, 4, none⟩ = some (.slice a len cap) ∧ ∀ o, w'.frozen? ⟨w.heap.size, o, none⟩ = false := by
  refine ⟨?_, ?_, ?_, ?_, ?_, fun o => ?_⟩
  · rw [World.cell?_of_block h]; simp [go_sem]
  · rw [World.cell?_of_block h]; simp [go_sem]
  · rw [World.cell?_of_block h]; simp [go_sem]
  · rw [World.cell?_of_block h]; simp [go_sem]
  · rw [World.cell?_of_block h]; simp [go_sem]
  · rw [frozen_blk h]; simp [go_sem]
def lr (S : List Lev) : Nat := S.length + remN S
theorem lr_step (S1 E : List Lev) (L : Lev) (t : AT) (tl : List AT) (a c) (hE : ∀ L ∈ E, L.l = []) (hl : L.l = t :: tl) : lr (S1 ++ [Lev.mk a c tl, Lev.mk t.a t.cap t.l]) ≤ lr (S1 ++ L :: E) := by
  have := remN_step S1 E L t tl a c hE hl
  simp only [lr, List.length_append, List.length_cons, List.length_nil] at *
  omega
theorem lr_one (b : Nat) (T : AT) : lr [Lev.mk (some ⟨b, 0, none⟩) 1 [T]] = 1 + T.pt.cnt := by simp [lr, remN, AT.ptL, PT.cntL]
/-- the head of the loop: the step of the first walk is done (its value lies in box X), the second's is not -/
def HeadS (w wr : World) (N B1 P1 B2 P2 b : Nat) (U : AT) (tot : Bool) (X : Nat) : Prop :=
  ∃ (g1 g2 : Nat) (S1 E R : List Lev) (L : Lev) (t : AT) (tl : List AT) (a : Option Addr) (c : Nat),
    TwoAt w wr N B1 P1 g1 B2 P2 g2 b U (S1 ++ [Lev.mk a c tl, Lev.mk t.a t.cap t.l]) R ∧ CellsAt wr X 0 t ∧ (X ≠ P1 ∧ X ≠ g1 ∧ X ≠ P2 ∧ X ≠ g2 ∧ X ≠ b ∧ B1 ≤ X) ∧
    ((∀ L' ∈ E, L'.l = []) ∧ L.l = t :: tl ∧ lens (S1 ++ L :: E) = lens R ∧ sameS (S1 ++ L :: E) R = tot) ∧ lr (S1 ++ [Lev.mk a c tl, Lev.mk t.a t.cap t.l]) ≤ 4194304 ∧ lr R ≤ 4194304
set_option maxHeartbeats 4000000 in
set_option maxRecDepth 100000 in
theorem same_impl (T U : AT) (w : World) (N : Nat) (hin : T.In w N) (hin2 : U.In w N) (hN : N ≤ w.heap.size) (hsz : T.pt.sz ≤ 1048576) (hsz2 : U.pt.sz ≤ 1048576) :
    Calls Try.prog 23 #[T.val, U.val] w fun e w' => e = .returned (.bool (T.pt.same U.pt)) ∧ Below w.heap.size w w' := by
  have hcb : T.pt.cnt ≤ 1048577 := by have := cnt_le_sz T.pt; omega
  have hcb2 : U.pt.cnt ≤ 1048577 := by have := cnt_le_sz U.pt; omega
  have HWO := Lib.hid (walkof_two T w N hin hN)
  have HWO2 := Lib.hid (walkof_two U w N hin2 hN)
  have HLR : Hid (∀ b, lr [Lev.mk (some ⟨b, 0, none⟩) 1 [T]] ≤ 4194304) := Lib.hid (fun b => by rw [lr_one]; omega)
  have HLR2 : Hid (∀ b, lr [Lev.mk (some ⟨b, 0, none⟩) 1 [U]] ≤ 4194304) := Lib.hid (fun b => by rw [lr_one]; omega)
  have HIN2 := Lib.hid hin2
  have hs0 : ∀ b b2, sameS [Lev.mk (some ⟨b, 0, none⟩) 1 [T]] [Lev.mk (some ⟨b2, 0, none⟩) 1 [U]] = T.pt.same U.pt := fun b b2 => by simp [sameS, AT.ptL, PT.sameL]
  have HS0 := Lib.hid hs0
  obtain ⟨tot, htot⟩ : ∃ tot, tot = T.pt.same U.pt := ⟨_, rfl⟩
  rw [← htot] at HS0 ⊢
  clear hcb hcb2 hin hin2 hs0 htot hsz hsz2
  show Calls Try.prog 23 #[.agg #[.int .i64 T.k, .int .i64 T.n, .int .i64 T.x, .string ⟨T.s.toArray⟩, .slice T.a T.l.length T.cap], .agg #[.int .i64 U.k, .int .i64 U.n, .int .i64 U.x, .string ⟨U.s.toArray⟩, .slice U.a U.l.length U.cap]] w _
  go_enter Try.func23, Try.ntmps23
  go_wp2_with fail
  have hb0 := two' w (.cells #[.int .i64 T.k, .int .i64 T.n, .int .i64 T.x, .string ⟨T.s.toArray⟩, .slice T.a T.l.length T.cap] 26) (.cells #[.int .i64 U.k, .int .i64 U.n, .int .i64 U.x, .string ⟨U.s.toArray⟩, .slice U.a U.l.length U.cap] 26)
  have hc0 : ((w.alloc (.cells #[.int .i64 T.k, .int .i64 T.n, .int .i64 T.x, .string ⟨T.s.toArray⟩, .slice T.a T.l.length T.cap] 26)).alloc (.cells #[.int .i64 U.k, .int .i64 U.n, .int .i64 U.x, .string ⟨U.s.toArray⟩, .slice U.a U.l.length U.cap] 26)).cell? ⟨w.heap.size, 0, none⟩ = some (.int .i64 T.k) ∧ ((w.alloc (.cells #[.int .i64 T.k, .int .i64 T.n, .int .i64 T.x, .string ⟨T.s.toArray⟩, .slice T.a T.l.length T.cap] 26)).alloc (.cells #[.int .i64 U.k, .int .i64 U.n, .int .i64 U.x, .string ⟨U.s.toArray⟩, .slice U.a U.l.length U.cap] 26)).cell? ⟨w.heap.size, 1, none⟩ = some (.int .i64 T.n) ∧ ((w.alloc (.cells #[.int .i64 T.k, .int .i64 T.n, .int .i64 T.x, .string ⟨T.s.toArray⟩, .slice T.a T.l.length T.cap] 26)).alloc (.cells #[.int .i64 U.k, .int .i64 U.n, .int .i64 U.x, .string ⟨U.s.toArray⟩, .slice U.a U.l.length U.cap] 26)).cell? ⟨w.heap.size, 2, none⟩ = some (.int .i64 T.x) ∧ ((w.alloc (.cells #[.int .i64 T.k, .int .i64 T.n, .int .i64 T.x, .string ⟨T.s.toArray⟩, .slice T.a T.l.length T.cap] 26)).alloc (.cells #[.int .i64 U.k, .int .i64 U.n, .int .i64 U.x, .string ⟨U.s.toArray⟩, .slice U.a U.l.length U.cap] 26)).cell? ⟨w.heap.size, 3, none⟩ = some (.string ⟨T.s.toArray⟩) ∧ ((w.alloc (.cells #[.int .i64 T.k, .int .i64 T.n, .int .i64 T.x, .string ⟨T.s.toArray⟩, .slice T.a T.l.length T.cap] 26)).alloc (.cells #[.int .i64 U.k, .int .i64 U.n, .int .i64 U.x, .string ⟨U.s.toArray⟩, .slice U.a U.l.length U.cap] 26)).cell? ⟨w.heap.size, 4, none⟩ = some (.slice T.a T.l.length T.cap) := by refine ⟨?_, ?_, ?_, ?_, ?_⟩ <;> simp [go_sem]
  have hd0 : ((w.alloc (.cells #[.int .i64 T.k, .int .i64 T.n, .int .i64 T.x, .string ⟨T.s.toArray⟩, .slice T.a T.l.length T.cap] 26)).alloc (.cells #[.int .i64 U.k, .int .i64 U.n, .int .i64 U.x, .string ⟨U.s.toArray⟩, .slice U.a U.l.length U.cap] 26)).cell? ⟨w.heap.size + 1, 0, none⟩ = some (.int .i64 U.k) ∧ ((w.alloc (.cells #[.int .i64 T.k, .int .i64 T.n, .int .i64 T.x, .string ⟨T.s.toArray⟩, .slice T.a T.l.length T.cap] 26)).alloc (.cells #[.int .i64 U.k, .int .i64 U.n, .int .i64 U.x, .string ⟨U.s.toArray⟩, .slice U.a U.l.length U.cap] 26)).cell? ⟨w.heap.size + 1, 1, none⟩ = some (.int .i64 U.n) ∧ ((w.alloc (.cells #[.int .i64 T.k, .int .i64 T.n, .int .i64 T.x, .string ⟨T.s.toArray⟩, .slice T.a T.l.length T.cap] 26)).alloc (.cells #[.int .i64 U.k, .int .i64 U.n, .int .i64 U.x, .string ⟨U.s.toArray⟩, .slice U.a U.l.length U.cap] 26)).cell? ⟨w.heap.size + 1, 2, none⟩ = some (.int .i64 U.x) ∧ ((w.alloc (.cells #[.int .i64 T.k, .int .i64 T.n, .int .i64 T.x, .string ⟨T.s.toArray⟩, .slice T.a T.l.length T.cap] 26)).alloc (.cells #[.int .i64 U.k, .int .i64 U.n, .int .i64 U.x, .string ⟨U.s.toArray⟩, .slice U.a U.l.length U.cap] 26)).cell? ⟨w.heap.size + 1, 3, none⟩ = some (.string ⟨U.s.toArray⟩) ∧ ((w.alloc (.cells #[.int .i64 T.k, .int .i64 T.n, .int .i64 T.x, .string ⟨T.s.toArray⟩, .slice T.a T.l.length T.cap] 26)).alloc (.cells #[.int .i64 U.k, .int .i64 U.n, .int .i64 U.x, .string ⟨U.s.toArray⟩, .slice U.a U.l.length U.cap] 26)).cell? ⟨w.heap.size + 1, 4, none⟩ = some (.slice U.a U.l.length U.cap) := by refine ⟨?_, ?_, ?_, ?_, ?_⟩ <;> simp [go_sem]
  generalize ((w.alloc (.cells #[.int .i64 T.k, .int .i64 T.n, .int .i64 T.x, .string ⟨T.s.toArray⟩, .slice T.a T.l.length T.cap] 26)).alloc (.cells #[.int .i64 U.k, .int .i64 U.n, .int .i64 U.x, .string ⟨U.s.toArray⟩, .slice U.a U.l.length U.cap] 26)) = W0 at *
  obtain ⟨c0, c1, c2, c3, c4⟩ := hc0
  obtain ⟨d0, d1, d2, d3, d4⟩ := hd0
  go_region_held3 (fun W' => W'.cell? ⟨w.heap.size, 0, none⟩ = some (.int .i64 T.k) ∧ W'.cell? ⟨w.heap.size, 1, none⟩ = some (.int .i64 T.n) ∧ W'.cell? ⟨w.heap.size, 2, none⟩ = some (.int .i64 T.x) ∧ W'.cell? ⟨w.heap.size, 3, none⟩ = some (.string ⟨T.s.toArray⟩) ∧ W'.cell? ⟨w.heap.size, 4, none⟩ = some (.slice T.a T.l.length T.cap) ∧ W'.cell? ⟨w.heap.size + 1, 0, none⟩ = some (.int .i64 U.k) ∧ W'.cell? ⟨w.heap.size + 1, 1, none⟩ = some (.int .i64 U.n) ∧ W'.cell? ⟨w.heap.size + 1, 2, none⟩ = some (.int .i64 U.x) ∧ W'.cell? ⟨w.heap.size + 1, 3, none⟩ = some (.string ⟨U.s.toArray⟩) ∧ W'.cell? ⟨w.heap.size + 1, 4, none⟩ = some (.slice U.a U.l.length U.cap) ∧ Below w.heap.size w W') (first | (refine ⟨⟨?_, ?_, ?_, ?_, ?_⟩, ⟨?_, ?_, ?_, ?_, ?_⟩, ?_⟩ <;> assumption) | (refine ⟨?_, ?_, ?_, ?_, ?_, ?_, ?_, ?_, ?_, ?_, ?_⟩ <;> assumption) | (refine ⟨?_, ?_, ?_, ?_, ?_, ?_, ?_, ?_, ?_, ?_, Below.drew ?_⟩ <;> assumption) | (refine keep11 (by assumption) ⟨?_, ?_, ?_, ?_, ?_, ?_, ?_, ?_, ?_, ?_, ?_⟩ <;> assumption)) ((first | (go_at_call 74; go_split_ands; ((with_reducible refine (HWO.out _ (by assumption)).mono ?_); rintro e w1 ⟨P1, g1, b1, B1, rfl, hw1, hb1⟩; have HW1 := Lib.hid hw1; clear hw1)) | (go_at_call 74; go_split_ands; ((with_reducible refine (HWO2.out _ (by assumption)).mono ?_); rintro e w2 ⟨P2, g2, b2, B2, rfl, hw2, hb2⟩; have HW2 := Lib.hid hw2; clear hw2))))
  have hbw1 : Below w.heap.size w w1 := by assumption
  have htwo : TwoAt w w2 N B1 P1 g1 B2 P2 g2 b2 U [Lev.mk (some ⟨b1, 0, none⟩) 1 [T]] [Lev.mk (some ⟨b2, 0, none⟩) 1 [U]] := by
    obtain ⟨hw1, hB1, hb1b, hb1l⟩ := HW1.out
    obtain ⟨hw2, hB2, hbb2, hbl2⟩ := HW2.out
    have l1 := hw1.lt
    have l2 := hw2.lt
    have l3 := hw2.pB
    have l4 := hb0.size
    have l5 := hbw1.size
    have l6 : W0.heap.size ≤ B1 := hB1
    have hb02 : Below w.heap.size w w2 := hbw1.trans (hb2.mono hbw1.size)
    exact {
      left := ⟨1, 0, hw1.blw hb2⟩
      right := .inr ⟨0, rfl, hw2, HIN2.out.blw hb02 hN, by omega⟩
      n0 := by omega
      bne := ⟨by omega, by omega, hbl2⟩
      ne := ⟨by omega, by omega, by omega, by omega⟩
      lo := ⟨by omega, by omega⟩
      w0B := by omega
      below := hb02 }
  have HTWO := Lib.hid htwo
  clear htwo hb1 hb2 HW1 HW2 HIN2 hbw1 c0 c1 c2 c3 c4 d0 d1 d2 d3 d4 hb0 HWO HWO2
  go_wp2_with fail
  refine (left_next HTWO.out (by simp)).mono ?_
  rintro e w3 (⟨S1, E, L, t, tl, a', c', g1', hS, hE, hL, rfl, htw, hg, ho⟩ | ⟨hS, -⟩)
  case inr => exact absurd (hS _ (List.mem_singleton.2 rfl)) (by simp)
  have hX := htw.lt
  have hXb := htw.bne.2.2
  have hhead : HeadS w (w3.alloc (.cells #[.int .i64 t.k, .int .i64 t.n, .int .i64 t.x, .string ⟨t.s.toArray⟩, .slice t.a t.l.length t.cap] 26)) N B1 P1 B2 P2 b2 U tot w3.heap.size := by
    refine ⟨g1', g2, S1, E, _, L, t, tl, a', c', htw.blw (vbox _ _), ?_, ⟨by omega, by omega, by omega, by omega, by omega, by omega⟩, ⟨hE, hL, ?_, ?_⟩, ?_, HLR2.out b2⟩
    · refine ⟨?_, ?_, ?_, ?_, ?_⟩ <;> simp [go_sem]
    · rw [← hS]; rfl
    · rw [← hS]; exact HS0.out _ _
    · have := lr_step S1 E L t tl a' c' hE hL
      rw [← hS] at this
      exact Nat.le_trans this (HLR.out b1)
  have HHEAD := Lib.hid hhead
  clear hS hE hL htw hg ho hhead hX hXb HTWO HLR HLR2 HS0
  go_wp2_with fail
  obtain ⟨M, hM1, hM0⟩ := leftM_ex P1
  have HM1 := Lib.hid hM1
  have HM0 := Lib.hid hM0
  clear hM1 hM0
  go_loopw [7, 8] (fun x more wr => ∃ bo : Bool, more = .bool bo ∧ ((bo = true ∧ ∃ X : Nat, x = .pointer (some ⟨X, 0, none⟩) ∧ HeadS w wr N B1 P1 B2 P2 b2 U tot X) ∨ (bo = false ∧ tot = true ∧ Below w.heap.size w wr))) (fun _ m wr => M m wr)
  case atStart => exact ⟨true, rfl, .inl ⟨rfl, _, rfl, HHEAD.out⟩⟩
  case round =>
    obtain ⟨bo, rfl, ⟨rfl, X, rfl, hh⟩ | ⟨rfl, hcC, hbf⟩⟩ := hrel
    · obtain ⟨g1, g2, S1, E, R, L, t, tl, a', c', htw, hx, hX, ⟨hE, hL, hlens, hsame⟩, hl1, hl2⟩ := hh
      obtain ⟨c0, c1, c2, c3, c4⟩ := hx
      have HTW := Lib.hid htw
      have HF := Lib.hid (And.intro hE (And.intro hL (And.intro hlens hsame)))
      have HX := Lib.hid hX
      have HL1 := Lib.hid hl1
      have hR : R.length ≤ 4194304 := by simp only [lr] at hl2; omega
      have HL2 := Lib.hid hl2
      clear htw hE hL hlens hsame hX hl1 hl2
      go_wp2_with fail
      refine (right_next HTW.out hR).mono ?_
      rintro e w4 (⟨R1, F, V, u, ul, a2', c2', g2', hS, hE, hL, rfl, htw, hg, ho⟩ | hS)
      case inr =>
        obtain ⟨_, hL, hlens, _⟩ := HF.out
        have := lens_none hlens.symm hS L (by simp)
        rw [hL] at this; cases this
      obtain ⟨hX1, hX2, hX3, hX4, hX5, hX6⟩ := HX.out
      have hXlt : X < wr.heap.size := cell_lt c0
      have hx4 : CellsAt w4 X 0 t := CellsAt.keep ⟨c0, c1, c2, c3, c4⟩ (ho.block X hXlt hX3 hX4)
      have hXl4 : X < w4.heap.size := cell_lt hx4.c0
      have hXn4 : ¬ X = w4.heap.size := by omega
      have hst := sameS_step a' c' a2' c2' HF.out.1 hE HF.out.2.1 hL (by rw [← hS]; exact HF.out.2.2.1)
      rw [← hS, HF.out.2.2.2] at hst
      have hlr := lr_step R1 F V u ul a2' c2' hE hL
      rw [← hS] at hlr
      have HST := Lib.hid hst
      have HLR := Lib.hid (Nat.le_trans hlr HL2.out)
      have HTW4 := Lib.hid htw
      obtain ⟨cap1, dd1, hwl⟩ := HTW.out.left
      have HWL := Lib.hid hwl
      clear hS hE hL htw hg ho hst hlr hwl HTW HF HL2 c0 c1 c2 c3 c4
      obtain ⟨c0, c1, c2, c3, c4⟩ := hx4
      go_wp2_with fail
      refine (fields_impl t u _).mono ?_
      rintro e w6 ⟨rfl, hb6⟩
      have HB46 := Lib.hid (Below.trans (vbox w4 (.cells #[.int .i64 u.k, .int .i64 u.n, .int .i64 u.x, .string ⟨u.s.toArray⟩, .slice u.a u.l.length u.cap] 26)) (hb6.mono (by simp)))
      replace c0 := keep_below HB46.out c0
      replace c1 := keep_below HB46.out c1
      replace c2 := keep_below HB46.out c2
      replace c3 := keep_below HB46.out c3
      replace c4 := keep_below HB46.out c4
      have HTW6 := Lib.hid (HTW4.out.blw HB46.out)
      clear hb6 HTW4
      cases hhd : t.hd u
      · have HT : Hid (tot = false) := Lib.hid (by rw [HST.out.1, hhd]; rfl)
        clear hhd
        go_wp2
        go_ret
        exact ⟨by rw [HT.out]; rfl, HTW6.out.below⟩
      · have HHD := Lib.hid hhd
        clear hhd
        have HTW7 := Lib.hid (HTW6.out.blw (vbox w6 (.cells #[.int .i64 t.k, .int .i64 t.n, .int .i64 t.x, .string ⟨t.s.toArray⟩, .slice t.a t.l.length t.cap] 26)))
        go_wp2_with fail
        refine (left_next HTW7.out (by have := HL1.out; simp only [lr] at this; omega)).mono ?_
        have hl6 := HTW6.out.lt
        have hbl := HTW6.out.bne.2.2
        rintro e w8 (⟨S1', E', L', t', tl', a1', c1', g1', hS, hE, hL, rfl, htw, hg, ho⟩ | ⟨hS, rfl, ho, hb⟩)
        · have hblk := ho.block w6.heap.size (by simp) (by omega) (by omega)
          have hz := vold hblk
          obtain ⟨d0, d1, d2, d3, d4, df⟩ := hz
          have hn := htw.ne
          have h1 := HTW6.out.lt
          simp only [World.size_alloc] at hg
          have hXX : w6.heap.size ≠ P1 ∧ w6.heap.size ≠ g1' ∧ w6.heap.size ≠ P2 ∧ w6.heap.size ≠ g2' ∧ w6.heap.size ≠ b2 ∧ B1 ≤ w6.heap.size := ⟨by omega, by omega, by omega, by omega, by omega, by omega⟩
          have htw' := ((((htw.setX (o := 0) (u := .int .i64 t'.k) hXX).setX (o := 1) (u := .int .i64 t'.n) hXX).setX (o := 2) (u := .int .i64 t'.x) hXX).setX (o := 3) (u := .string ⟨t'.s.toArray⟩) hXX).setX (o := 4) (u := .slice t'.a t'.l.length t'.cap) hXX
          have hms : M (.bool true) (((((w8.setCell ⟨w6.heap.size, 0, none⟩ (.int .i64 t'.k)).setCell ⟨w6.heap.size, 1, none⟩ (.int .i64 t'.n)).setCell ⟨w6.heap.size, 2, none⟩ (.int .i64 t'.x)).setCell ⟨w6.heap.size, 3, none⟩ (.string ⟨t'.s.toArray⟩)).setCell ⟨w6.heap.size, 4, none⟩ (.slice t'.a t'.l.length t'.cap)) < M (.bool true) wr := by
            obtain ⟨_, _, hw'⟩ := htw'.left
            rw [HM1.out _ _ _ _ _ _ _ hw', HM1.out _ _ _ _ _ _ _ HWL.out, hS, remN_step S1' E' L' t' tl' a1' c1' hE hL]
            omega
          have hhead : HeadS w (((((w8.setCell ⟨w6.heap.size, 0, none⟩ (.int .i64 t'.k)).setCell ⟨w6.heap.size, 1, none⟩ (.int .i64 t'.n)).setCell ⟨w6.heap.size, 2, none⟩ (.int .i64 t'.x)).setCell ⟨w6.heap.size, 3, none⟩ (.string ⟨t'.s.toArray⟩)).setCell ⟨w6.heap.size, 4, none⟩ (.slice t'.a t'.l.length t'.cap)) N B1 P1 B2 P2 b2 U tot w6.heap.size := by
            refine ⟨g1', g2', S1', E', _, L', t', tl', a1', c1', htw', ?_, hXX, ⟨hE, hL, ?_, ?_⟩, ?_, HLR.out⟩
            · refine ⟨?_, ?_, ?_, ?_, ?_⟩ <;> simp [go_sem, d0, d1, d2, d3, d4]
            · rw [← hS]; exact HST.out.2 HHD.out
            · rw [← hS, HST.out.1, HHD.out]; rfl
            · have := lr_step S1' E' L' t' tl' a1' c1' hE hL
              rw [← hS] at this
              exact Nat.le_trans this HL1.out
          have HMS := Lib.hid hms
          have HHEAD := Lib.hid hhead
          clear hS hE hL htw hg ho htw' hms hhead hn h1 hXX hblk hl6 hbl
          go_wp2
          go_roundw
          case rel => exact ⟨true, rfl, .inl ⟨rfl, _, rfl, HHEAD.out⟩⟩
          case measure => exact HMS.out
        · have hblk := ho.block w6.heap.size (by simp) (by omega) (by omega)
          obtain ⟨d0, d1, d2, d3, d4, df⟩ := vold hblk
          have HT : Hid (tot = true) := Lib.hid (by rw [HST.out.1, HHD.out, sameS_empty _ _ hS]; rfl)
          have hww : w.heap.size ≤ w6.heap.size := HTW6.out.below.size
          have HBF := Lib.hid (bset (bset (bset (bset (bset hb hww (o := 0) (u := .int .i64 0)) hww (o := 1) (u := .int .i64 0)) hww (o := 2) (u := .int .i64 0)) hww (o := 3) (u := .string ⟨#[]⟩)) hww (o := 4) (u := .slice none 0 0))
          have HMS : Hid (∀ w9 : World, M (.bool false) w9 < M (.bool true) wr) := Lib.hid (fun w9 => by rw [HM0.out, HM1.out _ _ _ _ _ _ _ HWL.out]; omega)
          clear hS ho hb hblk hl6 hbl hww
          go_wp2
          go_roundw
          case rel => exact ⟨false, rfl, .inr ⟨rfl, HT.out, HBF.out⟩⟩
          case measure => exact HMS.out _
    · have HBF := Lib.hid hbf
      have HCC := Lib.hid hcC
      clear hbf hcC
      go_wp2
      go_ret
      exact ⟨by rw [HCC.out]; rfl, HBF.out⟩
end Go.Proofs.Ytpkmlfmkgodhkaa
/- Lookup of the program. -/
namespace Go.Proofs.Ytpkmlfmkgodhkaa
open Go.RowKit Go.Shelf
set_option maxRecDepth 100000
theorem four_boxes (w : World) (k n x k2 n2 x2 : Int) (s s2 : ByteArray) (a a2 : Option Addr) (len cap len2 cap2 : Nat) (t tb : TypeId) :
    let W := (((w.alloc (.cells #[.int .i64 k, .int .i64 n, .int .i64 x, .string s, .slice a len cap] t)).alloc (.cells #[.int .i64 k2, .int .i64 n2, .int .i64 x2, .string s2, .slice a2 len2 cap2] t)).alloc (.cells #[.int .i64 0, .int .i64 0, .int .i64 0, .string ⟨#[]⟩, .slice none 0 0] t)).alloc (.cells #[.bool false] tb)
    VC W w.heap.size k n x s a len cap ∧ VC W (w.heap.size + 1) k2 n2 x2 s2 a2 len2 cap2 ∧ VC W (w.heap.size + 2) 0 0 0 ⟨#[]⟩ none 0 0 ∧ (∀ o, W.frozen? ⟨w.heap.size + 2, o, none⟩ = false) ∧ W.cell? ⟨w.heap.size + 3, 0, none⟩ = some (.bool false) ∧ (∀ o, W.frozen? ⟨w.heap.size + 3, o, none⟩ = false) ∧ Below w.heap.size w W ∧ W.heap.size = w.heap.size + 4 := by
  refine ⟨⟨?_, ?_, ?_, ?_, ?_⟩, ⟨?_, ?_, ?_, ?_, ?_⟩, ⟨?_, ?_, ?_, ?_, ?_⟩, fun o => ?_, ?_, fun o => ?_, (boxes3 w _ _ _).alloc (by simp; omega) _, by simp⟩ <;> simp [go_sem]
theorem look_def (T : AT) (p : PT) : T.pt.look p = if T.pt.even = true then (match lookL (AT.ptL T.l) p with | some v => (v, true) | none => (zeroPT, false)) else (zeroPT, false) := by
  obtain ⟨k, n, x, s, a, cap, l⟩ := T
  rfl
theorem even_len {T : AT} (h : T.pt.even = true) : T.k = 10 ∧ T.l.length % 2 = 0 := by
  obtain ⟨k, n, x, s, a, cap, l⟩ := T
  have := (even_iff (k := k) (n := n) (x := x) (s := s) (l := AT.ptL l)).1 h
  exact ⟨this.1, by simpa [AT.l] using this.2⟩
theorem names_len {T : AT} (h : T.k = 10 ∧ T.l.length % 2 = 0) : 2 * T.names.length = T.l.length := by
  unfold AT.names
  rw [if_pos h.1, evens_length]
  omega
theorem names_get {T : AT} (h : T.k = 10 ∧ T.l.length % 2 = 0) : ∀ i (h1 : i < T.names.length) (h2 : 2 * i < T.l.length), T.names[i] = T.l[2 * i] := fun i h1 h2 => by
  have := evens_get T.l i h2
  have e : T.names = evens T.l := if_pos h.1
  rw [← e, List.getElem?_eq_getElem h1] at this
  simpa using this
theorem vcell1 (w : World) (v : Value) (t : TypeId) : (w.alloc (.cells #[v] t)).cell? ⟨w.heap.size, 0, none⟩ = some v := by simp [go_sem]
theorem vcone (w : World) (T : AT) (t : TypeId) : VC (w.alloc (.cells #[.int .i64 T.k, .int .i64 T.n, .int .i64 T.x, .string ⟨T.s.toArray⟩, .slice T.a T.l.length T.cap] t)) w.heap.size T.k T.n T.x ⟨T.s.toArray⟩ T.a T.l.length T.cap := by
  refine ⟨?_, ?_, ?_, ?_, ?_⟩ <;> simp [go_sem]
theorem VC.keptG {Wa Wb : World} {b : Nat} {k n x : Int} {s : ByteArray} {a : Option Addr} {len cap : Nat} {row : Option Nat} (h : VC Wa b k n x s a len cap) (hg : Wa.grownBy Wb row) (hr : ∀ r, row = some r → ∃ o : Obj, Wa.heap[r]? = some o ∧ o.isCells = false) : VC Wb b k n x s a len cap :=
  ⟨cell_kept h.c0 hg hr, cell_kept h.c1 hg hr, cell_kept h.c2 hg hr, cell_kept h.c3 hg hr, cell_kept h.c4 hg hr⟩
theorem AT.Own.cellsAt {w : World} {B : Nat} {T : AT} (h : T.Own w B) : ∀ k ∈ T.blks, ∃ o : Obj, w.heap[k]? = some o ∧ o.isCells = true := by
  induction T using AT.ind with
  | h k n x s a cap l ih =>
    cases h with
    | mk hrow hsub =>
      intro j hj
      simp only [AT.blks, List.mem_append] at hj
      rcases hj with hj | hj
      · rcases hrow.2 with ⟨hn, h0⟩ | ⟨g, cap', cur, hv, hb, hg, _⟩
        · injection hn with e1
          subst e1
          simp at hj
        · injection hv with e1
          subst e1
          simp at hj
          subst hj
          exact ⟨_, hg, rfl⟩
      · obtain ⟨t, ht, hjt⟩ := AT.mem_blksL.1 hj
        exact ih t ht (hsub t ht) j hjt
theorem AT.Own.keptG {Wa Wb : World} {B0 : Nat} {X : AT} {row : Option Nat} (h : X.Own Wa B0) (hg : Wa.grownBy Wb row) (hr : ∀ r, row = some r → ∃ o : Obj, Wa.heap[r]? = some o ∧ o.isCells = false) : X.Own Wb B0 :=
  h.kept fun k hk => hg.block k (h.lt k hk).2 (fun e => by
    obtain ⟨o, ho, hc⟩ := hr k e.symm
    obtain ⟨o', ho', hc'⟩ := h.cellsAt k hk
    rw [ho] at ho'
    injection ho' with e2
    subst e2
    rw [hc] at hc'
    cases hc')
theorem keepsFrom_below {W W' : World} {B : Nat} (h : Below W.heap.size W W') : KeepsFrom B W W' :=
  ⟨h.size, fun k o _ hk _ => (h.block k (Array.getElem?_eq_some_iff.1 hk).1).trans hk⟩
theorem lookL_all {T : AT} {p : PT} {ns : List AT} (h : 2 * ns.length = T.l.length) (hn : ∀ i (h1 : i < ns.length) (h2 : 2 * i < T.l.length), ns[i] = T.l[2 * i]) (ha : ∀ i (h1 : i < ns.length), (ns[i]).pt.same p = false) : lookL (AT.ptL T.l) p = none :=
  lookL_none _ _ fun j hj => by
    rw [AT.ptL_length] at hj
    have h1 : j < ns.length := by omega
    rw [ptL_get T.l (2 * j) (by omega), ← hn j h1 (by omega)]
    exact ha j h1
theorem lookL_at {T : AT} {p : PT} {ns : List AT} (h : 2 * ns.length = T.l.length) (hn : ∀ i (h1 : i < ns.length) (h2 : 2 * i < T.l.length), ns[i] = T.l[2 * i]) (j : Nat) (hj : j < ns.length) (hs : (ns[j]).pt.same p = true) (ha : ∀ i (h1 : i < ns.length), j < i → (ns[i]).pt.same p = false) :
    lookL (AT.ptL T.l) p = some (T.l[2 * j + 1]'(by omega)).pt := by
  have h2 : 2 * j + 1 < T.l.length := by omega
  rw [lookL_some (AT.ptL T.l) p j (by rw [AT.ptL_length]; exact h2) (by rw [ptL_get T.l (2 * j) (by omega), ← hn j hj (by omega)]; exact hs) (fun i hi hji => by
    rw [AT.ptL_length] at hi
    have h1 : i < ns.length := by omega
    rw [ptL_get T.l (2 * i) (by omega), ← hn i h1 (by omega)]
    exact ha i h1 hji), ptL_get T.l (2 * j + 1) h2]
set_option maxHeartbeats 2000000 in
theorem look_odd (T U : AT) (w : World) (hll : T.l.length ≤ 1048576) (he : T.pt.even = false) : Calls Try.prog 46 #[T.val, U.val] w (LookPost w (zeroPT, false)) := by
  have HMAP := Lib.hid (fun (w1 : World) => haspairs_impl T w1 (by omega))
  rw [he] at HMAP
  clear hll he
  have h3 := four_boxes w T.k T.n T.x U.k U.n U.x ⟨T.s.toArray⟩ ⟨U.s.toArray⟩ T.a U.a T.l.length T.cap U.l.length U.cap 26 4
  show Calls Try.prog 46 #[.agg #[.int .i64 T.k, .int .i64 T.n, .int .i64 T.x, .string ⟨T.s.toArray⟩, .slice T.a T.l.length T.cap], .agg #[.int .i64 U.k, .int .i64 U.n, .int .i64 U.x, .string ⟨U.s.toArray⟩, .slice U.a U.l.length U.cap]] w _
  go_enter Try.func46, Try.ntmps46
  go_wp2_with fail
  try dsimp only at h3
  generalize ((((w.alloc (.cells #[.int .i64 T.k, .int .i64 T.n, .int .i64 T.x, .string ⟨T.s.toArray⟩, .slice T.a T.l.length T.cap] 26)).alloc (.cells #[.int .i64 U.k, .int .i64 U.n, .int .i64 U.x, .string ⟨U.s.toArray⟩, .slice U.a U.l.length U.cap] 26)).alloc (.cells #[.int .i64 0, .int .i64 0, .int .i64 0, .string ⟨#[]⟩, .slice none 0 0] 26)).alloc (.cells #[.bool false] 4)) = W0 at *
  obtain ⟨-, -, hZ, hzf, hb0, hbf, hB, hz⟩ := h3
  refine (HMAP.out _).mono ?_
  rintro e w1 ⟨rfl, hb1⟩
  have HB := Lib.hid (hB.trans (hb1.mono (by omega)))
  obtain ⟨z0, z1, z2, z3, z4⟩ := hZ.blw hb1
  have zf : ∀ o, w1.frozen? ⟨w.heap.size + 2, o, none⟩ = false := fun o => by rw [frozen_blk' (hb1.block _ (by omega))]; exact hzf o
  have bf : ∀ o, w1.frozen? ⟨w.heap.size + 3, o, none⟩ = false := fun o => by rw [frozen_blk' (hb1.block _ (by omega))]; exact hbf o
  have b0 := keep_below hb1 hb0
  clear hZ hzf hb0 hbf hB hz hb1
  go_wp2
  refine bodyPost_ret (v := .tuple #[.agg #[.int .i64 0, .int .i64 0, .int .i64 0, .string ⟨#[]⟩, .slice none 0 0], .bool false]) (by simp [results, Try.results46, go_sem, z0, z1, z2, z3, z4, b0]) rfl ?_
  exact ⟨zeroAT, zeroAT_pt, rfl, AT.leaf_own _ _ 0 0 0 [], by simp [zeroAT, AT.blks, AT.blksL], bset (bset (bset (bset (bset (bset HB.out (by omega)) (by omega)) (by omega)) (by omega)) (by omega)) (by omega)⟩
attribute [local go_sem] Oper.semAt_some
set_option maxHeartbeats 4000000 in
theorem look_even (T U : AT) (w : World) (B0 N : Nat) (hown : T.Own w B0) (hin2 : U.In w w.heap.size) (hsz : T.pt.sz ≤ 1048576) (hsz2 : U.pt.sz ≤ 1048576) (he : T.pt.even = true) : Calls Try.prog 46 #[T.val, U.val] w (LookPost w (T.pt.look U.pt)) := by
  have hll : T.l.length ≤ 1048576 := by have := len_le_sz T; omega
  have HMAP := Lib.hid (fun (w1 : World) => haspairs_impl T w1 (by omega))
  rw [he] at HMAP
  have HNI := Lib.hid (fun (w1 : World) (hb : Below w.heap.size w w1) => names_impl T w1 w.heap.size (hown.in.blw hb (Nat.le_refl _)) hll hb.size)
  have h3 := four_boxes w T.k T.n T.x U.k U.n U.x ⟨T.s.toArray⟩ ⟨U.s.toArray⟩ T.a U.a T.l.length T.cap U.l.length U.cap 26 4
  obtain ⟨p, hp⟩ : ∃ p, p = U.pt := ⟨_, rfl⟩
  have HL : Hid (T.pt.look U.pt = match lookL (AT.ptL T.l) p with | some v => (v, true) | none => (zeroPT, false)) := Lib.hid (by rw [look_def, he, hp]; rfl)
  obtain ⟨r, hr⟩ : ∃ r, r = T.pt.look U.pt := ⟨_, rfl⟩
  rw [← hr] at HL ⊢
  have HE2 := Lib.hid (even_len he)
  have HCPS : Hid (∀ t ∈ T.l, t.pt.sz ≤ 1048576) := Lib.hid (fun t ht => by
    have h1 := szL_ge ht
    have h2 : PT.szL (AT.ptL T.l) ≤ T.pt.sz := by obtain ⟨k, n, x, s, a, cap, l⟩ := T; simp [AT.pt, PT.sz, AT.l]; omega
    omega)
  have HT := Lib.hid hown.in.lv'
  clear hr he
  refine (callsIn_wide (n := 6)).1 ?_
  refine callsIn_of_wp_marks Try.func46 rfl trivial ?_ rfl
  simp only [Try.ntmps46, List.size_toArray, List.length_cons, List.length_nil, Nat.reduceAdd, Nat.reduceSub, Array.replicate_succ, Array.replicate_zero, List.push_toArray, List.append_toArray, List.nil_append, List.cons_append]
  gi_wp2_with fail
  try dsimp only at h3
  generalize ((((w.alloc (.cells #[.int .i64 T.k, .int .i64 T.n, .int .i64 T.x, .string ⟨T.s.toArray⟩, .slice T.a T.l.length T.cap] 26)).alloc (.cells #[.int .i64 U.k, .int .i64 U.n, .int .i64 U.x, .string ⟨U.s.toArray⟩, .slice U.a U.l.length U.cap] 26)).alloc (.cells #[.int .i64 0, .int .i64 0, .int .i64 0, .string ⟨#[]⟩, .slice none 0 0] 26)).alloc (.cells #[.bool false] 4)) = W0 at *
  have H3 := Lib.hid h3
  have HB0 := Lib.hid h3.2.2.2.2.2.2.1
  have hz0 : W0.heap.size = w.heap.size + 4 := h3.2.2.2.2.2.2.2
  have hwz : w.heap.size + 4 ≤ W0.heap.size := by omega
  clear h3 hz0
  refine ⟨trivial, (callsIn_wide.2 (HMAP.out _)).mono ?_⟩
  rintro e w1 ⟨rfl, hb1⟩
  have HR1 := Lib.hid ((Rl.refl W0).below hb1)
  have HB1 := Lib.hid (HB0.out.trans (HR1.out.b.mono (by omega)))
  obtain ⟨c0, c1, c2, c3, c4⟩ := H3.out.1.blw HR1.out.b
  clear hb1
  gi_wp2_with fail
  refine ⟨trivial, (callsIn_wide.2 (HNI.out _ HB1.out)).mono ?_⟩
  rintro e w2 ⟨a2, cap2, rfl, hrow, hb2⟩
  have HR2 := Lib.hid (HR1.out.below hb2)
  have HB2 := Lib.hid (HB0.out.trans (HR2.out.b.mono (by omega)))
  have HLV := Lib.hid (hrow.lv HB2.out.size)
  clear c0 c1 c2 c3 c4 hb2 hrow
  gi_wp2_with fail
  refine ⟨trivial, (callsIn_wide.2 (back_in _ _ _ _)).mono ?_⟩
  rintro e w3 ⟨rfl, rfl⟩
  gi_wp2_with fail
  have hnl := names_len HE2.out
  have hng := names_get HE2.out
  have hnl2 : T.names.length ≤ 1048576 := by omega
  have HNL := Lib.hid hnl
  have HNG := Lib.hid hng
  clear hnl hng
  generalize T.names = ns at *
  have hbox := (vcell1 w2 (.slice a2 ns.length cap2) 24)
  have HR3 := Lib.hid (HR2.out.alloc (.cells #[.slice a2 ns.length cap2] 24))
  have HB3 := Lib.hid (HB0.out.trans (HR3.out.b.mono (by omega)))
  have HLV3 := Lib.hid (HLV.out.below (vbox w2 (.cells #[.slice a2 ns.length cap2] 24)) (Nat.le_refl _))
  have hz3 : (w2.alloc (.cells #[.slice a2 ns.length cap2] 24)).heap.size = w2.heap.size + 1 := by simp
  have hz2 : w.heap.size + 4 ≤ w2.heap.size := Nat.le_trans hwz HR2.out.z
  generalize w2.alloc (.cells #[.slice a2 ns.length cap2] 24) = W3 at *
  have hz4 : w.heap.size + 4 ≤ W3.heap.size := by omega
  have hback := back_stops 5 (by omega) w2.heap.size W3.heap.size a2 cap2 ns W3 hnl2 (by omega) (Nat.le_refl _) hbox (HLV3.out.mono (by omega))
  have HX := Lib.hid (And.intro (H3.out.1.blw HR3.out.b) (And.intro (H3.out.2.1.blw HR3.out.b) (And.intro (zbox_cells H3.out.2.2.1 H3.out.2.2.2.1 HR3.out.b) (And.intro (keep_below HR3.out.b H3.out.2.2.2.2.1) (fun o => (show W3.frozen? ⟨w.heap.size + 3, o, none⟩ = false from by rw [frozen_blk' (HR3.out.b.block _ (by omega))]; exact H3.out.2.2.2.2.2.1 o))))))
  refine wpIn_rangeFunc_ownH rfl (by omega) (gf := 133) (lb := #[.pointer (some ⟨w2.heap.size, 0, none⟩)]) rfl trivial (enters_of Try.func133 (by kernel_rfl) rfl)
    hback belowK_t (belowK_b (Nat.le_refl _)) (Below.refl _ _) (fun _ => rfl)
    (fun pre W => (∀ x ∈ pre, ((ns[x.1]'x.2).pt.same p = false)) ∧ Below W3.heap.size W3 W)
    (fun c pre W => c = .ret ∧ ∃ (X : AT) (pre' : List (Idx ns)) (x : Idx ns), pre = pre' ++ [x] ∧ (∀ y ∈ pre', ((ns[y.1]'y.2).pt.same p = false)) ∧ (ns[x.1]'x.2).pt.same p = true ∧ (∃ h : 2 * x.1 + 1 < T.l.length, X.pt = (T.l[2 * x.1 + 1]).pt) ∧
      (VC W (w.heap.size + 2) X.k X.n X.x ⟨X.s.toArray⟩ X.a X.l.length X.cap ∧ W.cell? ⟨w.heap.size + 3, 0, none⟩ = some (.bool true)) ∧ X.Own W w.heap.size ∧ X.blks.Nodup ∧ Below w.heap.size w W)
    (OwnFrom.and (ownFrom_pure _ _) (ownFrom_below (Nat.le_refl _) (Nat.le_refl _)))
    (fun c pre Wa Wb row h hg hr => by
      obtain ⟨rfl, X, pre', x, h1, h2, h3, h4, ⟨h5, h6⟩, h7, h8, h9⟩ := h
      have hr2 : ∀ r, row = some r → ∃ o : Obj, Wa.heap[r]? = some o ∧ o.isCells = false := fun r e => (hr r e).2
      exact ⟨rfl, X, pre', x, h1, h2, h3, h4, ⟨h5.keptG hg hr2, cell_kept h6 hg hr2⟩, h7.keptG hg hr2, h8, h9.grown hg h9.size (fun k e => by have := (hr k e).1; omega)⟩)
    ⟨by simp, Below.refl _ _⟩
    (fun x a' W => ∃ Bx, W3.heap.size ≤ Bx ∧ VC W Bx (ns[x.1]'x.2).k (ns[x.1]'x.2).n (ns[x.1]'x.2).x ⟨(ns[x.1]'x.2).s.toArray⟩ (ns[x.1]'x.2).a (ns[x.1]'x.2).l.length (ns[x.1]'x.2).cap ∧ a' = { tmps := #[T.val, U.val, .pointer (some ⟨w.heap.size, 0, none⟩), .pointer (some ⟨w.heap.size + 1, 0, none⟩), .pointer (some ⟨w.heap.size + 1 + 1, 0, none⟩), .pointer (some ⟨w.heap.size + 1 + 1 + 1, 0, none⟩), .int .i64 (x.1 : Int), .pointer (some ⟨Bx, 0, none⟩), T.val, .bool true, .bool false, undef, T.val, .slice a2 ns.length cap2, .func (.func 133) #[] #[.pointer (some ⟨w2.heap.size, 0, none⟩)], .int .i64 (x.1 : Int), (ns[x.1]'x.2).val, undef, undef, undef, undef, undef, undef, undef, undef, undef, undef, undef, undef], defers := [] })
    (fun x a' _ Wa Wb row h hg hr => by
      obtain ⟨Bx, h1, h2, h3⟩ := h
      exact ⟨Bx, h1, h2.keptG hg (fun r e => (hr r e).2), h3⟩)
    ?assign ?body ?done ?stop
  case assign =>
    rintro l pre x W K ⟨hpre, hB⟩ hK
    gi_wp2
    exact hK _ _ ((KeepsOthers.alloc _ _).from _) ((Below.refl _ W).alloc hB.size _) ⟨hpre, hB.alloc hB.size _⟩ ⟨W.heap.size, hB.size, vcone W _ _, rfl⟩
  case body =>
    rintro l pre x a' W hl ⟨r0, hr0⟩ ⟨hpre, hB⟩ ⟨Bx, hBx, bX, rfl⟩ hlt
    have hxl := x.2
    obtain ⟨V, hV⟩ : ∃ V, V = ns[x.1]'x.2 := ⟨_, rfl⟩
    have hVT : V = T.l[2 * x.1]'(by have := HNL.out; omega) := by rw [hV]; exact HNG.out x.1 x.2 _
    have hVI : V.In W W.heap.size := ((HLV3.out.sub V (by rw [hV]; exact List.getElem_mem _)).mono (by omega : w2.heap.size ≤ W3.heap.size) |>.blw hB (Nat.le_refl _)).mono hB.size
    have hUI : U.In W W.heap.size := ((hin2.blw HB3.out (Nat.le_refl _)).blw hB (by omega)).mono (by have := hB.size; omega)
    have HSM := Lib.hid (same_impl V U W W.heap.size hVI hUI (Nat.le_refl _) (by rw [hVT]; exact HCPS.out _ (List.getElem_mem _)) hsz2)
    have hlk : 2 * x.1 + 1 < T.l.length := by have := HNL.out; omega
    obtain ⟨V2, hV2⟩ : ∃ V2, V2 = T.l[2 * x.1 + 1]'hlk := ⟨_, rfl⟩
    obtain ⟨g, o, ha, hgN, hC2⟩ := HT.out.cell (2 * x.1 + 1) hlk
    rw [← hV2] at hC2
    have hBw : Below w.heap.size w W := HB3.out.trans (hB.mono (by omega))
    have HCC := Lib.hid (hC2.keep (hBw.block g hgN))
    have HV2 := Lib.hid hV2
    have HVX := Lib.hid hV
    have HPRE := Lib.hid hpre
    have HBWW := Lib.hid hBw
    have HBK := Lib.hid hB
    have HA := Lib.hid ha
    have HOW : Hid (V2.Own W B0) := Lib.hid ((hown.l'.sub V2 (by rw [hV2]; exact List.getElem_mem _)).blw hBw)
    rw [← hV] at bX ⊢
    obtain ⟨x0, x1, x2, x3, x4⟩ := bX
    obtain ⟨y0, y1, y2, y3, y4⟩ := HX.out.2.1.blw hB
    clear hV hVT hVI hUI hV2 hC2 hBw hB hpre ha
    gi_wp2_with fail
    refine ⟨trivial, (CallsIn.inRound l (callsIn_wide.2 HSM.out)).mono ?_⟩
    rintro e w4 ⟨rfl, hb4⟩
    rw [← hp]
    have HK4 := Lib.hid (keepsFrom_below (B := W3.heap.size) hb4)
    have HB4 := Lib.hid (HBK.out.trans (hb4.mono HBK.out.size))
    have HBW4 := Lib.hid (HBWW.out.trans (hb4.mono HBWW.out.size))
    have HKP4 := Lib.hid (hb4.mono HBK.out.size)
    have HCC4 := Lib.hid (CellsAt.blw HCC.out hb4)
    have HOW4 := Lib.hid (HOW.out.blw hb4)
    clear hb4 x0 x1 x2 x3 x4 y0 y1 y2 y3 y4
    cases hs : V.pt.same p
    · have HS := Lib.hid hs
      clear hs
      gi_wp2
      refine ⟨HK4.out, HKP4.out, fun y hy => ?_, HB4.out⟩
      rcases List.mem_append.1 hy with hy | hy
      · exact HPRE.out y hy
      · obtain rfl := List.mem_singleton.1 hy
        rw [← HVX.out]; exact HS.out
    · have HS := Lib.hid hs
      obtain ⟨c0, c1, c2, c3, c4⟩ := HX.out.1.blw HB4.out
      obtain ⟨f0, f1, f2, f3, f4⟩ := HCC4.out
      rw [HA.out] at c4
      have hq1 : IntKind.i64.wrap (2 * (x.1 : Int)) = 2 * (x.1 : Int) := IntWalk.i64_in _ (by omega)
      have hq2 : IntKind.i64.wrap (2 * (x.1 : Int) + 1) = 2 * (x.1 : Int) + 1 := IntWalk.i64_in _ (by omega)
      have hq3 : (0 : Int) ≤ 2 * (x.1 : Int) + 1 := by omega
      have hq4 : 2 * (x.1 : Int) + 1 < T.l.length := by omega
      have hq5 : (2 * (x.1 : Int) + 1).toNat = 2 * x.1 + 1 := by omega
      clear hs
      gi_wp2_with fail
      refine ⟨trivial, (CallsIn.inRound l (callsIn_wide.2 (copied_any V2 w4 B0 HOW4.out (by rw [HV2.out]; exact HCPS.out _ (List.getElem_mem _))))).mono ?_⟩
      rintro e w5 ⟨X, hX, rfl, hO, hN, hb5⟩
      have hK5 := HK4.out.trans (keepsFrom_below (B := W3.heap.size) hb5)
      have hB5 := HBW4.out.trans (hb5.mono HBW4.out.size)
      obtain ⟨⟨z0, z1, z2, z3, z4⟩, zf⟩ := zbox_cells HX.out.2.2.1.1 HX.out.2.2.1.2 (HB4.out.trans (hb5.mono HB4.out.size))
      have b0 := keep_below (HB4.out.trans (hb5.mono HB4.out.size)) HX.out.2.2.2.1
      have bf : ∀ o, w5.frozen? ⟨w.heap.size + 3, o, none⟩ = false := fun o => by rw [frozen_blk' ((HB4.out.trans (hb5.mono HB4.out.size)).block _ (by omega))]; exact HX.out.2.2.2.2 o
      have HXX := Lib.hid hX
      have HOX := Lib.hid (hO.base HBW4.out.size)
      have HOZ : Hid (w.heap.size + 3 < w4.heap.size) := Lib.hid (by have := HBW4.out.size; have := HB4.out.size; omega)
      have HOO := Lib.hid hO
      have HNX := Lib.hid hN
      have HK5 := Lib.hid hK5
      have HB5 := Lib.hid hB5
      clear hX hO hN hb5 hK5 hB5 c0 c1 c2 c3 c4 f0 f1 f2 f3 f4 hq1 hq2 hq3 hq4 hq5
      gi_wp2
      have hz := HOZ.out
      refine ⟨HK5.out.trans (((((((KeepsOthers.setCell _ _ _).trans (KeepsOthers.setCell _ _ _)).trans (KeepsOthers.setCell _ _ _)).trans (KeepsOthers.setCell _ _ _)).trans (KeepsOthers.setCell _ _ _)).trans (KeepsOthers.setCell _ _ _)).from _), rfl, X, pre, x, rfl, HPRE.out, by rw [← HVX.out]; exact HS.out, ⟨hlk, by rw [HXX.out, HV2.out]⟩, ⟨⟨?_, ?_, ?_, ?_, ?_⟩, ?_⟩, ?_, HNX.out, ?_⟩
      · simp [go_sem, z0, z1, z2, z3, z4, b0]
      · simp [go_sem, z0, z1, z2, z3, z4, b0]
      · simp [go_sem, z0, z1, z2, z3, z4, b0]
      · simp [go_sem, z0, z1, z2, z3, z4, b0]
      · simp [go_sem, z0, z1, z2, z3, z4, b0]
      · simp [go_sem, z0, z1, z2, z3, z4, b0]
      · exact AT.Own.base (B := w4.heap.size) (AT.Own.set (AT.Own.set (AT.Own.set (AT.Own.set (AT.Own.set (AT.Own.set HOO.out (by omega)) (by omega)) (by omega)) (by omega)) (by omega)) (by omega)) (by omega)
      · exact bset (bset (bset (bset (bset (bset HB5.out (by omega)) (by omega)) (by omega)) (by omega)) (by omega)) (by omega)
  case done =>
    rintro D ys W hD hS ⟨hall, hB⟩ hK
    have HR : Hid (r = (zeroPT, false)) := Lib.hid (by
      rw [HL.out, lookL_all HNL.out HNG.out (fun i hi => by
        have hm : i ∈ ys.map (·.1) := by rw [hS]; exact (desc_mem (Nat.le_refl _)).2 ⟨by omega, hi⟩
        obtain ⟨y, hy, rfl⟩ := List.mem_map.1 hm
        exact hall y hy)])
    have hBw : Below w.heap.size w W := HB3.out.trans (hB.mono (by omega))
    obtain ⟨⟨z0, z1, z2, z3, z4⟩, zf⟩ := zbox_cells HX.out.2.2.1.1 HX.out.2.2.1.2 (hB.mono (Nat.le_refl _))
    have b0 := keep_below hB HX.out.2.2.2.1
    have bf : ∀ o, W.frozen? ⟨w.heap.size + 3, o, none⟩ = false := fun o => by rw [frozen_blk' (hB.block _ (by omega))]; exact HX.out.2.2.2.2 o
    have HBW := Lib.hid hBw
    have HK := Lib.hid hK
    have HD := Lib.hid hD
    clear hall hS hB hBw hK hD
    gi_wp2
    have hD := HD.out
    have hv5 : VC (((((W.setCell ⟨w.heap.size + 2, 0, none⟩ (.int .i64 0)).setCell ⟨w.heap.size + 2, 1, none⟩ (.int .i64 0)).setCell ⟨w.heap.size + 2, 2, none⟩ (.int .i64 0)).setCell ⟨w.heap.size + 2, 3, none⟩ (.string ⟨#[]⟩)).setCell ⟨w.heap.size + 2, 4, none⟩ (.slice none 0 0) |>.setCell ⟨w.heap.size + 3, 0, none⟩ (.bool false)) (w.heap.size + 2) 0 0 0 ⟨#[]⟩ none 0 0 := by
      refine ⟨?_, ?_, ?_, ?_, ?_⟩ <;> simp [go_sem, z0, z1, z2, z3, z4, b0]
    have hb5 : (((((W.setCell ⟨w.heap.size + 2, 0, none⟩ (.int .i64 0)).setCell ⟨w.heap.size + 2, 1, none⟩ (.int .i64 0)).setCell ⟨w.heap.size + 2, 2, none⟩ (.int .i64 0)).setCell ⟨w.heap.size + 2, 3, none⟩ (.string ⟨#[]⟩)).setCell ⟨w.heap.size + 2, 4, none⟩ (.slice none 0 0) |>.setCell ⟨w.heap.size + 3, 0, none⟩ (.bool false)).cell? ⟨w.heap.size + 3, 0, none⟩ = some (.bool false) := by simp [go_sem, z0, z1, z2, z3, z4, b0]
    have hK5 : (((((W.setCell ⟨w.heap.size + 2, 0, none⟩ (.int .i64 0)).setCell ⟨w.heap.size + 2, 1, none⟩ (.int .i64 0)).setCell ⟨w.heap.size + 2, 2, none⟩ (.int .i64 0)).setCell ⟨w.heap.size + 2, 3, none⟩ (.string ⟨#[]⟩)).setCell ⟨w.heap.size + 2, 4, none⟩ (.slice none 0 0) |>.setCell ⟨w.heap.size + 3, 0, none⟩ (.bool false)).heap[D]? = some (.deferred (some [])) :=
      ((((((KeepsOthers.setCell _ _ _).trans (KeepsOthers.setCell _ _ _)).trans (KeepsOthers.setCell _ _ _)).trans (KeepsOthers.setCell _ _ _)).trans (KeepsOthers.setCell _ _ _)).trans (KeepsOthers.setCell _ _ _)).same D _ HK.out rfl
    have hB5 : Below w.heap.size w (((((W.setCell ⟨w.heap.size + 2, 0, none⟩ (.int .i64 0)).setCell ⟨w.heap.size + 2, 1, none⟩ (.int .i64 0)).setCell ⟨w.heap.size + 2, 2, none⟩ (.int .i64 0)).setCell ⟨w.heap.size + 2, 3, none⟩ (.string ⟨#[]⟩)).setCell ⟨w.heap.size + 2, 4, none⟩ (.slice none 0 0) |>.setCell ⟨w.heap.size + 3, 0, none⟩ (.bool false)) := bset (bset (bset (bset (bset (bset HBW.out (by omega)) (by omega)) (by omega)) (by omega)) (by omega)) (by omega)
    clear z0 z1 z2 z3 z4 b0
    generalize ((((((W.setCell ⟨w.heap.size + 2, 0, none⟩ (.int .i64 0)).setCell ⟨w.heap.size + 2, 1, none⟩ (.int .i64 0)).setCell ⟨w.heap.size + 2, 2, none⟩ (.int .i64 0)).setCell ⟨w.heap.size + 2, 3, none⟩ (.string ⟨#[]⟩)).setCell ⟨w.heap.size + 2, 4, none⟩ (.slice none 0 0)).setCell ⟨w.heap.size + 3, 0, none⟩ (.bool false)) = W5 at *
    refine ⟨by simp, .inl ⟨_, _, rfl, run_takeDeferred hK5, ?_⟩⟩
    have hr6 : ∀ r, some D = some r → ∃ o : Obj, W5.heap[r]? = some o ∧ o.isCells = false := fun r e => by cases e; exact ⟨_, hK5, rfl⟩
    obtain ⟨z0, z1, z2, z3, z4⟩ := hv5.keptG (grownBy_putObj' _ D (.deferred none)) hr6
    have b0 := cell_kept hb5 (grownBy_putObj' _ D (.deferred none)) hr6
    refine ⟨.tuple #[.agg #[.int .i64 0, .int .i64 0, .int .i64 0, .string ⟨#[]⟩, .slice none 0 0], .bool false], by simp [results, Try.f46, go_sem, z0, z1, z2, z3, z4, b0], ?_⟩
    rw [HR.out]
    exact ⟨zeroAT, zeroAT_pt, rfl, AT.leaf_own _ _ 0 0 0 [], by simp [zeroAT, AT.blks, AT.blksL], hB5.trans (belowK_b (w := w) (Nat.le_refl _) W5 D _ _ (by omega) hK5 rfl rfl)⟩
  case stop =>
    rintro D c pre W hD hSp ⟨rfl, X, pre', x, h1, h2, h3, ⟨h40, h4⟩, ⟨h5, h6⟩, h7, h8, h9⟩ hK
    obtain ⟨k, hk, hmap⟩ := hSp
    have HR : Hid (r = (X.pt, true)) := Lib.hid (by
      subst h1
      have hlen : k = pre'.length + 1 := by have := congrArg List.length hmap; simpa [desc] using this.symm
      subst hlen
      rw [List.map_append, desc_succ] at hmap
      obtain ⟨e1, e2⟩ := List.append_inj hmap (by simp [desc])
      have ex : x.1 = ns.length - 1 - pre'.length := by simpa using e2
      rw [HL.out, lookL_at HNL.out HNG.out x.1 x.2 h3 (fun i hi hxi => by
        have hm : i ∈ pre'.map (·.1) := by rw [e1]; exact (desc_mem (by omega)).2 ⟨by omega, hi⟩
        obtain ⟨y, hy, rfl⟩ := List.mem_map.1 hm
        exact h2 y hy), h4])
    have HO := Lib.hid h7
    have HN := Lib.hid h8
    have HBW := Lib.hid h9
    have HK := Lib.hid hK
    have HD := Lib.hid hD
    obtain ⟨z0, z1, z2, z3, z4⟩ := h5
    clear h1 h2 h3 h4 h7 h8 h9 hK hD hmap
    gi_wp2
    have hD := HD.out
    have hK5 := HK.out
    refine ⟨by simp, .inl ⟨_, _, rfl, run_takeDeferred hK5, ?_⟩⟩
    have hr6 : ∀ r, some D = some r → ∃ o : Obj, W.heap[r]? = some o ∧ o.isCells = false := fun r e => by cases e; exact ⟨_, hK5, rfl⟩
    obtain ⟨z0, z1, z2, z3, z4⟩ := (VC.mk z0 z1 z2 z3 z4).keptG (grownBy_putObj' _ D (.deferred none)) hr6
    have b0 := cell_kept h6 (grownBy_putObj' _ D (.deferred none)) hr6
    refine ⟨.tuple #[.agg #[.int .i64 X.k, .int .i64 X.n, .int .i64 X.x, .string ⟨X.s.toArray⟩, .slice X.a X.l.length X.cap], .bool true], by simp [results, Try.f46, go_sem, z0, z1, z2, z3, z4, b0], ?_⟩
    rw [HR.out]
    exact ⟨X, rfl, rfl, HO.out.keptG (grownBy_putObj' _ D (.deferred none)) hr6, HN.out, HBW.out.trans (belowK_b (w := w) (Nat.le_refl _) W D _ _ (by omega) hK5 rfl rfl)⟩
theorem look_impl (T U : AT) (w : World) (B0 : Nat) (hown : T.Own w B0) (hin2 : U.In w w.heap.size) (hsz : T.pt.sz ≤ 1048576) (hsz2 : U.pt.sz ≤ 1048576) : Calls Try.prog 46 #[T.val, U.val] w (LookPost w (T.pt.look U.pt)) := by
  cases he : T.pt.even
  · rw [show T.pt.look U.pt = (zeroPT, false) by rw [look_def, he]; rfl]
    exact look_odd T U w (by have := len_le_sz T; omega) he
  · exact look_even T U w B0 0 hown hin2 hsz hsz2 he
end Go.Proofs.Ytpkmlfmkgodhkaa
