/- What the model's draws for decimal numbers return. -/
import Derived.Test.YtmjlbglnlpfadaaDoorStrDraw
import Derived.Test.YtmjlbglnlpfadaaDoorDecText
import Derived.Test.YtmjlbglnlpfadaaDoorDecNew
import Derived.IntWalk
import Derived.Deep.RegionHeld3
namespace Go.Proofs.YtmjlbglnlpfadaaDoor
open Go.RowKit
theorem Only.setNew {B : Nat} {w W : World} (h : Only B w W) {p : Addr} (hp : w.heap.size ≤ p.block) (u : Value) : Only B w (W.setCell p u) :=
  ⟨h.os, h.tape, h.output, by simpa [World.setCell] using h.size, fun k hk hB => (Below.heap_setCell _ _ _ _ (by omega)).trans (h.block k hk hB)⟩
theorem Cur.setNew {B : Nat} {W : World} (h : Cur W B) {p : Addr} (hp : B < p.block) (u : Value) : Cur (W.setCell p u) B :=
  h.below ((Below.refl (B + 1) W).setCell (by omega) u) (by omega)
theorem Only.frozen {B : Nat} {w w' : World} (h : Only B w w') {p : Addr} (hp : p.block ≠ B) (hlt : p.block < w.heap.size) : w'.frozen? p = w.frozen? p := World.frozen?_of_block (w := w) (h.block p.block hlt hp)
/-- A box of two ints of the caller's own: what it reads as, that it may be written. -/
def Box (W : World) (r : Nat) (n x : Int) : Prop := W.cell? ⟨r, 0, none⟩ = some (.int .i64 n) ∧ W.cell? ⟨r, 1, none⟩ = some (.int .i64 x) ∧ W.frozen? ⟨r, 0, none⟩ = false ∧ W.frozen? ⟨r, 1, none⟩ = false
theorem box_new (w : World) (n x : Int) (T : TypeId) : Box (w.alloc (.cells #[.int .i64 n, .int .i64 x] T)) w.heap.size n x :=
  ⟨by simp [go_sem], by simp [go_sem], by simp [go_sem], by simp [go_sem]⟩
theorem Box.only {w W : World} {B r : Nat} {n x : Int} (h : Box w r n x) (ho : Only B w W) (hr : r ≠ B) : Box W r n x := by
  obtain ⟨h0, h1, h2, h3⟩ := h
  have hlt := cell_lt h0
  exact ⟨ho.cell hr h0, ho.cell hr h1, (ho.frozen (p := ⟨r, 0, none⟩) hr hlt).trans h2, (ho.frozen (p := ⟨r, 1, none⟩) hr hlt).trans h3⟩
theorem Box.below {w W : World} {N r : Nat} {n x : Int} (h : Box w r n x) (hb : Below N w W) (hr : r < N) : Box W r n x := by
  obtain ⟨h0, h1, h2, h3⟩ := h
  exact ⟨(hb.cell (p := ⟨r, 0, none⟩) hr).trans h0, (hb.cell (p := ⟨r, 1, none⟩) hr).trans h1, (hb.frozen (p := ⟨r, 0, none⟩) hr).trans h2, (hb.frozen (p := ⟨r, 1, none⟩) hr).trans h3⟩
theorem two_set {W : World} {r : Nat} {n x : Int} (h : Box W r n x) (u v : Value) : ((W.setCell ⟨r, 0, none⟩ u).setCell ⟨r, 1, none⟩ v).cell? ⟨r, 0, none⟩ = some u ∧ ((W.setCell ⟨r, 0, none⟩ u).setCell ⟨r, 1, none⟩ v).cell? ⟨r, 1, none⟩ = some v := by
  obtain ⟨h0, h1, _, _⟩ := h
  have e : (W.setCell ⟨r, 0, none⟩ u).cell? ⟨r, 1, none⟩ = some (.int .i64 x) := (World.cell?_setCell_other W ⟨r, 0, none⟩ ⟨r, 1, none⟩ u (by simp)).trans h1
  exact ⟨(World.cell?_setCell_other _ ⟨r, 1, none⟩ ⟨r, 0, none⟩ v (by simp)).trans (World.cell?_setCell_same _ _ _ h0), World.cell?_setCell_same _ _ _ e⟩
theorem two_set_alloc {W : World} {r : Nat} {n x : Int} (h : Box W r n x) (u v : Value) (o : Obj) : (((W.setCell ⟨r, 0, none⟩ u).setCell ⟨r, 1, none⟩ v).alloc o).cell? ⟨r, 0, none⟩ = some u ∧ (((W.setCell ⟨r, 0, none⟩ u).setCell ⟨r, 1, none⟩ v).alloc o).cell? ⟨r, 1, none⟩ = some v := by
  obtain ⟨e0, e1⟩ := two_set h u v
  exact ⟨by rw [World.cell?_alloc_some _ _ _ (by rw [e0]; rfl)]; exact e0, by rw [World.cell?_alloc_some _ _ _ (by rw [e1]; rfl)]; exact e1⟩
def DecPost (B : Nat) (P : Int → Int → Prop) (w : World) (e : Ending) (w' : World) : Prop := ∃ n x : Int, P n x ∧ e = .returned (.agg #[.int .i64 n, .int .i64 x]) ∧ Only B w w' ∧ Cur w' B
theorem decOk_15 : decOk 15 (-1) = true := decOk_neg (by decide) (by decide) ((digV_17 15).2 (by decide)) (by decide)
theorem isNew_ok {n x N X : Int} (h : IsNew n x N X true) : decOk N X = true := by
  rcases h with ⟨_, _, h, _⟩ | ⟨h, _⟩
  · exact h
  · cases h
set_option maxRecDepth 100000 in
theorem l4draw_any (w : World) (B : Nat) (hC : Cur w B) : Calls Tryd.prog 40 #[.pointer (some ⟨B, 0, none⟩)] w (DecPost B (fun n x => decOk n x = true) w) := by
  have hBw := hC.lt
  go_enter Tryd.func40, Tryd.ntmps40
  go_wp2
  go_loopw [3] (fun i wr => ∃ k : Nat, i = .int .i64 k ∧ (k : Int) ≤ 6 ∧ Only B (w.alloc (.cells #[.int .i64 0, .int .i64 0] 25)) wr ∧ Cur wr B) (fun i _ => 6 - (intOf i).toNat)
  case atStart => exact ⟨0, rfl, by omega, Only.refl _ _, hC.alloc _⟩
  case round =>
    obtain ⟨k, rfl, hk, ho, hc⟩ := hrel
    by_cases hlt : (k : Int) < 6
    · go_wp2_with fail
      refine (signed_any _ B hc).mono ?_
      rintro e w1 ⟨x, ⟨hx0, hx1⟩, rfl, ho1, hc1⟩
      go_wp2_with fail
      refine (below_any w1 B 17 hc1 (by decide)).mono ?_
      rintro e w2 ⟨y, ⟨hy0, hy1⟩, rfl, ho2, hc2⟩
      go_wp2_with fail
      refine (decnew_spec x (-y) w2 (by omega) (by omega)).mono ?_
      rintro e w3 ⟨N, X, ok, rfl, hN, hb3⟩
      have hO := (ho.trans (ho1.trans ho2)).then_below hb3 (by have := ho.size; have := ho1.size; have := ho2.size; omega)
      have hC3 := hc2.below hb3 hc2.lt
      have hN := Lib.hid hN
      cases ok
      · go_wp2
        go_roundw
        case rel => exact ⟨k + 1, by go_num, by omega, hO.trans ((Only.refl B _).alloc _), hC3.alloc _⟩
        case measure => simp [intOf]; omega
      · have hbox := (box_new w 0 0 25).only hO (by omega)
        obtain ⟨e0, e1⟩ := two_set_alloc hbox (.int .i64 N) (.int .i64 X) (.cells #[.int .i64 N, .int .i64 X] 25)
        obtain ⟨b0, b1, b2, b3⟩ := hbox
        have hsz : w.heap.size < w3.heap.size := by have := hO.size; simp at this; omega
        go_wp2
        refine bodyPost_ret (v := .agg #[.int .i64 N, .int .i64 X]) (by simp [results, Tryd.results40, go_sem, e0, e1]) rfl ⟨N, X, isNew_ok hN.out, rfl, ?_, ?_⟩
        · exact (((((Only.refl B w).alloc _).trans hO).setNew (Nat.le_refl _) _).setNew (Nat.le_refl _) _).alloc _
        · exact ((hC3.setNew (by show _ < w.heap.size; omega) _).setNew (by show _ < w.heap.size; omega) _).alloc _
    · obtain ⟨b0, b1, b2, b3⟩ := (box_new w 0 0 25).only ho (by omega)
      go_wp2
      refine bodyPost_ret (v := .agg #[.int .i64 15, .int .i64 (-1)]) (by simp [results, Tryd.results40, go_sem, b0, b1, b2, b3]) rfl ⟨15, -1, decOk_15, rfl, ?_, ?_⟩
      · exact ((((Only.refl B w).alloc _).trans ho).setNew (Nat.le_refl _) _).setNew (Nat.le_refl _) _
      · exact (hc.setNew (by show _ < w.heap.size; omega) _).setNew (by show _ < w.heap.size; omega) _
theorem text_len {n x : Int} (h : decOk n x = true) : (decText n x).length ≤ 40 := by
  obtain ⟨r0, r1, r2, _, _⟩ := decOk_range h
  have hd := dec_len 16 n.natAbs r2
  by_cases hx : x = 0
  · subst hx
    rw [decText_int h]
    by_cases hn : n < 0
    · rw [itoa_lt hn, List.length_cons]; omega
    · rw [itoa_ge hn]; omega
  · have hf : (fracT n x).length ≤ 20 := by
      unfold fracT pointT
      have hp := pad_length (1 - x).toNat (Lib.decDigits n.natAbs)
      simp only [List.length_append, List.length_take, List.length_drop, List.length_singleton]
      omega
    by_cases hn : n < 0
    · rw [decText_neg h hx hn, List.length_cons]; omega
    · rw [decText_pos h hx hn]; omega
def AnyDec (n x : Int) : Prop := isInt n ∧ -17 ≤ x ∧ x ≤ 1
theorem any_of {n x : Int} (h : decOk n x = true) : AnyDec n x := by
  obtain ⟨r0, r1, r2, _, _⟩ := decOk_range h
  exact ⟨⟨by omega, by omega⟩, by omega, by omega⟩
set_option maxRecDepth 100000 in
theorem l4any_any (w : World) (B : Nat) (hC : Cur w B) : Calls Tryd.prog 24 #[.pointer (some ⟨B, 0, none⟩)] w (DecPost B AnyDec w) := by
  have hBw := hC.lt
  go_enter Tryd.func24, Tryd.ntmps24
  go_wp2_with fail
  refine (l4draw_any _ B (hC.alloc _)).mono ?_
  rintro e w1 ⟨n, x, hv, rfl, ho1, hc1⟩
  have hv1 := Lib.hid (any_of hv)
  clear hv
  have hz1 : w.heap.size < w1.heap.size := by have := ho1.size; simp at this; omega
  have O1 := (((Only.refl B w).alloc (.cells #[.int .i64 0, .int .i64 0] 25)).trans ho1).alloc (.cells #[.int .i64 n, .int .i64 x] 25)
  have R1 := ((box_new w 0 0 25).only ho1 (by omega)).below (N := w1.heap.size) ((Below.refl _ _).alloc (Nat.le_refl _) (.cells #[.int .i64 n, .int .i64 x] 25)) hz1
  have D1 := box_new w1 n x 25
  have hC1 := hc1.alloc (.cells #[.int .i64 n, .int .i64 x] 25)
  go_wp2_with fail
  refine (below_any _ B 8 hC1 (by decide)).mono ?_
  rintro e w2 ⟨k, ⟨hk0, hk1⟩, rfl, ho2, hc2⟩
  have O2 := O1.trans ho2
  have R2 := R1.only ho2 (by omega)
  have D2 := D1.only ho2 (by omega)
  clear R1 D1 ho1 ho2 hC1 hc1 O1
  have hne : w1.heap.size ≠ w.heap.size := by omega
  by_cases h0 : k = 0
  · subst h0
    go_wp2_with fail
    refine (raw_any w2 B hc2).mono ?_
    rintro e w3 ⟨m, hm, rfl, ho3, hc3⟩
    obtain ⟨b0, b1, b2, b3⟩ := R2.only ho3 (by omega)
    obtain ⟨d0, d1, d2, d3⟩ := D2.only ho3 (by omega)
    have O3 := O2.trans ho3
    go_wp2
    refine bodyPost_ret (v := .agg #[.int .i64 m, .int .i64 x]) (by simp [results, Tryd.results24, go_sem, b0, b1, b2, b3, d0, d1, hne]) rfl ⟨m, x, ⟨hm, hv1.out.2⟩, rfl, ?_, ?_⟩
    · exact ((O3.setNew (by show _ ≤ w1.heap.size; omega) _).setNew (Nat.le_refl _) _).setNew (Nat.le_refl _) _
    · exact ((hc3.setNew (by show _ < w1.heap.size; omega) _).setNew (by show _ < w.heap.size; omega) _).setNew (by show _ < w.heap.size; omega) _
  · by_cases h1 : k = 1
    · subst h1
      go_wp2_with fail
      refine (int_lit w2 B [-17, -16, 0, 1] 3 (fun y => -17 ≤ y ∧ y ≤ 1) hc2 (by decide) (by decide) (by decide)).mono ?_
      rintro e w3 ⟨y, hy, rfl, ho3, hc3⟩
      obtain ⟨b0, b1, b2, b3⟩ := R2.only ho3 (by omega)
      obtain ⟨d0, d1, d2, d3⟩ := D2.only ho3 (by omega)
      have O3 := O2.trans ho3
      go_wp2
      refine bodyPost_ret (v := .agg #[.int .i64 n, .int .i64 y]) (by simp [results, Tryd.results24, go_sem, b0, b1, b2, b3, d0, d1, hne]) rfl ⟨n, y, ⟨hv1.out.1, hy⟩, rfl, ?_, ?_⟩
      · exact ((O3.setNew (by show _ ≤ w1.heap.size; omega) _).setNew (Nat.le_refl _) _).setNew (Nat.le_refl _) _
      · exact ((hc3.setNew (by show _ < w1.heap.size; omega) _).setNew (by show _ < w.heap.size; omega) _).setNew (by show _ < w.heap.size; omega) _
    · by_cases h2 : k = 2
      · subst h2
        go_wp2_with fail
        refine (below_any w2 B 9 hc2 (by decide)).mono ?_
        rintro e w3 ⟨y, ⟨hy0, hy1⟩, rfl, ho3, hc3⟩
        obtain ⟨b0, b1, b2, b3⟩ := R2.only ho3 (by omega)
        obtain ⟨d0, d1, d2, d3⟩ := D2.only ho3 (by omega)
        have O3 := O2.trans ho3
        go_wp2
        refine bodyPost_ret (v := .agg #[.int .i64 (10 * y), .int .i64 x]) (by simp [results, Tryd.results24, go_sem, b0, b1, b2, b3, d0, d1, hne]) rfl ⟨10 * y, x, ⟨⟨by omega, by omega⟩, hv1.out.2⟩, rfl, ?_, ?_⟩
        · exact ((O3.setNew (by show _ ≤ w1.heap.size; omega) _).setNew (Nat.le_refl _) _).setNew (Nat.le_refl _) _
        · exact ((hc3.setNew (by show _ < w1.heap.size; omega) _).setNew (by show _ < w.heap.size; omega) _).setNew (by show _ < w.heap.size; omega) _
      · obtain ⟨b0, b1, b2, b3⟩ := R2
        obtain ⟨d0, d1, d2, d3⟩ := D2
        go_wp2
        refine bodyPost_ret (v := .agg #[.int .i64 n, .int .i64 x]) (by simp [results, Tryd.results24, go_sem, b0, b1, b2, b3, d0, d1, hne]) rfl ⟨n, x, hv1.out, rfl, ?_, ?_⟩
        · exact (O2.setNew (Nat.le_refl _) _).setNew (Nat.le_refl _) _
        · exact (hc2.setNew (by show _ < w.heap.size; omega) _).setNew (by show _ < w.heap.size; omega) _
def AnyDraw (w : World) (e : Ending) (w' : World) : Prop := ∃ n x : Int, AnyDec n x ∧ e = .returned (.agg #[.int .i64 n, .int .i64 x]) ∧ Below w.heap.size w w'
def NewDraw (w : World) (e : Ending) (w' : World) : Prop := ∃ n x : Int, isInt n ∧ -30 ≤ x ∧ x ≤ 19 ∧ e = .returned (.tuple #[.int .i64 n, .int .i64 x]) ∧ Below w.heap.size w w'
set_option maxRecDepth 100000 in
set_option maxHeartbeats 2000000 in
theorem drawdectext_any (a : Option Addr) (len cap : Nat) (w : World) (hC : CodeAt w a len) (hl : len ≤ 1048576) : Calls Tryd.prog 8 #[.slice a len cap] w (AnyDraw w) := by
  have hC2 := hC.below (below_box w (.cells #[.int .i64 0, .int .i64 0] 25))
  go_enter Tryd.func8, Tryd.ntmps8
  go_wp2_with fail
  refine (new_any a len cap _ hC2 hl).mono ?_
  rintro e w1 ⟨rfl, hb, hc, hz⟩
  have R1 := (box_new w 0 0 25).below hb (by simp)
  have hs1 : (w.alloc (.cells #[.int .i64 0, .int .i64 0] 25)).heap.size = w.heap.size + 1 := by simp
  have hsz := hb.size
  rw [hs1] at hc hsz
  go_wp2_with fail
  refine (l4any_any w1 (w.heap.size + 1) hc).mono ?_
  rintro e w2 ⟨n, x, hv, rfl, ho, hc2⟩
  obtain ⟨b0, b1, b2, b3⟩ := R1.only ho (by omega)
  have hB : Below w.heap.size w w2 := ((below_box _ _).trans (hb.mono (by simp))).trans (ho.below w.heap.size (by omega) (by omega))
  have hv := Lib.hid hv
  go_wp2
  refine bodyPost_ret (v := .agg #[.int .i64 n, .int .i64 x]) (by simp [results, Tryd.results8, go_sem, b0, b1, b2, b3]) rfl ⟨n, x, hv.out, rfl, ?_⟩
  exact (hB.setCell (Nat.le_refl _) _).setCell (Nat.le_refl _) _
set_option maxRecDepth 100000 in
set_option maxHeartbeats 2000000 in
theorem drawdecnew_any (a : Option Addr) (len cap : Nat) (w : World) (hC : CodeAt w a len) (hl : len ≤ 1048576) : Calls Tryd.prog 9 #[.slice a len cap] w (NewDraw w) := by
  go_enter Tryd.func9, Tryd.ntmps9
  go_wp2_with fail
  refine (new_any a len cap w hC hl).mono ?_
  rintro e w1 ⟨rfl, hb, hc, hz⟩
  go_wp2_with fail
  refine (one_any w1 _ hc).mono ?_
  rintro e w2 ⟨n, hn, rfl, ho2, hc2⟩
  have hn := Lib.hid hn
  go_wp2_with fail
  refine (below_any w2 _ 50 hc2 (by decide)).mono ?_
  rintro e w3 ⟨y, ⟨hy0, hy1⟩, rfl, ho3, hc3⟩
  go_wp2
  go_ret2
  exact ⟨n, y - 30, hn.out, by omega, by omega, rfl, below_only hb (ho2.trans ho3) rfl⟩
set_option maxRecDepth 100000 in
theorem l4text_any (w : World) (B : Nat) (hC : Cur w B) : Calls Tryd.prog 36 #[.pointer (some ⟨B, 0, none⟩)] w (StrPost B (fun l => l.length ≤ 1000) w) := by
  go_enter Tryd.func36, Tryd.ntmps36
  go_wp2_with fail
  refine (once_any w B 2 hC (by decide)).mono ?_
  rintro e w1 ⟨b, rfl, ho1, hc1⟩
  cases b
  · go_wp2_with fail
    refine (l4draw_any w1 B hc1).mono ?_
    rintro e w2 ⟨n, x, hv, rfl, ho2, hc2⟩
    obtain ⟨⟨hn0, hn1⟩, hx0, hx1⟩ := any_of hv
    have ht := text_len hv
    go_wp2_with fail
    refine (dectext_spec n x w2 hn0 hn1).mono ?_
    rintro e w3 ⟨rfl, hb3⟩
    generalize decText n x = t at *
    have hc3 := hc2.below hb3 hc2.lt
    have O3 : Only B w w3 := (ho1.trans ho2).trans (Only.of_below hb3)
    have hT : (t.length : Int) ≤ 40 := by omega
    clear hv ht
    go_wp2_with fail
    refine (once_any w3 B 4 hc3 (by decide)).mono ?_
    rintro e w4 ⟨b, rfl, ho4, hc4⟩
    cases b
    · go_wp2
      go_ret
      exact ⟨t, by omega, rfl, O3.trans ho4, hc4⟩
    · go_wp2_with fail
      refine (str_lit w4 B [[48], [101, 50], [69, 45, 49], [32], [120]] 9 (fun l => l.length ≤ 3) hc4 (by decide) (by decide) (by decide)).mono ?_
      rintro e w5 ⟨s, hs, rfl, ho5, hc5⟩
      have hcat := cat_eq t s
      have hS : (s.length : Int) ≤ 3 := by omega
      obtain ⟨u, hu⟩ : ∃ u, u = t ++ s := ⟨_, rfl⟩
      have hul : u.length ≤ 1000 := by rw [hu, List.length_append]; omega
      rw [← hu] at hcat
      clear hu hs
      go_wp2
      go_ret
      exact ⟨u, hul, rfl, (O3.trans ho4).trans ho5, hc5⟩
  · go_wp2_with fail
    refine (str_lit w1 B [[48], [45, 48], [49, 46, 53, 48], [49, 101, 51], [45, 50, 69, 45, 50], [48, 46, 48, 48, 49], [49, 50, 51, 52, 53, 54, 55, 56, 57, 48, 49, 50, 51, 52, 53, 54, 55], [49, 50, 51, 52, 53, 54, 55, 56, 57, 48, 49, 50, 51, 52, 53, 54, 55, 56], [48, 46, 48, 48, 48, 48, 48, 48, 48, 48, 48, 48, 48, 48, 48, 48, 48, 48, 49], [49, 101, 43, 52, 48], [49, 101, 49, 48, 48, 48], [48, 49], [49, 46], [46, 53], [45], [], [49, 101], [49, 46, 53, 101, 43, 120], [48, 48, 48], [43, 49], [49, 101, 45, 49, 54]] 9 (fun l => l.length ≤ 1000) hc1 (by decide) (by decide) (by decide)).mono ?_
    rintro e w2 ⟨l, hl, rfl, ho2, hc2⟩
    go_wp2
    go_ret
    exact ⟨_, hl, rfl, ho1.trans ho2, hc2⟩
def ReadDraw (w : World) (e : Ending) (w' : World) : Prop := ∃ (l : List UInt8) (z : Int), l.length ≤ 1000 ∧ -1 ≤ z ∧ z ≤ 99 ∧ e = .returned (.tuple #[.string ⟨l.toArray⟩, .int .i64 z]) ∧ Below w.heap.size w w'
set_option maxRecDepth 100000 in
set_option maxHeartbeats 2000000 in
theorem drawreadnumber_any (a : Option Addr) (len cap : Nat) (w : World) (hC : CodeAt w a len) (hl : len ≤ 1048576) : Calls Tryd.prog 17 #[.slice a len cap] w (ReadDraw w) := by
  go_enter Tryd.func17, Tryd.ntmps17
  go_wp2_with fail
  refine (new_any a len cap w hC hl).mono ?_
  rintro e w1 ⟨rfl, hb, hc, hz⟩
  go_wp2_with fail
  refine (l4text_any w1 _ hc).mono ?_
  rintro e w2 ⟨l, hl, rfl, ho2, hc2⟩
  have hL := Lib.hid hl
  clear hl
  go_wp2_with fail
  refine (int_lit w2 _ [0, 0, 0, 0, 1, -1, 99] 3 (fun y => -1 ≤ y ∧ y ≤ 99) hc2 (by decide) (by decide) (by decide)).mono ?_
  rintro e w3 ⟨y, ⟨hy0, hy1⟩, rfl, ho3, hc3⟩
  go_wp2
  go_ret2
  exact ⟨l, y, hL.out, hy0, hy1, rfl, below_only hb (ho2.trans ho3) rfl⟩
end Go.Proofs.YtmjlbglnlpfadaaDoor
