import Derived.Test.YtilgncebhgplaaaG8
import Derived.Deep.RegionHeld3
import Derived.Test.YtilgncebhgplaaaG6
/- What FltDec of the model returns. -/
namespace Go.Proofs.Ytilgncebhgplaaa
open Go.RowKit
theorem tcells {W : World} {r : Nat} {a b : Value} (h0 : W.cell? ⟨r, 0, none⟩ = some a) (h1 : W.cell? ⟨r, 1, none⟩ = some b) (u v : Value) : ((W.setCell ⟨r, 0, none⟩ u).setCell ⟨r, 1, none⟩ v).cell? ⟨r, 0, none⟩ = some u ∧ ((W.setCell ⟨r, 0, none⟩ u).setCell ⟨r, 1, none⟩ v).cell? ⟨r, 1, none⟩ = some v := by
  have e : (W.setCell ⟨r, 0, none⟩ u).cell? ⟨r, 1, none⟩ = some b := (World.cell?_setCell_other W ⟨r, 0, none⟩ ⟨r, 1, none⟩ u (by simp)).trans h1
  exact ⟨(World.cell?_setCell_other _ ⟨r, 1, none⟩ ⟨r, 0, none⟩ v (by simp)).trans (World.cell?_setCell_same _ _ _ h0), World.cell?_setCell_same _ _ _ e⟩
theorem isNew_own {n x N X : Int} {ok : Bool} (hv : decOk n x = true) (h : IsNew n x N X ok) : N = n ∧ X = x ∧ ok = true := by
  obtain ⟨r0, r1, r2, _, _⟩ := decOk_range hv
  have hs : IsNew n x n x true := isNew_yes ⟨(digV_17 n).2 r2, by omega, by omega⟩ (same_refl n x) hv
  obtain ⟨rfl, rfl, rfl⟩ := isNew_uniq hs h
  exact ⟨rfl, rfl, rfl⟩
theorem decnew_self {n x : Int} (W : World) (hv : decOk n x = true) : Calls Try.prog 62 #[.int .i64 n, .int .i64 x] W fun r w' => r = .returned (.tuple #[.agg #[.int .i64 n, .int .i64 x], .bool true]) ∧ Below W.heap.size W w' := by
  obtain ⟨r0, r1, r2, _, _⟩ := decOk_range hv
  refine (decnew_spec n x W (by omega) (by omega)).mono ?_
  rintro r w' ⟨N, X, ok, rfl, hN, hb⟩
  obtain ⟨rfl, rfl, rfl⟩ := isNew_own hv hN
  exact ⟨rfl, hb⟩
theorem decnew_rel {n x : Int} {N : Nat} {W0 : World} (hv : decOk n x = true) : ∀ W, Below N W0 W → N ≤ W.heap.size →
    Calls Try.prog 62 #[.int .i64 n, .int .i64 x] W fun r w' => r = .returned (.tuple #[.agg #[.int .i64 n, .int .i64 x], .bool true]) ∧ Below N W0 w' ∧ N ≤ w'.heap.size :=
  fun W hb hN => (decnew_self W hv).mono fun _ _ ⟨he, hb2⟩ => ⟨he, hb.trans (hb2.mono hN), Nat.le_trans hN hb2.size⟩
def DBox (W : World) (g : Nat) : Prop := W.cell? ⟨g, 0, none⟩ = some (.int .i64 0) ∧ W.cell? ⟨g, 1, none⟩ = some (.int .i64 0) ∧ W.frozen? ⟨g, 0, none⟩ = false ∧ W.frozen? ⟨g, 1, none⟩ = false
theorem dbox_new (w : World) (T : TypeId) : DBox (w.alloc (.cells #[.int .i64 0, .int .i64 0] T)) w.heap.size :=
  ⟨by simp [go_sem], by simp [go_sem], by simp [go_sem], by simp [go_sem]⟩
theorem dbox_drew (w : World) (T : TypeId) : DBox (w.alloc (.cells #[.int .i64 0, .int .i64 0] T)).drew w.heap.size := dbox_new w T
theorem decnew_relbox {n x : Int} {N : Nat} {W0 : World} (hv : decOk n x = true) : ∀ W g, Below N W0 W → N ≤ W.heap.size → DBox W g →
    Calls Try.prog 62 #[.int .i64 n, .int .i64 x] W fun r w' => r = .returned (.tuple #[.agg #[.int .i64 n, .int .i64 x], .bool true]) ∧ Below N W0 w' ∧ N ≤ w'.heap.size ∧ w'.cell? ⟨g, 0, none⟩ = some (.int .i64 0) ∧ w'.cell? ⟨g, 1, none⟩ = some (.int .i64 0) ∧ w'.frozen? ⟨g, 0, none⟩ = false ∧ w'.frozen? ⟨g, 1, none⟩ = false :=
  fun W g hb hN hg => (decnew_self W hv).mono fun _ _ ⟨he, hb2⟩ => by
    have hlt := cell_lt hg.1
    exact ⟨he, hb.trans (hb2.mono hN), Nat.le_trans hN hb2.size, (hb2.cell (p := ⟨g, 0, none⟩) hlt).trans hg.1, (hb2.cell (p := ⟨g, 1, none⟩) hlt).trans hg.2.1, (hb2.frozen (p := ⟨g, 0, none⟩) hlt).trans hg.2.2.1, (hb2.frozen (p := ⟨g, 1, none⟩) hlt).trans hg.2.2.2⟩
set_option maxRecDepth 100000 in
set_option maxHeartbeats 2000000 in
theorem fltdec_spec (m e : Int) (w : World) (h0 : -9223372036854775808 ≤ m) (h1 : m ≤ 9223372036854775807) (k0 : -9223372036854775808 ≤ e) (k1 : e ≤ 9223372036854775807) :
    Calls Try.prog 57 #[.agg #[.int .i64 m, .int .i64 e]] w (FDecPost m e w) := by
  obtain ⟨W0, hW⟩ : ∃ W0 : World, W0 = (w.alloc (.cells #[.int .i64 m, .int .i64 e] 58)).alloc (.cells #[.int .i64 0, .int .i64 0] 60) := ⟨_, rfl⟩
  have hcells : ∀ W', Below W0.heap.size W0 W' → W'.cell? ⟨w.heap.size, 0, none⟩ = some (.int .i64 m) ∧ W'.cell? ⟨w.heap.size, 1, none⟩ = some (.int .i64 e) ∧ W'.cell? ⟨w.heap.size + 1, 0, none⟩ = some (.int .i64 0) ∧ W'.cell? ⟨w.heap.size + 1, 1, none⟩ = some (.int .i64 0) ∧ W'.frozen? ⟨w.heap.size + 1, 0, none⟩ = false ∧ W'.frozen? ⟨w.heap.size + 1, 1, none⟩ = false := fun W' hb => by
    subst hW
    exact ⟨(hb.cell (p := ⟨w.heap.size, 0, none⟩) (by simp; omega)).trans (by simp [go_sem]), (hb.cell (p := ⟨w.heap.size, 1, none⟩) (by simp; omega)).trans (by simp [go_sem]), (hb.cell (p := ⟨w.heap.size + 1, 0, none⟩) (by simp)).trans (by simp [go_sem]), (hb.cell (p := ⟨w.heap.size + 1, 1, none⟩) (by simp)).trans (by simp [go_sem]), (hb.frozen (p := ⟨w.heap.size + 1, 0, none⟩) (by simp)).trans (by simp [go_sem]), (hb.frozen (p := ⟨w.heap.size + 1, 1, none⟩) (by simp)).trans (by simp [go_sem])⟩
  have hend : ∀ W', Below W0.heap.size W0 W' → Below w.heap.size w W' := fun W' hb => by
    subst hW
    exact ((Below.refl _ _).alloc (Nat.le_refl _) _).alloc (by simp) _ |>.trans (hb.mono (by simp; omega))
  have hsz : W0.heap.size = w.heap.size + 2 := by subst hW; simp
  have hB := Below.refl W0.heap.size W0
  have hN := Nat.le_refl W0.heap.size
  have cok := relCall (fun W => fltok_spec m e W h0 h1 k0 k1) (N := W0.heap.size) (W0 := W0)
  unfold FDecPost
  cases hv : fltOk m e
  · rw [hv] at cok
    rw [(decF_bad hv).1, (decF_bad hv).2]
    clear h0 h1 k0 k1
    go_enter Try.func57, Try.ntmps57
    go_wp2_with fail
    rw [← hW]
    refine (cok _ hB hN).mono ?_
    rintro r w1 ⟨rfl, hb, hn⟩
    obtain ⟨f0, f1, r0, r1, z0, z1⟩ := hcells _ hb
    go_wp2
    refine bodyPost_ret (v := .agg #[.int .i64 0, .int .i64 0]) (by simp [results, Try.results57, go_sem, r0, r1]) rfl ⟨rfl, ?_⟩
    exact ((hend _ hb).setCell (by simp) _).setCell (by simp) _
  · rw [hv] at cok
    obtain ⟨a0, a1, a2, a3, a4⟩ := fltOk_range hv
    by_cases he : 0 ≤ e
    · have hs := shl_of (m := m) he (by omega) (by have := flt_small hv he; rw [Int.natAbs_mul, Int.natAbs_pow]; exact Nat.lt_trans this (by decide))
      rw [(decF_high hv he).1, (decF_high hv he).2]
      have hw := high_wrap hv he
      clear h0 h1 k0 k1 a3 a4 hv
      go_enter Try.func57, Try.ntmps57
      go_wp2_with fail
      rw [← hW]
      refine (cok _ hB hN).mono ?_
      rintro r w1 ⟨rfl, hb, hn⟩
      obtain ⟨f0, f1, r0, r1, z0, z1⟩ := hcells _ hb
      go_wp2
      refine bodyPost_ret (v := .agg #[.int .i64 (m * 2 ^ e.toNat), .int .i64 0]) (by simp [results, Try.results57, go_sem, r0, r1]) rfl ⟨rfl, ?_⟩
      exact ((hend _ hb).setCell (by simp) _).setCell (by simp) _
    · have hlt := five_le hv (by omega)
      have cp := fun W => pow_spec 5 (-e) W
      rw [pow5 (by omega) (by omega)] at cp
      have hdec := decF_ok m e
      rw [(decF_low hv (by omega)).1, (decF_low hv (by omega)).2] at hdec
      have cd := fun W => decnew_self W hdec
      rw [(decF_low hv (by omega)).1, (decF_low hv (by omega)).2]
      have hmul : IntKind.i64.wrap (m * 5 ^ (-e).toNat) = m * 5 ^ (-e).toNat := by
        have h2 : (m * 5 ^ (-e).toNat).natAbs < 100000000000000000 := by rw [Int.natAbs_mul, Int.natAbs_pow]; exact hlt
        exact IntWalk.i64_in _ (by omega)
      have hp : (5 : Int) ^ (-e).toNat ≤ 152587890625 := by
        have h1 : 5 ^ (-e).toNat ≤ 5 ^ 16 := Nat.pow_le_pow_right (by decide) (by omega)
        have h2 : ((5 ^ (-e).toNat : Nat) : Int) = (5 : Int) ^ (-e).toNat := by rw [Int.natCast_pow]; rfl
        omega
      have hp0 : (0 : Int) < 5 ^ (-e).toNat := Int.pow_pos (by decide)
      generalize (5 : Int) ^ (-e).toNat = v at *
      have hm0 : -65535 ≤ m := by omega
      have hm1 : m ≤ 65535 := by omega
      have he2 : e < 0 := by omega
      have hneg : IntKind.i64.wrap (-e) = -e := IntWalk.i64_in _ (by omega)
      clear h0 h1 k0 k1 a2 a3 a4 hv hlt he
      go_enter Try.func57, Try.ntmps57
      go_wp2_with fail
      rw [← hW]
      refine (cok _ hB hN).mono ?_
      clear hB hN
      rintro r w1 ⟨rfl, hB, hN⟩
      obtain ⟨f0, f1, r0, r1, z0, z1⟩ := hcells _ hB
      go_wp2_with fail
      have hkeep : ∀ W' : World, Below W0.heap.size W0 W' → W0.heap.size ≤ W'.heap.size → Below W0.heap.size W0 W' ∧ W0.heap.size ≤ W'.heap.size ∧ W'.cell? ⟨w.heap.size, 0, none⟩ = some (.int .i64 m) ∧ W'.cell? ⟨w.heap.size, 1, none⟩ = some (.int .i64 e) := fun W' hb hn => ⟨hb, hn, (hcells _ hb).1, (hcells _ hb).2.1⟩
      have hkeepA : ∀ (W' : World) (o : Obj), Below W0.heap.size W0 W' → W0.heap.size ≤ W'.heap.size → Below W0.heap.size W0 (W'.alloc o) ∧ W0.heap.size ≤ (W'.alloc o).heap.size ∧ (W'.alloc o).cell? ⟨w.heap.size, 0, none⟩ = some (.int .i64 m) ∧ (W'.alloc o).cell? ⟨w.heap.size, 1, none⟩ = some (.int .i64 e) := fun W' o hb hn => hkeep _ (hb.alloc hn o) (by simp; omega)
      have hkeepAD : ∀ (W' : World) (o : Obj), Below W0.heap.size W0 W' → W0.heap.size ≤ W'.heap.size → Below W0.heap.size W0 (W'.alloc o).drew ∧ W0.heap.size ≤ (W'.alloc o).drew.heap.size ∧ (W'.alloc o).drew.cell? ⟨w.heap.size, 0, none⟩ = some (.int .i64 m) ∧ (W'.alloc o).drew.cell? ⟨w.heap.size, 1, none⟩ = some (.int .i64 e) := fun W' o hb hn => hkeep _ (Below.drew (hb.alloc hn o)) (by show _ ≤ (W'.alloc o).heap.size; simp; omega)
      have hkeepS : ∀ (W' : World) (p q : Addr) (u v : Value), W0.heap.size ≤ p.block → W0.heap.size ≤ q.block → Below W0.heap.size W0 W' → W0.heap.size ≤ W'.heap.size → Below W0.heap.size W0 ((W'.setCell p u).setCell q v) ∧ W0.heap.size ≤ ((W'.setCell p u).setCell q v).heap.size ∧ ((W'.setCell p u).setCell q v).cell? ⟨w.heap.size, 0, none⟩ = some (.int .i64 m) ∧ ((W'.setCell p u).setCell q v).cell? ⟨w.heap.size, 1, none⟩ = some (.int .i64 e) := fun W' p q u v hp hq hb hn => hkeep _ ((hb.setCell hp u).setCell hq v) (by simpa [World.setCell] using hn)
      have hRB : DBox w1.drew (w.heap.size + 1) := ⟨r0, r1, z0, z1⟩
      have crg := decnew_relbox (N := W0.heap.size) (W0 := W0) hdec
      clear cok a0 a1 hp hp0 hm0 hm1 hdec cd r0 r1 z0 z1
      go_region_held3 (fun W' => Below W0.heap.size W0 W' ∧ W0.heap.size ≤ W'.heap.size ∧ W'.cell? ⟨w.heap.size, 0, none⟩ = some (.int .i64 m) ∧ W'.cell? ⟨w.heap.size, 1, none⟩ = some (.int .i64 e)) (first | (refine hkeep _ ?_ ?_ <;> assumption) | (refine hkeep _ (Below.drew ?_) ?_ <;> assumption) | (refine hkeepA _ _ ?_ ?_ <;> assumption) | (refine hkeepAD _ _ ?_ ?_ <;> assumption) | (refine hkeepS _ _ _ _ _ ?_ ?_ ?_ ?_ <;> first | assumption | (show _ ≤ _; simp; done) | (show _ ≤ _; assumption))) ((first | (go_at_call 63; refine (cp _).mono ?_; rintro r w' ⟨rfl, rfl⟩) | (go_at_call 62; go_split_ands; refine (crg _ _ ?_ ?_ (dbox_drew _ _)).mono ?_; assumption; assumption; rintro r w2 ⟨rfl, hb2, hn2, hg0, hg1, hy0, hy1⟩) | (go_at_call 62; go_split_ands; refine (crg _ _ ?_ ?_ (dbox_new _ _)).mono ?_; assumption; assumption; rintro r w2 ⟨rfl, hb2, hn2, hg0, hg1, hy0, hy1⟩) | (go_at_call 62; go_split_ands; refine (crg _ _ ?_ ?_ hRB).mono ?_; assumption; assumption; rintro r w2 ⟨rfl, hb2, hn2, hg0, hg1, hy0, hy1⟩)))
      all_goals
        go_split_ands
        obtain ⟨t0, t1⟩ := tcells hg0 hg1 (.int .i64 (m * v)) (.int .i64 e)
        have hRB := Lib.hid hRB
        have hbf := (by assumption : Below W0.heap.size W0 _)
        obtain ⟨_, _, r0, r1, z0, z1⟩ := hcells _ hbf
        clear crg cp
        go_wp2
        refine bodyPost_ret (v := .agg #[.int .i64 (m * v), .int .i64 e]) (by simp [results, Try.results57, go_sem, r0, r1]) rfl ⟨rfl, ?_⟩
        exact ((hend _ hbf).setCell (by simp) _).setCell (by simp) _
end Go.Proofs.Ytilgncebhgplaaa
/- What LessFlt of the program and of the model returns: whether both are numbers and the one is less. -/
namespace Go.Proofs.Ytilgncebhgplaaa
open Go.RowKit
theorem dec_int (m e : Int) : -9223372036854775808 ≤ decFN m e ∧ decFN m e ≤ 9223372036854775807 := by
  have := (decOk_range (decF_ok m e)).2.2.1
  omega

set_option maxRecDepth 100000 in
set_option maxHeartbeats 2000000 in
theorem lessflt_impl (m e M E : Int) (w : World) (h0 : -9223372036854775808 ≤ m) (h1 : m ≤ 9223372036854775807) (k0 : -9223372036854775808 ≤ e) (k1 : e ≤ 9223372036854775807) (H0 : -9223372036854775808 ≤ M) (H1 : M ≤ 9223372036854775807) (K0 : -9223372036854775808 ≤ E) (K1 : E ≤ 9223372036854775807) :
    Calls Try.prog 40 #[.agg #[.int .i64 m, .int .i64 e], .agg #[.int .i64 M, .int .i64 E]] w fun r w' => r = .returned (.bool (lessF m e M E)) ∧ Below w.heap.size w w' := by
  obtain ⟨W0, hW⟩ : ∃ W0 : World, W0 = (w.alloc (.cells #[.int .i64 m, .int .i64 e] 58)).alloc (.cells #[.int .i64 M, .int .i64 E] 58) := ⟨_, rfl⟩
  have hcells : ∀ W', Below W0.heap.size W0 W' → W'.cell? ⟨w.heap.size, 0, none⟩ = some (.int .i64 m) ∧ W'.cell? ⟨w.heap.size, 1, none⟩ = some (.int .i64 e) ∧ W'.cell? ⟨w.heap.size + 1, 0, none⟩ = some (.int .i64 M) ∧ W'.cell? ⟨w.heap.size + 1, 1, none⟩ = some (.int .i64 E) := fun W' hb => by
    subst hW
    exact ⟨(hb.cell (p := ⟨w.heap.size, 0, none⟩) (by simp; omega)).trans (by simp [go_sem]), (hb.cell (p := ⟨w.heap.size, 1, none⟩) (by simp; omega)).trans (by simp [go_sem]), (hb.cell (p := ⟨w.heap.size + 1, 0, none⟩) (by simp)).trans (by simp [go_sem]), (hb.cell (p := ⟨w.heap.size + 1, 1, none⟩) (by simp)).trans (by simp [go_sem])⟩
  have hend : ∀ W', Below W0.heap.size W0 W' → Below w.heap.size w W' := fun W' hb => by
    subst hW
    exact ((Below.refl _ _).alloc (Nat.le_refl _) _).alloc (by simp) _ |>.trans (hb.mono (by simp; omega))
  have hB := Below.refl W0.heap.size W0
  have hN := Nat.le_refl W0.heap.size
  have ca := relCall (fun W => fltok_impl m e W h0 h1 k0 k1) (N := W0.heap.size) (W0 := W0)
  have cb := relCall (fun W => fltok_impl M E W H0 H1 K0 K1) (N := W0.heap.size) (W0 := W0)
  have hkeep : ∀ W' : World, Below W0.heap.size W0 W' → W0.heap.size ≤ W'.heap.size → Below W0.heap.size W0 W' ∧ W0.heap.size ≤ W'.heap.size ∧ W'.cell? ⟨w.heap.size, 0, none⟩ = some (.int .i64 m) ∧ W'.cell? ⟨w.heap.size, 1, none⟩ = some (.int .i64 e) ∧ W'.cell? ⟨w.heap.size + 1, 0, none⟩ = some (.int .i64 M) ∧ W'.cell? ⟨w.heap.size + 1, 1, none⟩ = some (.int .i64 E) := fun W' hb hn => ⟨hb, hn, hcells W' hb⟩
  cases hv : fltOk m e
  · rw [hv] at ca
    rw [show lessF m e M E = false by unfold lessF; rw [hv]; rfl]
    clear h0 h1 k0 k1 H0 H1 K0 K1 hv
    go_enter Try.func40, Try.ntmps40
    go_wp2_with fail
    rw [← hW]
    clear hW
    obtain ⟨_, _, _, _⟩ := hcells _ hB
    go_region_with ((first | (go_at_call_of 38 (Value.agg #[Value.int IntKind.i64 m, Value.int IntKind.i64 e]); refine (ca _ ?_ ?_).mono ?_; (first | exact Below.drew hB | assumption); (first | exact hN | assumption); rintro r w' ⟨rfl, hb', hN'⟩; obtain ⟨_, _, _, _⟩ := hcells _ hb')))
    all_goals
      go_wp2
      go_ret
      exact ⟨rfl, hend _ (by assumption)⟩
  · rw [hv] at ca
    cases hk : fltOk M E
    · rw [hk] at cb
      rw [show lessF m e M E = false by unfold lessF; rw [hv, hk]; rfl]
      clear h0 h1 k0 k1 H0 H1 K0 K1 hv hk
      go_enter Try.func40, Try.ntmps40
      go_wp2_with fail
      rw [← hW]
      clear hW
      obtain ⟨_, _, _, _⟩ := hcells _ hB
      go_region_with ((first | (go_at_call_of 38 (Value.agg #[Value.int IntKind.i64 m, Value.int IntKind.i64 e]); refine (ca _ ?_ ?_).mono ?_; (first | exact Below.drew hB | assumption); (first | exact hN | assumption); rintro r w' ⟨rfl, hb', hN'⟩; obtain ⟨_, _, _, _⟩ := hcells _ hb') | (go_at_call_of 38 (Value.agg #[Value.int IntKind.i64 M, Value.int IntKind.i64 E]); refine (cb _ ?_ ?_).mono ?_; (first | exact Below.drew hB | assumption); (first | exact hN | assumption); rintro r w' ⟨rfl, hb', hN'⟩; obtain ⟨_, _, _, _⟩ := hcells _ hb')))
      all_goals
        go_wp2
        go_ret
        exact ⟨rfl, hend _ (by assumption)⟩
    · rw [hk] at cb
      rw [show lessF m e M E = lessB (decFN m e) (decFX m e) (decFN M E) (decFX M E) by unfold lessF; rw [hv, hk]; rfl]
      have pa := relCall (fun W => fltdec_impl m e W h0 h1 k0 k1) (N := W0.heap.size) (W0 := W0)
      have pb := relCall (fun W => fltdec_impl M E W H0 H1 K0 K1) (N := W0.heap.size) (W0 := W0)
      have cl := relCall (fun W => less_impl (decFN m e) (decFX m e) (decFN M E) (decFX M E) W (dec_int m e).1 (dec_int m e).2 (dec_int M E).1 (dec_int M E).2) (N := W0.heap.size) (W0 := W0)
      generalize decFN m e = n1 at *
      generalize decFX m e = x1 at *
      generalize decFN M E = n2 at *
      generalize decFX M E = x2 at *
      generalize lessB n1 x1 n2 x2 = L at *
      clear h0 h1 k0 k1 H0 H1 K0 K1 hv hk
      go_enter Try.func40, Try.ntmps40
      go_wp2_with fail
      rw [← hW]
      clear hW
      obtain ⟨_, _, _, _⟩ := hcells _ hB
      go_region_held3 (fun W' => Below W0.heap.size W0 W' ∧ W0.heap.size ≤ W'.heap.size ∧ W'.cell? ⟨w.heap.size, 0, none⟩ = some (.int .i64 m) ∧ W'.cell? ⟨w.heap.size, 1, none⟩ = some (.int .i64 e) ∧ W'.cell? ⟨w.heap.size + 1, 0, none⟩ = some (.int .i64 M) ∧ W'.cell? ⟨w.heap.size + 1, 1, none⟩ = some (.int .i64 E)) (first | (refine hkeep _ ?_ ?_ <;> assumption) | (refine hkeep _ (Below.drew ?_) ?_ <;> assumption)) ((first | (go_at_call_of 38 (Value.agg #[Value.int IntKind.i64 m, Value.int IntKind.i64 e]); go_split_ands; refine (ca _ ?_ ?_).mono ?_; assumption; assumption; rintro r w' ⟨rfl, hb', hN'⟩) | (go_at_call_of 38 (Value.agg #[Value.int IntKind.i64 M, Value.int IntKind.i64 E]); go_split_ands; refine (cb _ ?_ ?_).mono ?_; assumption; assumption; rintro r w' ⟨rfl, hb', hN'⟩) | (go_at_call_of 53 (Value.agg #[Value.int IntKind.i64 m, Value.int IntKind.i64 e]); go_split_ands; refine (pa _ ?_ ?_).mono ?_; assumption; assumption; rintro r w' ⟨rfl, hb', hN'⟩) | (go_at_call_of 53 (Value.agg #[Value.int IntKind.i64 M, Value.int IntKind.i64 E]); go_split_ands; refine (pb _ ?_ ?_).mono ?_; assumption; assumption; rintro r w' ⟨rfl, hb', hN'⟩) | (go_at_call 43; go_split_ands; refine (cl _ ?_ ?_).mono ?_; assumption; assumption; rintro r w' ⟨rfl, hb', hN'⟩)))
      all_goals
        go_split_ands
        go_wp2
        go_ret
        exact ⟨rfl, hend _ (by assumption)⟩
set_option maxRecDepth 100000 in
set_option maxHeartbeats 2000000 in
theorem lessflt_spec (m e M E : Int) (w : World) (h0 : -9223372036854775808 ≤ m) (h1 : m ≤ 9223372036854775807) (k0 : -9223372036854775808 ≤ e) (k1 : e ≤ 9223372036854775807) (H0 : -9223372036854775808 ≤ M) (H1 : M ≤ 9223372036854775807) (K0 : -9223372036854775808 ≤ E) (K1 : E ≤ 9223372036854775807) :
    Calls Try.prog 46 #[.agg #[.int .i64 m, .int .i64 e], .agg #[.int .i64 M, .int .i64 E]] w fun r w' => r = .returned (.bool (lessF m e M E)) ∧ Below w.heap.size w w' := by
  obtain ⟨W0, hW⟩ : ∃ W0 : World, W0 = (w.alloc (.cells #[.int .i64 m, .int .i64 e] 58)).alloc (.cells #[.int .i64 M, .int .i64 E] 58) := ⟨_, rfl⟩
  have hcells : ∀ W', Below W0.heap.size W0 W' → W'.cell? ⟨w.heap.size, 0, none⟩ = some (.int .i64 m) ∧ W'.cell? ⟨w.heap.size, 1, none⟩ = some (.int .i64 e) ∧ W'.cell? ⟨w.heap.size + 1, 0, none⟩ = some (.int .i64 M) ∧ W'.cell? ⟨w.heap.size + 1, 1, none⟩ = some (.int .i64 E) := fun W' hb => by
    subst hW
    exact ⟨(hb.cell (p := ⟨w.heap.size, 0, none⟩) (by simp; omega)).trans (by simp [go_sem]), (hb.cell (p := ⟨w.heap.size, 1, none⟩) (by simp; omega)).trans (by simp [go_sem]), (hb.cell (p := ⟨w.heap.size + 1, 0, none⟩) (by simp)).trans (by simp [go_sem]), (hb.cell (p := ⟨w.heap.size + 1, 1, none⟩) (by simp)).trans (by simp [go_sem])⟩
  have hend : ∀ W', Below W0.heap.size W0 W' → Below w.heap.size w W' := fun W' hb => by
    subst hW
    exact ((Below.refl _ _).alloc (Nat.le_refl _) _).alloc (by simp) _ |>.trans (hb.mono (by simp; omega))
  have hB := Below.refl W0.heap.size W0
  have hN := Nat.le_refl W0.heap.size
  have ca := relCall (fun W => fltok_spec m e W h0 h1 k0 k1) (N := W0.heap.size) (W0 := W0)
  have cb := relCall (fun W => fltok_spec M E W H0 H1 K0 K1) (N := W0.heap.size) (W0 := W0)
  have hkeep : ∀ W' : World, Below W0.heap.size W0 W' → W0.heap.size ≤ W'.heap.size → Below W0.heap.size W0 W' ∧ W0.heap.size ≤ W'.heap.size ∧ W'.cell? ⟨w.heap.size, 0, none⟩ = some (.int .i64 m) ∧ W'.cell? ⟨w.heap.size, 1, none⟩ = some (.int .i64 e) ∧ W'.cell? ⟨w.heap.size + 1, 0, none⟩ = some (.int .i64 M) ∧ W'.cell? ⟨w.heap.size + 1, 1, none⟩ = some (.int .i64 E) := fun W' hb hn => ⟨hb, hn, hcells W' hb⟩
  cases hv : fltOk m e
  · rw [hv] at ca
    rw [show lessF m e M E = false by unfold lessF; rw [hv]; rfl]
    clear h0 h1 k0 k1 H0 H1 K0 K1 hv
    go_enter Try.func46, Try.ntmps46
    go_wp2_with fail
    rw [← hW]
    clear hW
    obtain ⟨_, _, _, _⟩ := hcells _ hB
    go_region_with ((first | (go_at_call_of 45 (Value.agg #[Value.int IntKind.i64 m, Value.int IntKind.i64 e]); refine (ca _ ?_ ?_).mono ?_; (first | exact Below.drew hB | assumption); (first | exact hN | assumption); rintro r w' ⟨rfl, hb', hN'⟩; obtain ⟨_, _, _, _⟩ := hcells _ hb')))
    all_goals
      go_wp2
      go_ret
      exact ⟨rfl, hend _ (by assumption)⟩
  · rw [hv] at ca
    cases hk : fltOk M E
    · rw [hk] at cb
      rw [show lessF m e M E = false by unfold lessF; rw [hv, hk]; rfl]
      clear h0 h1 k0 k1 H0 H1 K0 K1 hv hk
      go_enter Try.func46, Try.ntmps46
      go_wp2_with fail
      rw [← hW]
      clear hW
      obtain ⟨_, _, _, _⟩ := hcells _ hB
      go_region_with ((first | (go_at_call_of 45 (Value.agg #[Value.int IntKind.i64 m, Value.int IntKind.i64 e]); refine (ca _ ?_ ?_).mono ?_; (first | exact Below.drew hB | assumption); (first | exact hN | assumption); rintro r w' ⟨rfl, hb', hN'⟩; obtain ⟨_, _, _, _⟩ := hcells _ hb') | (go_at_call_of 45 (Value.agg #[Value.int IntKind.i64 M, Value.int IntKind.i64 E]); refine (cb _ ?_ ?_).mono ?_; (first | exact Below.drew hB | assumption); (first | exact hN | assumption); rintro r w' ⟨rfl, hb', hN'⟩; obtain ⟨_, _, _, _⟩ := hcells _ hb')))
      all_goals
        go_wp2
        go_ret
        exact ⟨rfl, hend _ (by assumption)⟩
    · rw [hk] at cb
      rw [show lessF m e M E = lessB (decFN m e) (decFX m e) (decFN M E) (decFX M E) by unfold lessF; rw [hv, hk]; rfl]
      have pa := relCall (fun W => fltdec_spec m e W h0 h1 k0 k1) (N := W0.heap.size) (W0 := W0)
      have pb := relCall (fun W => fltdec_spec M E W H0 H1 K0 K1) (N := W0.heap.size) (W0 := W0)
      have cl := relCall (fun W => less_spec (decFN m e) (decFX m e) (decFN M E) (decFX M E) W (dec_int m e).1 (dec_int m e).2 (dec_int M E).1 (dec_int M E).2) (N := W0.heap.size) (W0 := W0)
      generalize decFN m e = n1 at *
      generalize decFX m e = x1 at *
      generalize decFN M E = n2 at *
      generalize decFX M E = x2 at *
      generalize lessB n1 x1 n2 x2 = L at *
      clear h0 h1 k0 k1 H0 H1 K0 K1 hv hk
      go_enter Try.func46, Try.ntmps46
      go_wp2_with fail
      rw [← hW]
      clear hW
      obtain ⟨_, _, _, _⟩ := hcells _ hB
      go_region_held3 (fun W' => Below W0.heap.size W0 W' ∧ W0.heap.size ≤ W'.heap.size ∧ W'.cell? ⟨w.heap.size, 0, none⟩ = some (.int .i64 m) ∧ W'.cell? ⟨w.heap.size, 1, none⟩ = some (.int .i64 e) ∧ W'.cell? ⟨w.heap.size + 1, 0, none⟩ = some (.int .i64 M) ∧ W'.cell? ⟨w.heap.size + 1, 1, none⟩ = some (.int .i64 E)) (first | (refine hkeep _ ?_ ?_ <;> assumption) | (refine hkeep _ (Below.drew ?_) ?_ <;> assumption)) ((first | (go_at_call_of 45 (Value.agg #[Value.int IntKind.i64 m, Value.int IntKind.i64 e]); go_split_ands; refine (ca _ ?_ ?_).mono ?_; assumption; assumption; rintro r w' ⟨rfl, hb', hN'⟩) | (go_at_call_of 45 (Value.agg #[Value.int IntKind.i64 M, Value.int IntKind.i64 E]); go_split_ands; refine (cb _ ?_ ?_).mono ?_; assumption; assumption; rintro r w' ⟨rfl, hb', hN'⟩) | (go_at_call_of 57 (Value.agg #[Value.int IntKind.i64 m, Value.int IntKind.i64 e]); go_split_ands; refine (pa _ ?_ ?_).mono ?_; assumption; assumption; rintro r w' ⟨rfl, hb', hN'⟩) | (go_at_call_of 57 (Value.agg #[Value.int IntKind.i64 M, Value.int IntKind.i64 E]); go_split_ands; refine (pb _ ?_ ?_).mono ?_; assumption; assumption; rintro r w' ⟨rfl, hb', hN'⟩) | (go_at_call 48; go_split_ands; refine (cl _ ?_ ?_).mono ?_; assumption; assumption; rintro r w' ⟨rfl, hb', hN'⟩)))
      all_goals
        go_split_ands
        go_wp2
        go_ret
        exact ⟨rfl, hend _ (by assumption)⟩
end Go.Proofs.Ytilgncebhgplaaa
/- compareBy of the program, at floating-point and at decimal numbers; l7Plain of the model. -/
namespace Go.Proofs.Ytilgncebhgplaaa
open Go.RowKit
set_option maxRecDepth 100000
def isI (n : Int) : Prop := -9223372036854775808 ≤ n ∧ n ≤ 9223372036854775807
theorem byflt_impl (m e M E : Int) (w : World) (h0 : isI m) (k0 : isI e) (H0 : isI M) (K0 : isI E) :
    Calls Try.prog 39 #[.agg #[.int .i64 m, .int .i64 e], .agg #[.int .i64 M, .int .i64 E], .func (.func 40) #[] #[]] w fun r w' => r = .returned (.int .i64 (byV (lessF m e M E) (lessF M E m e))) ∧ Below w.heap.size w w' := by
  obtain ⟨W0, hW⟩ : ∃ W0 : World, W0 = (w.alloc (.cells #[.int .i64 m, .int .i64 e] 58)).alloc (.cells #[.int .i64 M, .int .i64 E] 58) := ⟨_, rfl⟩
  have hcells : ∀ W', Below W0.heap.size W0 W' → W'.cell? ⟨w.heap.size, 0, none⟩ = some (.int .i64 m) ∧ W'.cell? ⟨w.heap.size, 1, none⟩ = some (.int .i64 e) ∧ W'.cell? ⟨w.heap.size + 1, 0, none⟩ = some (.int .i64 M) ∧ W'.cell? ⟨w.heap.size + 1, 1, none⟩ = some (.int .i64 E) := fun W' hb => by
    subst hW
    exact ⟨(hb.cell (p := ⟨w.heap.size, 0, none⟩) (by simp; omega)).trans (by simp [go_sem]), (hb.cell (p := ⟨w.heap.size, 1, none⟩) (by simp; omega)).trans (by simp [go_sem]), (hb.cell (p := ⟨w.heap.size + 1, 0, none⟩) (by simp)).trans (by simp [go_sem]), (hb.cell (p := ⟨w.heap.size + 1, 1, none⟩) (by simp)).trans (by simp [go_sem])⟩
  have hend : ∀ W', Below W0.heap.size W0 W' → Below w.heap.size w W' := fun W' hb => by
    subst hW
    exact ((Below.refl _ _).alloc (Nat.le_refl _) _).alloc (by simp) _ |>.trans (hb.mono (by simp; omega))
  have hB := Below.refl W0.heap.size W0
  have hN := Nat.le_refl W0.heap.size
  have ca := relCall (fun W => lessflt_impl m e M E W h0.1 h0.2 k0.1 k0.2 H0.1 H0.2 K0.1 K0.2) (N := W0.heap.size) (W0 := W0)
  have cb := relCall (fun W => lessflt_impl M E m e W H0.1 H0.2 K0.1 K0.2 h0.1 h0.2 k0.1 k0.2) (N := W0.heap.size) (W0 := W0)
  clear h0 k0 H0 K0
  generalize lessF m e M E = L at *
  generalize lessF M E m e = R at *
  obtain ⟨_, _, _, _⟩ := hcells _ hB
  cases L
  · go_enter Try.func39, Try.ntmps39
    go_wp2_with fail
    rw [← hW]
    go_wp2_with fail
    refine (ca _ hB hN).mono ?_
    clear hB hN
    rintro r w' ⟨rfl, hB, hN⟩
    obtain ⟨_, _, _, _⟩ := hcells _ hB
    go_wp2_with fail
    refine (cb _ hB hN).mono ?_
    clear hB hN
    rintro r w' ⟨rfl, hB, hN⟩
    cases R
    all_goals
      go_wp2
      go_ret
      exact ⟨rfl, hend _ hB⟩
  · go_enter Try.func39, Try.ntmps39
    go_wp2_with fail
    rw [← hW]
    go_wp2_with fail
    refine (ca _ hB hN).mono ?_
    clear hB hN
    rintro r w' ⟨rfl, hB, hN⟩
    go_wp2
    go_ret
    exact ⟨rfl, hend _ hB⟩
theorem bydec_impl (m e M E : Int) (w : World) (h0 : isI m) (H0 : isI M) :
    Calls Try.prog 42 #[.agg #[.int .i64 m, .int .i64 e], .agg #[.int .i64 M, .int .i64 E], .func (.func 43) #[] #[]] w fun r w' => r = .returned (.int .i64 (byV (lessB m e M E) (lessB M E m e))) ∧ Below w.heap.size w w' := by
  obtain ⟨W0, hW⟩ : ∃ W0 : World, W0 = (w.alloc (.cells #[.int .i64 m, .int .i64 e] 60)).alloc (.cells #[.int .i64 M, .int .i64 E] 60) := ⟨_, rfl⟩
  have hcells : ∀ W', Below W0.heap.size W0 W' → W'.cell? ⟨w.heap.size, 0, none⟩ = some (.int .i64 m) ∧ W'.cell? ⟨w.heap.size, 1, none⟩ = some (.int .i64 e) ∧ W'.cell? ⟨w.heap.size + 1, 0, none⟩ = some (.int .i64 M) ∧ W'.cell? ⟨w.heap.size + 1, 1, none⟩ = some (.int .i64 E) := fun W' hb => by
    subst hW
    exact ⟨(hb.cell (p := ⟨w.heap.size, 0, none⟩) (by simp; omega)).trans (by simp [go_sem]), (hb.cell (p := ⟨w.heap.size, 1, none⟩) (by simp; omega)).trans (by simp [go_sem]), (hb.cell (p := ⟨w.heap.size + 1, 0, none⟩) (by simp)).trans (by simp [go_sem]), (hb.cell (p := ⟨w.heap.size + 1, 1, none⟩) (by simp)).trans (by simp [go_sem])⟩
  have hend : ∀ W', Below W0.heap.size W0 W' → Below w.heap.size w W' := fun W' hb => by
    subst hW
    exact ((Below.refl _ _).alloc (Nat.le_refl _) _).alloc (by simp) _ |>.trans (hb.mono (by simp; omega))
  have hB := Below.refl W0.heap.size W0
  have hN := Nat.le_refl W0.heap.size
  have ca := relCall (fun W => less_impl m e M E W h0.1 h0.2 H0.1 H0.2) (N := W0.heap.size) (W0 := W0)
  have cb := relCall (fun W => less_impl M E m e W H0.1 H0.2 h0.1 h0.2) (N := W0.heap.size) (W0 := W0)
  clear h0 H0
  generalize lessB m e M E = L at *
  generalize lessB M E m e = R at *
  obtain ⟨_, _, _, _⟩ := hcells _ hB
  cases L
  · go_enter Try.func42, Try.ntmps42
    go_wp2_with fail
    rw [← hW]
    go_wp2_with fail
    refine (ca _ hB hN).mono ?_
    clear hB hN
    rintro r w' ⟨rfl, hB, hN⟩
    obtain ⟨_, _, _, _⟩ := hcells _ hB
    go_wp2_with fail
    refine (cb _ hB hN).mono ?_
    clear hB hN
    rintro r w' ⟨rfl, hB, hN⟩
    cases R
    all_goals
      go_wp2
      go_ret
      exact ⟨rfl, hend _ hB⟩
  · go_enter Try.func42, Try.ntmps42
    go_wp2_with fail
    rw [← hW]
    go_wp2_with fail
    refine (ca _ hB hN).mono ?_
    clear hB hN
    rintro r w' ⟨rfl, hB, hN⟩
    go_wp2
    go_ret
    exact ⟨rfl, hend _ hB⟩
theorem plain_spec (T U : AT) (w : World) : Calls Try.prog 49 #[T.val, U.val] w fun e w' => e = .returned (.int .i64 (plainV T.k T.n T.x U.n U.x)) ∧ Below w.heap.size w w' := by
  obtain ⟨k, n, x, s, a, cap, l⟩ := T
  obtain ⟨k2, n2, x2, s2, b, cap2, m⟩ := U
  show Calls Try.prog 49 #[.agg #[.int .i64 k, .int .i64 n, .int .i64 x, .string ⟨s.toArray⟩, .slice a l.length cap], .agg #[.int .i64 k2, .int .i64 n2, .int .i64 x2, .string ⟨s2.toArray⟩, .slice b m.length cap2]] w fun e w' => e = .returned (.int .i64 (orI (cmpI n n2) (cmpI x x2))) ∧ Below w.heap.size w w'
  rcases Int.lt_trichotomy n n2 with h | h | h
  · rw [show orI (cmpI n n2) (cmpI x x2) = -1 by rw [orI_ne]; exact if_pos h; rw [show cmpI n n2 = -1 from if_pos h]; decide]
    go_enter Try.func49, Try.ntmps49
    go_wp2
    go_ret
    exact ⟨rfl, two' _ _ _⟩
  · subst h
    rw [show orI (cmpI n n) (cmpI x x2) = cmpI x x2 by rw [cmpI_zero.2 rfl]; rfl]
    rcases Int.lt_trichotomy x x2 with h | h | h
    · rw [show cmpI x x2 = -1 from if_pos h]
      go_enter Try.func49, Try.ntmps49
      go_wp2
      go_ret
      exact ⟨rfl, two' _ _ _⟩
    · subst h
      rw [cmpI_zero.2 rfl]
      go_enter Try.func49, Try.ntmps49
      go_wp2
      go_ret
      exact ⟨rfl, two' _ _ _⟩
    · rw [show cmpI x x2 = 1 by unfold cmpI; rw [if_neg (by omega), if_pos h]]
      have h2 : ¬ x < x2 := by omega
      go_enter Try.func49, Try.ntmps49
      go_wp2
      go_ret
      exact ⟨rfl, two' _ _ _⟩
  · rw [show orI (cmpI n n2) (cmpI x x2) = 1 by rw [show cmpI n n2 = 1 by unfold cmpI; rw [if_neg (by omega), if_pos h]]; rfl]
    have h2 : ¬ n < n2 := by omega
    go_enter Try.func49, Try.ntmps49
    go_wp2
    go_ret
    exact ⟨rfl, two' _ _ _⟩
end Go.Proofs.Ytilgncebhgplaaa
