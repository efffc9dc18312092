/- What FltDec of the model returns. -/
import Derived.Test.YtpkmlfmkgodhkaaFltDec
import Derived.Deep.RegionHeld3
namespace Go.Proofs.Ytpkmlfmkgodhkaa
open Go.RowKit
theorem tcells {W : World} {r : Nat} {a b : Value} (h0 : W.cell? ⟨r, 0, none⟩ = some a) (h1 : W.cell? ⟨r, 1, none⟩ = some b) (u v : Value) : ((W.setCell ⟨r, 0, none⟩ u).setCell ⟨r, 1, none⟩ v).cell? ⟨r, 0, none⟩ = some u ∧ ((W.setCell ⟨r, 0, none⟩ u).setCell ⟨r, 1, none⟩ v).cell? ⟨r, 1, none⟩ = some v := by
  have e : (W.setCell ⟨r, 0, none⟩ u).cell? ⟨r, 1, none⟩ = some b := (World.cell?_setCell_other W ⟨r, 0, none⟩ ⟨r, 1, none⟩ u (by simp)).trans h1
  exact ⟨(World.cell?_setCell_other _ ⟨r, 1, none⟩ ⟨r, 0, none⟩ v (by simp)).trans (World.cell?_setCell_same _ _ _ h0), World.cell?_setCell_same _ _ _ e⟩
theorem isNew_own {n x N X : Int} {ok : Bool} (hv : decOk n x = true) (h : IsNew n x N X ok) : N = n ∧ X = x ∧ ok = true := by
  obtain ⟨r0, r1, r2, _, _⟩ := decOk_range hv
  have hs : IsNew n x n x true := isNew_yes ⟨(digV_17 n).2 r2, by omega, by omega⟩ (same_refl n x) hv
  obtain ⟨rfl, rfl, rfl⟩ := isNew_uniq hs h
  exact ⟨rfl, rfl, rfl⟩
theorem decnew_self {n x : Int} (W : World) (hv : decOk n x = true) : Calls Try.prog 142 #[.int .i64 n, .int .i64 x] W fun r w' => r = .returned (.tuple #[.agg #[.int .i64 n, .int .i64 x], .bool true]) ∧ Below W.heap.size W w' := by
  obtain ⟨r0, r1, r2, _, _⟩ := decOk_range hv
  refine (decnew_spec n x W (by omega) (by omega)).mono ?_
  rintro r w' ⟨N, X, ok, rfl, hN, hb⟩
  obtain ⟨rfl, rfl, rfl⟩ := isNew_own hv hN
  exact ⟨rfl, hb⟩
theorem decnew_rel {n x : Int} {N : Nat} {W0 : World} (hv : decOk n x = true) : ∀ W, Below N W0 W → N ≤ W.heap.size →
    Calls Try.prog 142 #[.int .i64 n, .int .i64 x] W fun r w' => r = .returned (.tuple #[.agg #[.int .i64 n, .int .i64 x], .bool true]) ∧ Below N W0 w' ∧ N ≤ w'.heap.size :=
  fun W hb hN => (decnew_self W hv).mono fun _ _ ⟨he, hb2⟩ => ⟨he, hb.trans (hb2.mono hN), Nat.le_trans hN hb2.size⟩
def DBox (W : World) (g : Nat) : Prop := W.cell? ⟨g, 0, none⟩ = some (.int .i64 0) ∧ W.cell? ⟨g, 1, none⟩ = some (.int .i64 0) ∧ W.frozen? ⟨g, 0, none⟩ = false ∧ W.frozen? ⟨g, 1, none⟩ = false
theorem dbox_new (w : World) (T : TypeId) : DBox (w.alloc (.cells #[.int .i64 0, .int .i64 0] T)) w.heap.size :=
  ⟨by simp [go_sem], by simp [go_sem], by simp [go_sem], by simp [go_sem]⟩
theorem dbox_drew (w : World) (T : TypeId) : DBox (w.alloc (.cells #[.int .i64 0, .int .i64 0] T)).drew w.heap.size := dbox_new w T
theorem decnew_relbox {n x : Int} {N : Nat} {W0 : World} (hv : decOk n x = true) : ∀ W g, Below N W0 W → N ≤ W.heap.size → DBox W g →
    Calls Try.prog 142 #[.int .i64 n, .int .i64 x] W fun r w' => r = .returned (.tuple #[.agg #[.int .i64 n, .int .i64 x], .bool true]) ∧ Below N W0 w' ∧ N ≤ w'.heap.size ∧ w'.cell? ⟨g, 0, none⟩ = some (.int .i64 0) ∧ w'.cell? ⟨g, 1, none⟩ = some (.int .i64 0) ∧ w'.frozen? ⟨g, 0, none⟩ = false ∧ w'.frozen? ⟨g, 1, none⟩ = false :=
  fun W g hb hN hg => (decnew_self W hv).mono fun _ _ ⟨he, hb2⟩ => by
    have hlt := cell_lt hg.1
    exact ⟨he, hb.trans (hb2.mono hN), Nat.le_trans hN hb2.size, (hb2.cell (p := ⟨g, 0, none⟩) hlt).trans hg.1, (hb2.cell (p := ⟨g, 1, none⟩) hlt).trans hg.2.1, (hb2.frozen (p := ⟨g, 0, none⟩) hlt).trans hg.2.2.1, (hb2.frozen (p := ⟨g, 1, none⟩) hlt).trans hg.2.2.2⟩
set_option maxRecDepth 100000 in
set_option maxHeartbeats 2000000 in
theorem fltdec_spec (m e : Int) (w : World) (h0 : -9223372036854775808 ≤ m) (h1 : m ≤ 9223372036854775807) (k0 : -9223372036854775808 ≤ e) (k1 : e ≤ 9223372036854775807) :
    Calls Try.prog 141 #[.agg #[.int .i64 m, .int .i64 e]] w (FDecPost m e w) := by
  obtain ⟨W0, hW⟩ : ∃ W0 : World, W0 = (w.alloc (.cells #[.int .i64 m, .int .i64 e] 78)).alloc (.cells #[.int .i64 0, .int .i64 0] 34) := ⟨_, rfl⟩
  have hcells : ∀ W', Below W0.heap.size W0 W' → W'.cell? ⟨w.heap.size, 0, none⟩ = some (.int .i64 m) ∧ W'.cell? ⟨w.heap.size, 1, none⟩ = some (.int .i64 e) ∧ W'.cell? ⟨w.heap.size + 1, 0, none⟩ = some (.int .i64 0) ∧ W'.cell? ⟨w.heap.size + 1, 1, none⟩ = some (.int .i64 0) ∧ W'.frozen? ⟨w.heap.size + 1, 0, none⟩ = false ∧ W'.frozen? ⟨w.heap.size + 1, 1, none⟩ = false := fun W' hb => by
    subst hW
    exact ⟨(hb.cell (p := ⟨w.heap.size, 0, none⟩) (by simp; omega)).trans (by simp [go_sem]), (hb.cell (p := ⟨w.heap.size, 1, none⟩) (by simp; omega)).trans (by simp [go_sem]), (hb.cell (p := ⟨w.heap.size + 1, 0, none⟩) (by simp)).trans (by simp [go_sem]), (hb.cell (p := ⟨w.heap.size + 1, 1, none⟩) (by simp)).trans (by simp [go_sem]), (hb.frozen (p := ⟨w.heap.size + 1, 0, none⟩) (by simp)).trans (by simp [go_sem]), (hb.frozen (p := ⟨w.heap.size + 1, 1, none⟩) (by simp)).trans (by simp [go_sem])⟩
  have hend : ∀ W', Below W0.heap.size W0 W' → Below w.heap.size w W' := fun W' hb => by
    subst hW
    exact ((Below.refl _ _).alloc (Nat.le_refl _) _).alloc (by simp) _ |>.trans (hb.mono (by simp; omega))
  have hsz : W0.heap.size = w.heap.size + 2 := by subst hW; simp
  have hB := Below.refl W0.heap.size W0
  have hN := Nat.le_refl W0.heap.size
  have cok := relCall (fun W => fltok_spec m e W h0 h1 k0 k1) (N := W0.heap.size) (W0 := W0)
  unfold FDecPost
  cases hv : fltOk m e
  · rw [hv] at cok
    rw [(decF_bad hv).1, (decF_bad hv).2]
    clear h0 h1 k0 k1
    go_enter Try.func141, Try.ntmps141
    go_wp2_with fail
    rw [← hW]
    refine (cok _ hB hN).mono ?_
    rintro r w1 ⟨rfl, hb, hn⟩
    obtain ⟨f0, f1, r0, r1, z0, z1⟩ := hcells _ hb
    go_wp2
    refine bodyPost_ret (v := .agg #[.int .i64 0, .int .i64 0]) (by simp [results, Try.results141, go_sem, r0, r1]) rfl ⟨rfl, ?_⟩
    exact ((hend _ hb).setCell (by simp) _).setCell (by simp) _
  · rw [hv] at cok
    obtain ⟨a0, a1, a2, a3, a4⟩ := fltOk_range hv
    by_cases he : 0 ≤ e
    · have hs := shl_of (m := m) he (by omega) (by have := flt_small hv he; rw [Int.natAbs_mul, Int.natAbs_pow]; exact Nat.lt_trans this (by decide))
      rw [(decF_high hv he).1, (decF_high hv he).2]
      have hw := high_wrap hv he
      clear h0 h1 k0 k1 a3 a4 hv
      go_enter Try.func141, Try.ntmps141
      go_wp2_with fail
      rw [← hW]
      refine (cok _ hB hN).mono ?_
      rintro r w1 ⟨rfl, hb, hn⟩
      obtain ⟨f0, f1, r0, r1, z0, z1⟩ := hcells _ hb
      go_wp2
      refine bodyPost_ret (v := .agg #[.int .i64 (m * 2 ^ e.toNat), .int .i64 0]) (by simp [results, Try.results141, go_sem, r0, r1]) rfl ⟨rfl, ?_⟩
      exact ((hend _ hb).setCell (by simp) _).setCell (by simp) _
    · have hlt := five_le hv (by omega)
      have cp := fun W => pow_spec 5 (-e) W
      rw [pow5 (by omega) (by omega)] at cp
      have hdec := decF_ok m e
      rw [(decF_low hv (by omega)).1, (decF_low hv (by omega)).2] at hdec
      have cd := fun W => decnew_self W hdec
      rw [(decF_low hv (by omega)).1, (decF_low hv (by omega)).2]
      have hmul : IntKind.i64.wrap (m * 5 ^ (-e).toNat) = m * 5 ^ (-e).toNat := by
        have h2 : (m * 5 ^ (-e).toNat).natAbs < 100000000000000000 := by rw [Int.natAbs_mul, Int.natAbs_pow]; exact hlt
        exact IntWalk.i64_in _ (by omega)
      have hp : (5 : Int) ^ (-e).toNat ≤ 152587890625 := by
        have h1 : 5 ^ (-e).toNat ≤ 5 ^ 16 := Nat.pow_le_pow_right (by decide) (by omega)
        have h2 : ((5 ^ (-e).toNat : Nat) : Int) = (5 : Int) ^ (-e).toNat := by rw [Int.natCast_pow]; rfl
        omega
      have hp0 : (0 : Int) < 5 ^ (-e).toNat := Int.pow_pos (by decide)
      generalize (5 : Int) ^ (-e).toNat = v at *
      have hm0 : -65535 ≤ m := by omega
      have hm1 : m ≤ 65535 := by omega
      have he2 : e < 0 := by omega
      have hneg : IntKind.i64.wrap (-e) = -e := IntWalk.i64_in _ (by omega)
      clear h0 h1 k0 k1 a2 a3 a4 hv hlt he
      go_enter Try.func141, Try.ntmps141
      go_wp2_with fail
      rw [← hW]
      refine (cok _ hB hN).mono ?_
      clear hB hN
      rintro r w1 ⟨rfl, hB, hN⟩
      obtain ⟨f0, f1, r0, r1, z0, z1⟩ := hcells _ hB
      go_wp2_with fail
      have hkeep : ∀ W' : World, Below W0.heap.size W0 W' → W0.heap.size ≤ W'.heap.size → Below W0.heap.size W0 W' ∧ W0.heap.size ≤ W'.heap.size ∧ W'.cell? ⟨w.heap.size, 0, none⟩ = some (.int .i64 m) ∧ W'.cell? ⟨w.heap.size, 1, none⟩ = some (.int .i64 e) := fun W' hb hn => ⟨hb, hn, (hcells _ hb).1, (hcells _ hb).2.1⟩
      have hkeepA : ∀ (W' : World) (o : Obj), Below W0.heap.size W0 W' → W0.heap.size ≤ W'.heap.size → Below W0.heap.size W0 (W'.alloc o) ∧ W0.heap.size ≤ (W'.alloc o).heap.size ∧ (W'.alloc o).cell? ⟨w.heap.size, 0, none⟩ = some (.int .i64 m) ∧ (W'.alloc o).cell? ⟨w.heap.size, 1, none⟩ = some (.int .i64 e) := fun W' o hb hn => hkeep _ (hb.alloc hn o) (by simp; omega)
      have hkeepAD : ∀ (W' : World) (o : Obj), Below W0.heap.size W0 W' → W0.heap.size ≤ W'.heap.size → Below W0.heap.size W0 (W'.alloc o).drew ∧ W0.heap.size ≤ (W'.alloc o).drew.heap.size ∧ (W'.alloc o).drew.cell? ⟨w.heap.size, 0, none⟩ = some (.int .i64 m) ∧ (W'.alloc o).drew.cell? ⟨w.heap.size, 1, none⟩ = some (.int .i64 e) := fun W' o hb hn => hkeep _ (Below.drew (hb.alloc hn o)) (by show _ ≤ (W'.alloc o).heap.size; simp; omega)
      have hkeepS : ∀ (W' : World) (p q : Addr) (u v : Value), W0.heap.size ≤ p.block → W0.heap.size ≤ q.block → Below W0.heap.size W0 W' → W0.heap.size ≤ W'.heap.size → Below W0.heap.size W0 ((W'.setCell p u).setCell q v) ∧ W0.heap.size ≤ ((W'.setCell p u).setCell q v).heap.size ∧ ((W'.setCell p u).setCell q v).cell? ⟨w.heap.size, 0, none⟩ = some (.int .i64 m) ∧ ((W'.setCell p u).setCell q v).cell? ⟨w.heap.size, 1, none⟩ = some (.int .i64 e) := fun W' p q u v hp hq hb hn => hkeep _ ((hb.setCell hp u).setCell hq v) (by simpa [World.setCell] using hn)
      have hRB : DBox w1.drew (w.heap.size + 1) := ⟨r0, r1, z0, z1⟩
      have crg := decnew_relbox (N := W0.heap.size) (W0 := W0) hdec
      clear cok a0 a1 hp hp0 hm0 hm1 hdec cd r0 r1 z0 z1
      go_region_held3 (fun W' => Below W0.heap.size W0 W' ∧ W0.heap.size ≤ W'.heap.size ∧ W'.cell? ⟨w.heap.size, 0, none⟩ = some (.int .i64 m) ∧ W'.cell? ⟨w.heap.size, 1, none⟩ = some (.int .i64 e)) (first | (refine hkeep _ ?_ ?_ <;> assumption) | (refine hkeep _ (Below.drew ?_) ?_ <;> assumption) | (refine hkeepA _ _ ?_ ?_ <;> assumption) | (refine hkeepAD _ _ ?_ ?_ <;> assumption) | (refine hkeepS _ _ _ _ _ ?_ ?_ ?_ ?_ <;> first | assumption | (show _ ≤ _; simp; done) | (show _ ≤ _; assumption))) ((first | (go_at_call 163; refine (cp _).mono ?_; rintro r w' ⟨rfl, rfl⟩) | (go_at_call 142; go_split_ands; refine (crg _ _ ?_ ?_ (dbox_drew _ _)).mono ?_; assumption; assumption; rintro r w2 ⟨rfl, hb2, hn2, hg0, hg1, hy0, hy1⟩) | (go_at_call 142; go_split_ands; refine (crg _ _ ?_ ?_ (dbox_new _ _)).mono ?_; assumption; assumption; rintro r w2 ⟨rfl, hb2, hn2, hg0, hg1, hy0, hy1⟩) | (go_at_call 142; go_split_ands; refine (crg _ _ ?_ ?_ hRB).mono ?_; assumption; assumption; rintro r w2 ⟨rfl, hb2, hn2, hg0, hg1, hy0, hy1⟩)))
      all_goals
        go_split_ands
        obtain ⟨t0, t1⟩ := tcells hg0 hg1 (.int .i64 (m * v)) (.int .i64 e)
        have hRB := Lib.hid hRB
        have hbf := (by assumption : Below W0.heap.size W0 _)
        obtain ⟨_, _, r0, r1, z0, z1⟩ := hcells _ hbf
        clear crg cp
        go_wp2
        refine bodyPost_ret (v := .agg #[.int .i64 (m * v), .int .i64 e]) (by simp [results, Try.results141, go_sem, r0, r1]) rfl ⟨rfl, ?_⟩
        exact ((hend _ hbf).setCell (by simp) _).setCell (by simp) _
end Go.Proofs.Ytpkmlfmkgodhkaa
