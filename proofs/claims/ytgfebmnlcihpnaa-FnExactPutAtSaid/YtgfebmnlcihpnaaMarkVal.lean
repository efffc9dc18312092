/- markValS and markVal of the exact laws. -/
import Derived.Test.YtgfebmnlcihpnaaMarkMath
namespace Go.Proofs.Ytgfebmnlcihpnaa
open Go.RowKit
theorem mid_get (X Y : List Value) (v0 v1 v2 v3 v4 : Value) (p : Nat) (hx : X.length = p) : (X ++ [v0, v1, v2, v3, v4] ++ Y)[p]? = some v0 ∧ (X ++ [v0, v1, v2, v3, v4] ++ Y)[p + 1]? = some v1 ∧ (X ++ [v0, v1, v2, v3, v4] ++ Y)[p + 2]? = some v2 ∧ (X ++ [v0, v1, v2, v3, v4] ++ Y)[p + 3]? = some v3 ∧ (X ++ [v0, v1, v2, v3, v4] ++ Y)[p + 4]? = some v4 := by
  subst hx
  refine ⟨?_, ?_, ?_, ?_, ?_⟩ <;> simp [List.getElem?_append_right]
theorem mid_set (X Y : List Value) (v0 v1 v2 v3 v4 u0 u1 u2 : Value) (p : Nat) (hx : X.length = p) :
    (((X ++ [v0, v1, v2, v3, v4] ++ Y).set p u0).set (p + 1) u1).set (p + 2) u2 = X ++ [u0, u1, u2, v3, v4] ++ Y := by
  subst hx
  simp [List.set_append]
theorem mid_set3 (X Y : List Value) (v0 v1 v2 v3 v4 u3 : Value) (p : Nat) (hx : X.length = p) : (X ++ [v0, v1, v2, v3, v4] ++ Y).set (p + 3) u3 = X ++ [v0, v1, v2, u3, v4] ++ Y := by
  subst hx
  simp [List.set_append]
theorem AT.Own.setg {w : World} {B g o : Nat} {u : Value} {T : AT} (h : T.Own w B) (hg : g ∉ T.blks) : T.Own (w.setCell ⟨g, o, none⟩ u) B := h.only ((Only.refl g w).setCell o u) hg
/-- the first three marks of an element, and what a call behind them leaves -/
theorem mark_three {wr w1 : World} {B g n cap p : Nat} {X Y : List Value} {v0 v1 v2 v3 v4 u0 u1 u2 : Value} (hrow : wr.ownsRow B 26 5 (.slice (some ⟨g, 0, none⟩) n cap) n (X ++ [v0, v1, v2, v3, v4] ++ Y)) (hx : X.length = p) (hp : p + 5 ≤ n * 5)
    (hb : Below (((wr.setCell ⟨g, p, none⟩ u0).setCell ⟨g, p + 1, none⟩ u1).setCell ⟨g, p + 2, none⟩ u2).heap.size (((wr.setCell ⟨g, p, none⟩ u0).setCell ⟨g, p + 1, none⟩ u1).setCell ⟨g, p + 2, none⟩ u2) w1) :
    w1.ownsRow B 26 5 (.slice (some ⟨g, 0, none⟩) n cap) n (X ++ [u0, u1, u2, v3, v4] ++ Y) ∧ w1.cell? ⟨g, p + 3, none⟩ = some v3 ∧ w1.cell? ⟨g, p + 4, none⟩ = some v4 ∧ (∀ o, w1.frozen? ⟨g, o, none⟩ = false) := by
  have h3 := ((((hrow.stored p u0).1.stored (p + 1) u1).1).stored (p + 2) u2).1
  rw [mid_set _ _ _ _ _ _ _ _ _ _ _ hx] at h3
  have h4 := own_heap h3 (fun k hk => hb.block k (h3.lt k hk).2)
  have hm := mid_get X Y u0 u1 u2 v3 v4 p hx
  exact ⟨h4, (h4.cellAt _ (by omega)).trans hm.2.2.2.1, (h4.cellAt _ (by omega)).trans hm.2.2.2.2, h4.frozenAt⟩
def MarkPost (w : World) (B : Nat) (a : Option Addr) (cap : Nat) (l : List AT) (c : Nat) (e : Ending) (w' : World) : Prop :=
  e = .returned (.int .i64 (c + 4 * PT.cntL (AT.ptL l) : Nat)) ∧ OwnL w' B a cap (AT.markL c l) ∧ OnlyBs ((a.map (·.block)).toList ++ AT.blksL l) w w'
theorem blksL_mid (L1 L2 : List AT) (t : AT) : AT.blksL (L1 ++ t :: L2) = AT.blksL L1 ++ (t.blks ++ AT.blksL L2) := by rw [AT.blksL_append]; rfl
theorem mem_blks {l : List AT} {t : AT} (ht : t ∈ l) {k : Nat} (hk : k ∈ t.blks) : k ∈ AT.blksL l := AT.mem_blksL.2 ⟨t, ht, hk⟩
set_option maxHeartbeats 1000000 in
theorem markValS_of (l : List AT) (ih : ∀ t ∈ l, ∀ (w : World) (B c : Nat), OwnL w B t.a t.cap t.l → ((t.a.map (·.block)).toList ++ AT.blksL t.l).Nodup → 1 ≤ c → c + 4 * PT.cntL (AT.ptL t.l) ≤ 1099511627776 → Calls Try.prog 131 #[.slice t.a t.l.length t.cap, .int .i64 (c : Nat)] w (MarkPost w B t.a t.cap t.l c))
    (hl : l.length ≤ 1099511627776) (w : World) (B c : Nat) (a : Option Addr) (cap : Nat) (h : OwnL w B a cap l) (hnd : ((a.map (·.block)).toList ++ AT.blksL l).Nodup) (hc : 1 ≤ c) (hb : c + 4 * PT.cntL (AT.ptL l) ≤ 1099511627776) :
    Calls Try.prog 131 #[.slice a l.length cap, .int .i64 (c : Nat)] w (MarkPost w B a cap l c) := by
  have H := Lib.hid h
  have IH := Lib.hid ih
  have ND := Lib.hid hnd
  have HBD := Lib.hid hb
  clear h ih hnd hb
  go_enter Try.func131, Try.ntmps131
  go_wp2
  go_loopw [1, 5] (fun k i wr => ∃ i' c' : Nat, k = .int .i64 c' ∧ i = .int .i64 i' ∧ i' ≤ l.length ∧ c' = c + 4 * PT.cntL (AT.ptL (l.take i')) ∧ OwnL wr B a cap (AT.markL c (l.take i') ++ l.drop i') ∧ OnlyBs ((a.map (·.block)).toList ++ AT.blksL l) w wr) (fun _ i _ => l.length - (intOf i).toNat)
  case atStart => exact ⟨0, c, rfl, rfl, Nat.zero_le _, by simp [AT.ptL, PT.cntL], by simpa [AT.markL] using H.out, OnlyBs.refl _ _⟩
  case round =>
    obtain ⟨i', c', rfl, rfl, hi', hcc, hown, ho⟩ := hrel
    have HO := Lib.hid ho
    have HCC := Lib.hid hcc
    have HOWN := Lib.hid hown
    clear ho hcc
    by_cases hlt : i' < l.length
    · obtain ⟨T, hT⟩ : ∃ T, T = l[i'] := ⟨_, rfl⟩
      have hsplit : l = l.take i' ++ T :: l.drop (i' + 1) := by rw [hT, List.getElem_cons_drop hlt, List.take_append_drop]
      have HSP := Lib.hid hsplit
      have hmem : T ∈ l := by rw [hT]; exact List.getElem_mem hlt
      obtain ⟨L1, hL1⟩ : ∃ L1, L1 = AT.markL c (l.take i') := ⟨_, rfl⟩
      obtain ⟨L2, hL2⟩ : ∃ L2, L2 = l.drop (i' + 1) := ⟨_, rfl⟩
      have hlen1 : L1.length = i' := by rw [hL1, markL_length, List.length_take]; omega
      have hlr : AT.markL c (l.take i') ++ l.drop i' = L1 ++ T :: L2 := by rw [hL1, hL2, hT, List.getElem_cons_drop hlt]
      rw [hlr] at hown
      have hlen : (L1 ++ T :: L2).length = l.length := by rw [← hlr]; simp; omega
      obtain ⟨g, hag, hBg, hgl, hC0⟩ := own_cellL hown.row i' (by rw [hlen]; exact hlt)
      subst hag
      have hblk : AT.blksL (L1 ++ T :: L2) = AT.blksL l := by rw [← hlr, AT.blksL_append, blksL_mark, ← AT.blksL_append, List.take_append_drop]
      have hnd : (g :: AT.blksL (L1 ++ T :: L2)).Nodup := by rw [hblk]; exact ND.out
      rw [blksL_mid, List.nodup_cons, List.nodup_append, List.nodup_append] at hnd
      have hcT : c' + 4 * T.pt.cnt ≤ 1099511627776 := by
        have h1 := HBD.out
        have h2 := HCC.out
        rw [HSP.out, AT.ptL_eq, List.map_append, List.map_cons] at h1
        rw [AT.ptL_eq] at h2
        have h3 : PT.cntL (List.map AT.pt (l.take i') ++ T.pt :: List.map AT.pt (l.drop (i' + 1))) = PT.cntL (List.map AT.pt (l.take i')) + (T.pt.cnt + PT.cntL (List.map AT.pt (l.drop (i' + 1)))) := cntL_app _ _
        omega
      have hcnt := cnt_eq' T
      have hrow := hown.row
      rw [hlen, cellsL_mid] at hrow
      have hx : (cellsL L1).length = i' * 5 := by rw [cellsL_length, hlen1]
      have hC : CellsAt wr g (i' * 5) T := by
        have h0 : (L1 ++ T :: L2)[i']'(by rw [hlen]; exact hlt) = T := by subst hlen1; simp
        rw [Nat.zero_add, h0] at hC0
        exact hC0
      clear hC0
      obtain ⟨c0, c1, c2, c3, c4⟩ := hC
      have hfr := hrow.frozenAt
      have HROW := Lib.hid hrow
      have HND := Lib.hid hnd
      have HSUB := Lib.hid hown.sub
      have HX := Lib.hid hx
      have HL1 := Lib.hid hL1
      have HL2 := Lib.hid hL2
      have HLR := Lib.hid hlr
      have HLEN := Lib.hid (And.intro hlen1 hlen)
      have HCNT := Lib.hid hcnt
      have HMEM := Lib.hid hmem
      have HBLK := Lib.hid hblk
      have hcb : c' + 4 ≤ 1099511627776 := by omega
      have HCT := Lib.hid hcT
      clear hT hsplit hmem hL1 hL2 hlen1 hlr hown hlen hblk hnd hcnt hrow hx hcT
      have e3 : ((c' : Int) + 1 + 1 + 1) = ((c' + 3 : Nat) : Int) := by omega
      have e4 : ((c' : Int) + 1 + 1 + 1 + 1) = ((c' + 4 : Nat) : Int) := by omega
      have hmt : ∀ w1, Calls Try.prog 168 #[.int .i64 ((c' : Int) + 1 + 1 + 1)] w1 fun e w' => e = .returned (.string ⟨(mtx (c' + 3)).toArray⟩) ∧ Below w1.heap.size w1 w' := by
        rw [e3]; exact fun w1 => marktext_any (c' + 3) w1 (by omega) (by omega)
      have HMT := Lib.hid hmt
      have E4 := Lib.hid e4
      clear hmt e3 e4
      go_wp2_with fail
      refine (HMT.out _).mono ?_
      rintro e w1 ⟨rfl, hb1⟩
      obtain ⟨hrow1, k3, k4, kf⟩ := mark_three HROW.out HX.out (by have := HLEN.out; omega) hb1
      have hgT : ∀ t ∈ L1 ++ T :: L2, g ∉ t.blks := fun t ht hm => HND.out.1 (by rw [← blksL_mid]; exact mem_blks ht hm)
      have hsub1 : ∀ t ∈ L1 ++ T :: L2, t.Own w1 B := fun t ht => ((((HSUB.out t ht).setg (hgT t ht)).setg (hgT t ht)).setg (hgT t ht)).blw hb1
      have ho1 : OnlyBs (((some (⟨g, 0, none⟩ : Addr)).map (·.block)).toList ++ AT.blksL l) w w1 := (((HO.out.set (by simp)).set (by simp)).set (by simp)).trans (.of_below hb1)
      have HO1 := Lib.hid ho1
      have HS1 := Lib.hid hsub1
      have HR1 := Lib.hid hrow1
      have HGT := Lib.hid hgT
      clear hb1 hrow1 hgT hsub1 ho1 c0 c1 c2 c3 c4 hfr HROW HSUB HO HOWN
      go_wp2_with fail
      rw [E4.out]
      have hT2 : ∀ t ∈ L1 ++ T :: L2, t.Own (w1.setCell ⟨g, i' * 5 + 3, none⟩ (.string ⟨(mtx (c' + 3)).toArray⟩)) B := fun t ht => (HS1.out t ht).setg (HGT.out t ht)
      have hndT : ((T.a.map (·.block)).toList ++ AT.blksL T.l).Nodup := by rw [← AT.blks_eq]; exact HND.out.2.2.1.1
      have hrow2 := (HR1.out.stored (i' * 5 + 3) (.string ⟨(mtx (c' + 3)).toArray⟩)).1
      rw [mid_set3 _ _ _ _ _ _ _ _ _ HX.out] at hrow2
      have ho2 := HO1.out.set (o := i' * 5 + 3) (u := .string ⟨(mtx (c' + 3)).toArray⟩) (g := g) (by simp)
      refine (IH.out T HMEM.out _ B (c' + 4) (hT2 T (by simp)).l' hndT (by omega) (by have := HCNT.out; have := HCT.out; omega)).mono ?_
      rintro e w3 ⟨rfl, hown3, ho3⟩
      have hdis : ∀ t, t ∈ L1 ∨ t ∈ L2 → ∀ k ∈ t.blks, k ∉ (T.a.map (·.block)).toList ++ AT.blksL T.l := by
        intro t ht k hk hk2
        rw [← AT.blks_eq] at hk2
        rcases ht with ht | ht
        · exact HND.out.2.2.2 k (mem_blks ht hk) k (by simp [hk2]) rfl
        · exact HND.out.2.2.1.2.2 k hk2 k (mem_blks ht hk) rfl
      have hgc : g ∉ (T.a.map (·.block)).toList ++ AT.blksL T.l := by rw [← AT.blks_eq]; exact HGT.out T (by simp)
      have hrow3 : w3.ownsRow B 26 5 (.slice (some ⟨g, 0, none⟩) (L1 ++ T.mark c' :: L2).length cap) (L1 ++ T.mark c' :: L2).length (cellsL (L1 ++ T.mark c' :: L2)) := by
        have h1 : (L1 ++ T.mark c' :: L2).length = l.length := by have := HLEN.out.2; simpa using this
        have h2 := own_heap hrow2 (fun k hk => ho3.block k (hrow2.lt k hk).2 (by simp [Value.ownBlock] at hk; rw [← hk]; exact hgc))
        rw [h1, cellsL_append]
        have h3 : cellsL (T.mark c' :: L2) = (T.mark c').cells ++ cellsL L2 := rfl
        rw [h3, mark_cells, ← List.append_assoc]
        have e1 : ((c' : Int) + 1) = ((c' + 1 : Nat) : Int) := by omega
        have e2 : ((c' : Int) + 1 + 1) = ((c' + 2 : Nat) : Int) := by omega
        rw [e2, e1] at h2
        exact h2
      have hnew : OwnL w3 B (some ⟨g, 0, none⟩) cap (L1 ++ T.mark c' :: L2) := by
        refine ⟨hrow3, fun t ht => ?_⟩
        simp only [List.mem_append, List.mem_cons] at ht
        rcases ht with ht | rfl | ht
        · exact (hT2 t (by simp [ht])).onlyBs ho3 (hdis t (.inl ht))
        · rw [mark_eq]; exact hown3.own
        · exact (hT2 t (by simp [ht])).onlyBs ho3 (hdis t (.inr ht))
      have htk : l.take (i' + 1) = l.take i' ++ [T] := by
        have := HSP.out
        have h1 : (l.take i').length = i' := by rw [List.length_take]; omega
        calc l.take (i' + 1) = (l.take i' ++ T :: l.drop (i' + 1)).take (i' + 1) := by rw [← this]
          _ = l.take i' ++ [T] := by rw [List.take_append, h1, List.take_of_length_le (by omega), show i' + 1 - i' = 1 by omega]; rfl
      have hcc2 : c' + 4 * T.pt.cnt = c + 4 * PT.cntL (AT.ptL (l.take (i' + 1))) := by
        rw [htk, AT.ptL_eq, List.map_append, cntL_app, HCC.out, AT.ptL_eq]
        simp only [List.map_cons, List.map_nil, PT.cntL]
        omega
      have hfin : OwnL w3 B (some ⟨g, 0, none⟩) cap (AT.markL c (l.take (i' + 1)) ++ l.drop (i' + 1)) := by
        rw [htk, markL_append, ← HL1.out, ← HL2.out, ← HCC.out]
        have : L1 ++ AT.markL c' [T] ++ L2 = L1 ++ T.mark c' :: L2 := by simp [AT.markL]
        rw [this]; exact hnew
      have ho3' := ho2.trans (ho3.mono (bs' := ((some (⟨g, 0, none⟩ : Addr)).map (·.block)).toList ++ AT.blksL l) (fun k hk => by
        rw [← AT.blks_eq] at hk
        rw [List.mem_append]
        exact .inr (mem_blks HMEM.out hk)))
      have HFIN := Lib.hid hfin
      have HO3 := Lib.hid ho3'
      have HC2 := Lib.hid hcc2
      have HE : Hid (c' + 4 + 4 * PT.cntL (AT.ptL T.l) = c' + 4 * T.pt.cnt) := Lib.hid (by have := HCNT.out; omega)
      clear hT2 hndT hrow2 ho2 hown3 ho3 hdis hgc hrow3 hnew htk hcc2 hfin ho3'
      rw [HE.out]
      go_wp2
      go_roundw
      case rel => exact ⟨i' + 1, c' + 4 * T.pt.cnt, rfl, by go_num, by omega, HC2.out, HFIN.out, HO3.out⟩
      case measure => simp [intOf]; omega
    · obtain rfl : i' = l.length := by omega
      have HE : Hid (c' = c + 4 * PT.cntL (AT.ptL l)) := Lib.hid (by rw [HCC.out, List.take_of_length_le (Nat.le_refl _)])
      have HF : Hid (OwnL wr B a cap (AT.markL c l)) := Lib.hid (by
        have := HOWN.out
        rw [List.take_of_length_le (Nat.le_refl _), List.drop_eq_nil_of_le (Nat.le_refl _), List.append_nil] at this
        exact this)
      clear hown
      go_wp2
      go_ret
      exact ⟨by rw [← HE.out]; rfl, HF.out, HO.out⟩
theorem markValS_any (T : AT) : ∀ (w : World) (B c : Nat), OwnL w B T.a T.cap T.l → ((T.a.map (·.block)).toList ++ AT.blksL T.l).Nodup → 1 ≤ c → c + 4 * PT.cntL (AT.ptL T.l) ≤ 1099511627776 → Calls Try.prog 131 #[.slice T.a T.l.length T.cap, .int .i64 (c : Nat)] w (MarkPost w B T.a T.cap T.l c) := by
  induction T using AT.ind with
  | h k n x s a cap l ih =>
    intro w B c h hnd hc hb
    refine markValS_of l ih ?_ w B c a cap h hnd hc hb
    have h1 : l.length ≤ PT.cntL (AT.ptL l) := len_le_cnt l
    have h2 : c + 4 * PT.cntL (AT.ptL l) ≤ 1099511627776 := hb
    omega
end Go.Proofs.Ytgfebmnlcihpnaa
