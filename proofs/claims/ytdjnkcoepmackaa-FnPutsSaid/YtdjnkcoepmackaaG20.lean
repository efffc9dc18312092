import Derived.Test.YtdjnkcoepmackaaRows
import Derived.Test.YtdjnkcoepmackaaG0
import Derived.WalkKit
import Derived.Lib.Hide
import Derived.Lib.ItoaNum
import Derived.Outline
import Derived.ProofKit
import Derived.Laws.BytesArg
import Derived.Test.YtdjnkcoepmackaaG7
import Derived.Deep.RegionHeld3
import Derived.Test.YtdjnkcoepmackaaG6
import Derived.StillTailTactics
/- markText of the exact laws: the letter m and the digits. -/
namespace Go.Proofs.Ytdjnkcoepmackaa
open Go.RowKit
def mtd (m : Nat) : List UInt8 := if m = 0 then [] else Lib.decDigits m
theorem mtd_zero : mtd 0 = [] := rfl
theorem mtd_step (m : Nat) (h : m ≠ 0) : mtd m = mtd (m / 10) ++ [UInt8.ofNat (48 + m % 10)] := by
  unfold mtd
  rw [if_neg h, Lib.decDigits]
  by_cases h10 : m < 10
  · rw [dif_pos h10, if_pos (by omega), show m % 10 = m by omega]; rfl
  · rw [dif_neg h10, if_neg (by omega)]
theorem mtd_len (m : Nat) : (mtd m).length ≤ m / 10 + 1 := by
  induction m using Nat.strongRecOn with
  | _ m ih =>
    by_cases h : m = 0
    · subst h; rw [mtd_zero]; exact Nat.zero_le _
    · rw [mtd_step m h, List.length_append]
      have h1 := ih (m / 10) (by omega)
      have h2 : ([UInt8.ofNat (48 + m % 10)] : List UInt8).length = 1 := rfl
      by_cases h10 : m < 10
      · rw [show m / 10 = 0 by omega] at h1 ⊢; rw [mtd_zero]; exact Nat.le_refl _
      · omega
theorem mt_cat (a b : List UInt8) : ((⟨a.toArray⟩ : ByteArray) ++ (⟨b.toArray⟩ : ByteArray)) = ⟨(a ++ b).toArray⟩ := by
  apply ByteArray.ext
  simp [ByteArray.data_append]
theorem mt_cell (W : World) (B : Nat) (c : Int) (h : W.cell? ⟨B, 0, none⟩ = some (.int .u8 c)) : ∀ i, i < 1 → W.cell? ⟨B, 0 + i, none⟩ = some (.int .u8 (([c] : List Int).getD i 0)) := by
  intro i hi
  obtain rfl : i = 0 := by omega
  simpa using h
theorem mt_conv (W : World) (B : Nat) (c : Int) (h : W.cell? ⟨B, 0, none⟩ = some (.int .u8 c)) : (convert 35 9 (.slice (some ⟨B, 0, none⟩) 1 1)).run Try.prog W = .ok (.string ⟨#[UInt8.ofNat c.toNat]⟩) W :=
  run_convert_bytes_arg W _ _ Try.underlying35 Try.underlying5 B 0 1 1 [c] rfl (mt_cell W B c h) _ Try.underlying9
theorem mt_dg (m : Nat) : (48 : UInt8) + UInt8.ofNat (m % 10) = UInt8.ofNat (48 + m % 10) := by
  have : m % 10 < 10 := Nat.mod_lt _ (by omega)
  have key : ∀ i : Fin 10, (48 : UInt8) + UInt8.ofNat i.val = UInt8.ofNat (48 + i.val) := by decide
  exact key ⟨m % 10, this⟩
/-- the mark's text -/
def mtx (n : Nat) : List UInt8 := 109 :: mtd n
theorem marktext_any (n : Nat) (w : World) (h0 : 1 ≤ n) (h1 : (n : Int) ≤ 9223372036854775807) : Calls Try.prog 124 #[.int .i64 n] w fun e w' => e = .returned (.string ⟨(mtx n).toArray⟩) ∧ Below w.heap.size w w' := by
  have hn : ¬ ((n : Int) ≤ 0) := by omega
  go_enter Try.func124, Try.ntmps124
  go_wp2
  go_loopw [0, 3] (fun x s wr => ∃ (x' : Nat) (acc : List UInt8), x = .int .i64 x' ∧ s = .string ⟨acc.toArray⟩ ∧ mtd x' ++ acc = mtd n ∧ x' ≤ n ∧ Below w.heap.size w wr) (fun x _ _ => (intOf x).toNat)
  case atStart => exact ⟨n, [], rfl, rfl, by simp, Nat.le_refl _, Below.refl _ _⟩
  case round =>
    obtain ⟨x', acc, rfl, rfl, hk, hb, hbel⟩ := hrel
    have hl1 := congrArg List.length hk
    have hl2 := mtd_len n
    rw [List.length_append] at hl1
    have hl3 : acc.length ≤ 922337203685477581 := by omega
    by_cases hz : x' = 0
    · subst hz
      have HK := Lib.hid hk
      clear hk hl1 hl2
      go_wp2
      go_ret
      have hk := HK.out
      rw [mtd_zero, List.nil_append] at hk
      exact ⟨by rw [mtx, ← hk]; exact congrArg (fun x => Ending.returned (.string x)) (mt_cat [109] acc), hbel⟩
    · have hz' : (0 : Int) < x' := by omega
      have h2 : (0 : Int) ≤ x' := by omega
      have h3 : (x' : Int) ≤ 9223372036854775807 := by omega
      have HK := Lib.hid hk
      have hcv := mt_conv
      clear hk hl1 hl2
      go_wp2
      go_roundw
      case rel => exact ⟨x' / 10, [UInt8.ofNat (48 + x' % 10)] ++ acc, by go_num, by rw [← mt_cat, ← mt_dg], by rw [← HK.out, mtd_step x' hz, List.append_assoc], by omega, hbel.alloc hbel.size _⟩
      case measure => simp [intOf]; omega
end Go.Proofs.Ytdjnkcoepmackaa
/- A tree with marks in place of its contents. -/
namespace Go.Proofs.Ytdjnkcoepmackaa
open Go.RowKit
mutual
def AT.mark : Nat → AT → AT
  | c, .mk _ _ _ _ a cap l => .mk c (c + 1 : Nat) (c + 2 : Nat) (mtx (c + 3)) a cap (AT.markL (c + 4) l)
def AT.markL : Nat → List AT → List AT
  | _, [] => []
  | c, t :: l => t.mark c :: AT.markL (c + 4 * t.pt.cnt) l
end
theorem mark_eq (c : Nat) (t : AT) : t.mark c = .mk c (c + 1 : Nat) (c + 2 : Nat) (mtx (c + 3)) t.a t.cap (AT.markL (c + 4) t.l) := by cases t; rfl
theorem markL_append (l m : List AT) (c : Nat) : AT.markL c (l ++ m) = AT.markL c l ++ AT.markL (c + 4 * PT.cntL (AT.ptL l)) m := by
  induction l generalizing c with
  | nil => simp [AT.markL, AT.ptL, PT.cntL]
  | cons t l ih =>
    simp only [List.cons_append, AT.markL, AT.ptL, PT.cntL, ih]
    rw [show c + 4 * t.pt.cnt + 4 * PT.cntL (AT.ptL l) = c + 4 * (t.pt.cnt + PT.cntL (AT.ptL l)) by omega]
@[simp] theorem markL_length (l : List AT) (c : Nat) : (AT.markL c l).length = l.length := by
  induction l generalizing c with
  | nil => rfl
  | cons t l ih => simp [AT.markL, ih]
theorem blks_mark (t : AT) : ∀ c, (t.mark c).blks = t.blks := by
  induction t using AT.ind with
  | h k n x s a cap l ih =>
    intro c
    have : ∀ c, AT.blksL (AT.markL c l) = AT.blksL l := by
      induction l with
      | nil => intro c; rfl
      | cons t l ihl =>
        intro c
        simp only [AT.markL, AT.blksL, ih t (by simp), ihl (fun u hu => ih u (by simp [hu]))]
    simp only [AT.mark, AT.blks, this]
theorem blksL_mark (l : List AT) (c : Nat) : AT.blksL (AT.markL c l) = AT.blksL l := by
  induction l generalizing c with
  | nil => rfl
  | cons t l ih => simp only [AT.markL, AT.blksL, blks_mark, ih]
/-- of the elder blocks at most those of bs turned -/
structure OnlyBs (bs : List Nat) (w w' : World) : Prop where
  os : w'.os = w.os
  tape : w'.tape = w.tape
  output : w'.output = w.output
  size : w.heap.size ≤ w'.heap.size
  block : ∀ k, k < w.heap.size → k ∉ bs → w'.heap[k]? = w.heap[k]?
theorem OnlyBs.refl (bs : List Nat) (w : World) : OnlyBs bs w w := ⟨rfl, rfl, rfl, Nat.le_refl _, fun _ _ _ => rfl⟩
theorem OnlyBs.trans {bs : List Nat} {a b c : World} (h : OnlyBs bs a b) (k : OnlyBs bs b c) : OnlyBs bs a c :=
  ⟨k.os.trans h.os, k.tape.trans h.tape, k.output.trans h.output, Nat.le_trans h.size k.size, fun i hi h1 => (k.block i (Nat.lt_of_lt_of_le hi h.size) h1).trans (h.block i hi h1)⟩
theorem OnlyBs.of_below {bs : List Nat} {w w' : World} (h : Below w.heap.size w w') : OnlyBs bs w w' := ⟨h.os, h.tape, h.output, h.size, fun k hk _ => h.block k hk⟩
theorem OnlyBs.mono {bs bs' : List Nat} {w w' : World} (h : OnlyBs bs w w') (hb : ∀ k ∈ bs, k ∈ bs') : OnlyBs bs' w w' := ⟨h.os, h.tape, h.output, h.size, fun k hk hn => h.block k hk (fun hm => hn (hb k hm))⟩
theorem OnlyBs.set {bs : List Nat} {a w : World} {g o : Nat} {u : Value} (h : OnlyBs bs a w) (hg : g ∈ bs) : OnlyBs bs a (w.setCell ⟨g, o, none⟩ u) :=
  h.trans ⟨rfl, rfl, rfl, by simp [World.setCell], fun k _ hk => Below.heap_setCell _ _ _ _ (fun e => hk (by have : k = g := e; rw [this]; exact hg))⟩
theorem OnlyBs.below {bs : List Nat} {w w' : World} {N : Nat} (h : OnlyBs bs w w') (hb : ∀ k ∈ bs, N ≤ k) (hN : N ≤ w.heap.size) : Below N w w' :=
  ⟨h.os, h.tape, h.output, h.size, fun k hk => h.block k (by omega) (fun hm => by have := hb k hm; omega)⟩
theorem OnlyBs.cell {bs : List Nat} {w w' : World} (h : OnlyBs bs w w') {p : Addr} {v : Value} (hp : p.block ∉ bs) (hc : w.cell? p = some v) : w'.cell? p = some v := by
  rw [World.cell?_of_block (h.block p.block (cell_lt hc) hp)]; exact hc
theorem AT.Own.onlyBs {w w' : World} {B : Nat} {T : AT} {bs : List Nat} (h : T.Own w B) (ho : OnlyBs bs w w') (hd : ∀ k ∈ T.blks, k ∉ bs) : T.Own w' B := h.kept fun k hk => ho.block k (h.lt k hk).2 (hd k hk)
theorem set_four (xs : List Value) (v0 v1 v2 v3 v4 u0 u1 u2 u3 : Value) (ys : List Value) (p : Nat) (hx : xs.length = p) :
    ((((xs ++ [v0, v1, v2, v3, v4] ++ ys).set p u0).set (p + 1) u1).set (p + 2) u2).set (p + 3) u3 = xs ++ [u0, u1, u2, u3, v4] ++ ys := by
  subst hx
  simp [List.set_append]
theorem cellsL_mid (L1 L2 : List AT) (t : AT) : cellsL (L1 ++ t :: L2) = cellsL L1 ++ [.int .i64 t.k, .int .i64 t.n, .int .i64 t.x, .string ⟨t.s.toArray⟩, .slice t.a t.l.length t.cap] ++ cellsL L2 := by
  rw [cellsL_append, List.append_assoc]
  rfl
theorem mark_cells (c : Nat) (t : AT) : (t.mark c).cells = [.int .i64 (c : Nat), .int .i64 (c + 1 : Nat), .int .i64 (c + 2 : Nat), .string ⟨(mtx (c + 3)).toArray⟩, .slice t.a t.l.length t.cap] := by
  rw [mark_eq]; simp [AT.cells, AT.k, AT.n, AT.x, AT.s, AT.a, AT.cap, AT.l]
theorem cntL_app (l m : List PT) : PT.cntL (l ++ m) = PT.cntL l + PT.cntL m := by
  induction l with
  | nil => simp [PT.cntL]
  | cons t l ih => simp only [List.cons_append, PT.cntL, ih]; omega
theorem cnt_eq' (t : AT) : t.pt.cnt = PT.cntL (AT.ptL t.l) + 1 := by cases t; simp [AT.pt, PT.cnt, AT.l]
theorem len_le_cnt (l : List AT) : l.length ≤ PT.cntL (AT.ptL l) := by
  induction l with
  | nil => exact Nat.zero_le _
  | cons t l ih => simp only [List.length_cons, AT.ptL, PT.cntL, cnt_eq']; omega
end Go.Proofs.Ytdjnkcoepmackaa
/- markValS and markVal of the exact laws. -/
namespace Go.Proofs.Ytdjnkcoepmackaa
open Go.RowKit
theorem mid_get (X Y : List Value) (v0 v1 v2 v3 v4 : Value) (p : Nat) (hx : X.length = p) : (X ++ [v0, v1, v2, v3, v4] ++ Y)[p]? = some v0 ∧ (X ++ [v0, v1, v2, v3, v4] ++ Y)[p + 1]? = some v1 ∧ (X ++ [v0, v1, v2, v3, v4] ++ Y)[p + 2]? = some v2 ∧ (X ++ [v0, v1, v2, v3, v4] ++ Y)[p + 3]? = some v3 ∧ (X ++ [v0, v1, v2, v3, v4] ++ Y)[p + 4]? = some v4 := by
  subst hx
  refine ⟨?_, ?_, ?_, ?_, ?_⟩ <;> simp [List.getElem?_append_right]
theorem mid_set (X Y : List Value) (v0 v1 v2 v3 v4 u0 u1 u2 : Value) (p : Nat) (hx : X.length = p) :
    (((X ++ [v0, v1, v2, v3, v4] ++ Y).set p u0).set (p + 1) u1).set (p + 2) u2 = X ++ [u0, u1, u2, v3, v4] ++ Y := by
  subst hx
  simp [List.set_append]
theorem mid_set3 (X Y : List Value) (v0 v1 v2 v3 v4 u3 : Value) (p : Nat) (hx : X.length = p) : (X ++ [v0, v1, v2, v3, v4] ++ Y).set (p + 3) u3 = X ++ [v0, v1, v2, u3, v4] ++ Y := by
  subst hx
  simp [List.set_append]
theorem AT.Own.setg {w : World} {B g o : Nat} {u : Value} {T : AT} (h : T.Own w B) (hg : g ∉ T.blks) : T.Own (w.setCell ⟨g, o, none⟩ u) B := h.only ((Only.refl g w).setCell o u) hg
/-- the first three marks of an element, and what a call behind them leaves -/
theorem mark_three {wr w1 : World} {B g n cap p : Nat} {X Y : List Value} {v0 v1 v2 v3 v4 u0 u1 u2 : Value} (hrow : wr.ownsRow B 28 5 (.slice (some ⟨g, 0, none⟩) n cap) n (X ++ [v0, v1, v2, v3, v4] ++ Y)) (hx : X.length = p) (hp : p + 5 ≤ n * 5)
    (hb : Below (((wr.setCell ⟨g, p, none⟩ u0).setCell ⟨g, p + 1, none⟩ u1).setCell ⟨g, p + 2, none⟩ u2).heap.size (((wr.setCell ⟨g, p, none⟩ u0).setCell ⟨g, p + 1, none⟩ u1).setCell ⟨g, p + 2, none⟩ u2) w1) :
    w1.ownsRow B 28 5 (.slice (some ⟨g, 0, none⟩) n cap) n (X ++ [u0, u1, u2, v3, v4] ++ Y) ∧ w1.cell? ⟨g, p + 3, none⟩ = some v3 ∧ w1.cell? ⟨g, p + 4, none⟩ = some v4 ∧ (∀ o, w1.frozen? ⟨g, o, none⟩ = false) := by
  have h3 := ((((hrow.stored p u0).1.stored (p + 1) u1).1).stored (p + 2) u2).1
  rw [mid_set _ _ _ _ _ _ _ _ _ _ _ hx] at h3
  have h4 := own_heap h3 (fun k hk => hb.block k (h3.lt k hk).2)
  have hm := mid_get X Y u0 u1 u2 v3 v4 p hx
  exact ⟨h4, (h4.cellAt _ (by omega)).trans hm.2.2.2.1, (h4.cellAt _ (by omega)).trans hm.2.2.2.2, h4.frozenAt⟩
def MarkPost (w : World) (B : Nat) (a : Option Addr) (cap : Nat) (l : List AT) (c : Nat) (e : Ending) (w' : World) : Prop :=
  e = .returned (.int .i64 (c + 4 * PT.cntL (AT.ptL l) : Nat)) ∧ OwnL w' B a cap (AT.markL c l) ∧ OnlyBs ((a.map (·.block)).toList ++ AT.blksL l) w w'
theorem blksL_mid (L1 L2 : List AT) (t : AT) : AT.blksL (L1 ++ t :: L2) = AT.blksL L1 ++ (t.blks ++ AT.blksL L2) := by rw [AT.blksL_append]; rfl
theorem mem_blks {l : List AT} {t : AT} (ht : t ∈ l) {k : Nat} (hk : k ∈ t.blks) : k ∈ AT.blksL l := AT.mem_blksL.2 ⟨t, ht, hk⟩
set_option maxHeartbeats 1000000 in
theorem markValS_of (l : List AT) (ih : ∀ t ∈ l, ∀ (w : World) (B c : Nat), OwnL w B t.a t.cap t.l → ((t.a.map (·.block)).toList ++ AT.blksL t.l).Nodup → 1 ≤ c → c + 4 * PT.cntL (AT.ptL t.l) ≤ 1099511627776 → Calls Try.prog 78 #[.slice t.a t.l.length t.cap, .int .i64 (c : Nat)] w (MarkPost w B t.a t.cap t.l c))
    (hl : l.length ≤ 1099511627776) (w : World) (B c : Nat) (a : Option Addr) (cap : Nat) (h : OwnL w B a cap l) (hnd : ((a.map (·.block)).toList ++ AT.blksL l).Nodup) (hc : 1 ≤ c) (hb : c + 4 * PT.cntL (AT.ptL l) ≤ 1099511627776) :
    Calls Try.prog 78 #[.slice a l.length cap, .int .i64 (c : Nat)] w (MarkPost w B a cap l c) := by
  have H := Lib.hid h
  have IH := Lib.hid ih
  have ND := Lib.hid hnd
  have HBD := Lib.hid hb
  clear h ih hnd hb
  go_enter Try.func78, Try.ntmps78
  go_wp2
  go_loopw [1, 5] (fun k i wr => ∃ i' c' : Nat, k = .int .i64 c' ∧ i = .int .i64 i' ∧ i' ≤ l.length ∧ c' = c + 4 * PT.cntL (AT.ptL (l.take i')) ∧ OwnL wr B a cap (AT.markL c (l.take i') ++ l.drop i') ∧ OnlyBs ((a.map (·.block)).toList ++ AT.blksL l) w wr) (fun _ i _ => l.length - (intOf i).toNat)
  case atStart => exact ⟨0, c, rfl, rfl, Nat.zero_le _, by simp [AT.ptL, PT.cntL], by simpa [AT.markL] using H.out, OnlyBs.refl _ _⟩
  case round =>
    obtain ⟨i', c', rfl, rfl, hi', hcc, hown, ho⟩ := hrel
    have HO := Lib.hid ho
    have HCC := Lib.hid hcc
    have HOWN := Lib.hid hown
    clear ho hcc
    by_cases hlt : i' < l.length
    · obtain ⟨T, hT⟩ : ∃ T, T = l[i'] := ⟨_, rfl⟩
      have hsplit : l = l.take i' ++ T :: l.drop (i' + 1) := by rw [hT, List.getElem_cons_drop hlt, List.take_append_drop]
      have HSP := Lib.hid hsplit
      have hmem : T ∈ l := by rw [hT]; exact List.getElem_mem hlt
      obtain ⟨L1, hL1⟩ : ∃ L1, L1 = AT.markL c (l.take i') := ⟨_, rfl⟩
      obtain ⟨L2, hL2⟩ : ∃ L2, L2 = l.drop (i' + 1) := ⟨_, rfl⟩
      have hlen1 : L1.length = i' := by rw [hL1, markL_length, List.length_take]; omega
      have hlr : AT.markL c (l.take i') ++ l.drop i' = L1 ++ T :: L2 := by rw [hL1, hL2, hT, List.getElem_cons_drop hlt]
      rw [hlr] at hown
      have hlen : (L1 ++ T :: L2).length = l.length := by rw [← hlr]; simp; omega
      obtain ⟨g, hag, hBg, hgl, hC0⟩ := own_cellL hown.row i' (by rw [hlen]; exact hlt)
      subst hag
      have hblk : AT.blksL (L1 ++ T :: L2) = AT.blksL l := by rw [← hlr, AT.blksL_append, blksL_mark, ← AT.blksL_append, List.take_append_drop]
      have hnd : (g :: AT.blksL (L1 ++ T :: L2)).Nodup := by rw [hblk]; exact ND.out
      rw [blksL_mid, List.nodup_cons, List.nodup_append, List.nodup_append] at hnd
      have hcT : c' + 4 * T.pt.cnt ≤ 1099511627776 := by
        have h1 := HBD.out
        have h2 := HCC.out
        rw [HSP.out, AT.ptL_eq, List.map_append, List.map_cons] at h1
        rw [AT.ptL_eq] at h2
        have h3 : PT.cntL (List.map AT.pt (l.take i') ++ T.pt :: List.map AT.pt (l.drop (i' + 1))) = PT.cntL (List.map AT.pt (l.take i')) + (T.pt.cnt + PT.cntL (List.map AT.pt (l.drop (i' + 1)))) := cntL_app _ _
        omega
      have hcnt := cnt_eq' T
      have hrow := hown.row
      rw [hlen, cellsL_mid] at hrow
      have hx : (cellsL L1).length = i' * 5 := by rw [cellsL_length, hlen1]
      have hC : CellsAt wr g (i' * 5) T := by
        have h0 : (L1 ++ T :: L2)[i']'(by rw [hlen]; exact hlt) = T := by subst hlen1; simp
        rw [Nat.zero_add, h0] at hC0
        exact hC0
      clear hC0
      obtain ⟨c0, c1, c2, c3, c4⟩ := hC
      have hfr := hrow.frozenAt
      have HROW := Lib.hid hrow
      have HND := Lib.hid hnd
      have HSUB := Lib.hid hown.sub
      have HX := Lib.hid hx
      have HL1 := Lib.hid hL1
      have HL2 := Lib.hid hL2
      have HLR := Lib.hid hlr
      have HLEN := Lib.hid (And.intro hlen1 hlen)
      have HCNT := Lib.hid hcnt
      have HMEM := Lib.hid hmem
      have HBLK := Lib.hid hblk
      have hcb : c' + 4 ≤ 1099511627776 := by omega
      have HCT := Lib.hid hcT
      clear hT hsplit hmem hL1 hL2 hlen1 hlr hown hlen hblk hnd hcnt hrow hx hcT
      have e3 : ((c' : Int) + 1 + 1 + 1) = ((c' + 3 : Nat) : Int) := by omega
      have e4 : ((c' : Int) + 1 + 1 + 1 + 1) = ((c' + 4 : Nat) : Int) := by omega
      have hmt : ∀ w1, Calls Try.prog 124 #[.int .i64 ((c' : Int) + 1 + 1 + 1)] w1 fun e w' => e = .returned (.string ⟨(mtx (c' + 3)).toArray⟩) ∧ Below w1.heap.size w1 w' := by
        rw [e3]; exact fun w1 => marktext_any (c' + 3) w1 (by omega) (by omega)
      have HMT := Lib.hid hmt
      have E4 := Lib.hid e4
      clear hmt e3 e4
      go_wp2_with fail
      refine (HMT.out _).mono ?_
      rintro e w1 ⟨rfl, hb1⟩
      obtain ⟨hrow1, k3, k4, kf⟩ := mark_three HROW.out HX.out (by have := HLEN.out; omega) hb1
      have hgT : ∀ t ∈ L1 ++ T :: L2, g ∉ t.blks := fun t ht hm => HND.out.1 (by rw [← blksL_mid]; exact mem_blks ht hm)
      have hsub1 : ∀ t ∈ L1 ++ T :: L2, t.Own w1 B := fun t ht => ((((HSUB.out t ht).setg (hgT t ht)).setg (hgT t ht)).setg (hgT t ht)).blw hb1
      have ho1 : OnlyBs (((some (⟨g, 0, none⟩ : Addr)).map (·.block)).toList ++ AT.blksL l) w w1 := (((HO.out.set (by simp)).set (by simp)).set (by simp)).trans (.of_below hb1)
      have HO1 := Lib.hid ho1
      have HS1 := Lib.hid hsub1
      have HR1 := Lib.hid hrow1
      have HGT := Lib.hid hgT
      clear hb1 hrow1 hgT hsub1 ho1 c0 c1 c2 c3 c4 hfr HROW HSUB HO HOWN
      go_wp2_with fail
      rw [E4.out]
      have hT2 : ∀ t ∈ L1 ++ T :: L2, t.Own (w1.setCell ⟨g, i' * 5 + 3, none⟩ (.string ⟨(mtx (c' + 3)).toArray⟩)) B := fun t ht => (HS1.out t ht).setg (HGT.out t ht)
      have hndT : ((T.a.map (·.block)).toList ++ AT.blksL T.l).Nodup := by rw [← AT.blks_eq]; exact HND.out.2.2.1.1
      have hrow2 := (HR1.out.stored (i' * 5 + 3) (.string ⟨(mtx (c' + 3)).toArray⟩)).1
      rw [mid_set3 _ _ _ _ _ _ _ _ _ HX.out] at hrow2
      have ho2 := HO1.out.set (o := i' * 5 + 3) (u := .string ⟨(mtx (c' + 3)).toArray⟩) (g := g) (by simp)
      refine (IH.out T HMEM.out _ B (c' + 4) (hT2 T (by simp)).l' hndT (by omega) (by have := HCNT.out; have := HCT.out; omega)).mono ?_
      rintro e w3 ⟨rfl, hown3, ho3⟩
      have hdis : ∀ t, t ∈ L1 ∨ t ∈ L2 → ∀ k ∈ t.blks, k ∉ (T.a.map (·.block)).toList ++ AT.blksL T.l := by
        intro t ht k hk hk2
        rw [← AT.blks_eq] at hk2
        rcases ht with ht | ht
        · exact HND.out.2.2.2 k (mem_blks ht hk) k (by simp [hk2]) rfl
        · exact HND.out.2.2.1.2.2 k hk2 k (mem_blks ht hk) rfl
      have hgc : g ∉ (T.a.map (·.block)).toList ++ AT.blksL T.l := by rw [← AT.blks_eq]; exact HGT.out T (by simp)
      have hrow3 : w3.ownsRow B 28 5 (.slice (some ⟨g, 0, none⟩) (L1 ++ T.mark c' :: L2).length cap) (L1 ++ T.mark c' :: L2).length (cellsL (L1 ++ T.mark c' :: L2)) := by
        have h1 : (L1 ++ T.mark c' :: L2).length = l.length := by have := HLEN.out.2; simpa using this
        have h2 := own_heap hrow2 (fun k hk => ho3.block k (hrow2.lt k hk).2 (by simp [Value.ownBlock] at hk; rw [← hk]; exact hgc))
        rw [h1, cellsL_append]
        have h3 : cellsL (T.mark c' :: L2) = (T.mark c').cells ++ cellsL L2 := rfl
        rw [h3, mark_cells, ← List.append_assoc]
        have e1 : ((c' : Int) + 1) = ((c' + 1 : Nat) : Int) := by omega
        have e2 : ((c' : Int) + 1 + 1) = ((c' + 2 : Nat) : Int) := by omega
        rw [e2, e1] at h2
        exact h2
      have hnew : OwnL w3 B (some ⟨g, 0, none⟩) cap (L1 ++ T.mark c' :: L2) := by
        refine ⟨hrow3, fun t ht => ?_⟩
        simp only [List.mem_append, List.mem_cons] at ht
        rcases ht with ht | rfl | ht
        · exact (hT2 t (by simp [ht])).onlyBs ho3 (hdis t (.inl ht))
        · rw [mark_eq]; exact hown3.own
        · exact (hT2 t (by simp [ht])).onlyBs ho3 (hdis t (.inr ht))
      have htk : l.take (i' + 1) = l.take i' ++ [T] := by
        have := HSP.out
        have h1 : (l.take i').length = i' := by rw [List.length_take]; omega
        calc l.take (i' + 1) = (l.take i' ++ T :: l.drop (i' + 1)).take (i' + 1) := by rw [← this]
          _ = l.take i' ++ [T] := by rw [List.take_append, h1, List.take_of_length_le (by omega), show i' + 1 - i' = 1 by omega]; rfl
      have hcc2 : c' + 4 * T.pt.cnt = c + 4 * PT.cntL (AT.ptL (l.take (i' + 1))) := by
        rw [htk, AT.ptL_eq, List.map_append, cntL_app, HCC.out, AT.ptL_eq]
        simp only [List.map_cons, List.map_nil, PT.cntL]
        omega
      have hfin : OwnL w3 B (some ⟨g, 0, none⟩) cap (AT.markL c (l.take (i' + 1)) ++ l.drop (i' + 1)) := by
        rw [htk, markL_append, ← HL1.out, ← HL2.out, ← HCC.out]
        have : L1 ++ AT.markL c' [T] ++ L2 = L1 ++ T.mark c' :: L2 := by simp [AT.markL]
        rw [this]; exact hnew
      have ho3' := ho2.trans (ho3.mono (bs' := ((some (⟨g, 0, none⟩ : Addr)).map (·.block)).toList ++ AT.blksL l) (fun k hk => by
        rw [← AT.blks_eq] at hk
        rw [List.mem_append]
        exact .inr (mem_blks HMEM.out hk)))
      have HFIN := Lib.hid hfin
      have HO3 := Lib.hid ho3'
      have HC2 := Lib.hid hcc2
      have HE : Hid (c' + 4 + 4 * PT.cntL (AT.ptL T.l) = c' + 4 * T.pt.cnt) := Lib.hid (by have := HCNT.out; omega)
      clear hT2 hndT hrow2 ho2 hown3 ho3 hdis hgc hrow3 hnew htk hcc2 hfin ho3'
      rw [HE.out]
      go_wp2
      go_roundw
      case rel => exact ⟨i' + 1, c' + 4 * T.pt.cnt, rfl, by go_num, by omega, HC2.out, HFIN.out, HO3.out⟩
      case measure => simp [intOf]; omega
    · obtain rfl : i' = l.length := by omega
      have HE : Hid (c' = c + 4 * PT.cntL (AT.ptL l)) := Lib.hid (by rw [HCC.out, List.take_of_length_le (Nat.le_refl _)])
      have HF : Hid (OwnL wr B a cap (AT.markL c l)) := Lib.hid (by
        have := HOWN.out
        rw [List.take_of_length_le (Nat.le_refl _), List.drop_eq_nil_of_le (Nat.le_refl _), List.append_nil] at this
        exact this)
      clear hown
      go_wp2
      go_ret
      exact ⟨by rw [← HE.out]; rfl, HF.out, HO.out⟩
theorem markValS_any (T : AT) : ∀ (w : World) (B c : Nat), OwnL w B T.a T.cap T.l → ((T.a.map (·.block)).toList ++ AT.blksL T.l).Nodup → 1 ≤ c → c + 4 * PT.cntL (AT.ptL T.l) ≤ 1099511627776 → Calls Try.prog 78 #[.slice T.a T.l.length T.cap, .int .i64 (c : Nat)] w (MarkPost w B T.a T.cap T.l c) := by
  induction T using AT.ind with
  | h k n x s a cap l ih =>
    intro w B c h hnd hc hb
    refine markValS_of l ih ?_ w B c a cap h hnd hc hb
    have h1 : l.length ≤ PT.cntL (AT.ptL l) := len_le_cnt l
    have h2 : c + 4 * PT.cntL (AT.ptL l) ≤ 1099511627776 := hb
    omega
end Go.Proofs.Ytdjnkcoepmackaa
/- markVal, heldValS and heldVal of the exact laws. -/
namespace Go.Proofs.Ytdjnkcoepmackaa
open Go.RowKit
theorem heldVal_cell {w : World} {b p c : Nat} {T : AT} (h : CellsAt w b p (T.mark c)) : w.cell? ⟨b, p, none⟩ = some (.int .i64 c) ∧ w.cell? ⟨b, p + 1, none⟩ = some (.int .i64 ((c : Int) + 1)) ∧ w.cell? ⟨b, p + 2, none⟩ = some (.int .i64 ((c : Int) + 1 + 1)) ∧ w.cell? ⟨b, p + 3, none⟩ = some (.string ⟨(mtx (c + 3)).toArray⟩) ∧ w.cell? ⟨b, p + 4, none⟩ = some (.slice T.a T.l.length T.cap) := by
  obtain ⟨c0, c1, c2, c3, c4⟩ := h
  rw [mark_eq] at c0 c1 c2 c3 c4
  have e2 : ((c : Int) + 1 + 1) = ((c + 2 : Nat) : Int) := by omega
  rw [e2]
  refine ⟨c0, c1, c2, c3, ?_⟩
  rw [c4]
  simp [AT.a, AT.l, AT.cap]
set_option maxHeartbeats 1000000 in
theorem heldValS_of (l : List AT) (ih : ∀ t ∈ l, ∀ (w : World) (N c : Nat), Lv w N t.a t.cap (AT.markL c t.l) → N ≤ w.heap.size → 1 ≤ c → c + 4 * PT.cntL (AT.ptL t.l) ≤ 1099511627776 → Calls Try.prog 79 #[.slice t.a t.l.length t.cap, .int .i64 (c : Nat)] w fun e w' => e = .returned (.int .i64 (c + 4 * PT.cntL (AT.ptL t.l) : Nat)) ∧ Below w.heap.size w w')
    (hl : l.length ≤ 1099511627776) (w : World) (N c : Nat) (a : Option Addr) (cap : Nat) (h : Lv w N a cap (AT.markL c l)) (hN : N ≤ w.heap.size) (hc : 1 ≤ c) (hb : c + 4 * PT.cntL (AT.ptL l) ≤ 1099511627776) :
    Calls Try.prog 79 #[.slice a l.length cap, .int .i64 (c : Nat)] w fun e w' => e = .returned (.int .i64 (c + 4 * PT.cntL (AT.ptL l) : Nat)) ∧ Below w.heap.size w w' := by
  have H := Lib.hid h
  have IH := Lib.hid ih
  have HBD := Lib.hid hb
  clear h ih hb
  go_enter Try.func79, Try.ntmps79
  go_wp2
  go_loopw [1, 5] (fun k i wr => ∃ i' c' : Nat, k = .int .i64 c' ∧ i = .int .i64 i' ∧ i' ≤ l.length ∧ c' = c + 4 * PT.cntL (AT.ptL (l.take i')) ∧ Below w.heap.size w wr) (fun _ i _ => l.length - (intOf i).toNat)
  case atStart => exact ⟨0, c, rfl, rfl, Nat.zero_le _, by simp [AT.ptL, PT.cntL], Below.refl _ _⟩
  case round =>
    obtain ⟨i', c', rfl, rfl, hi', hcc, hbw⟩ := hrel
    have HCC := Lib.hid hcc
    have HB := Lib.hid hbw
    clear hcc
    by_cases hlt : i' < l.length
    · obtain ⟨T, hT⟩ : ∃ T, T = l[i'] := ⟨_, rfl⟩
      have hsplit : l = l.take i' ++ T :: l.drop (i' + 1) := by rw [hT, List.getElem_cons_drop hlt, List.take_append_drop]
      have hmem : T ∈ l := by rw [hT]; exact List.getElem_mem hlt
      have hml : AT.markL c l = AT.markL c (l.take i') ++ T.mark c' :: AT.markL (c' + 4 * T.pt.cnt) (l.drop (i' + 1)) := by
        conv => lhs; rw [hsplit]
        rw [markL_append, ← HCC.out]
        rfl
      have hlen1 : (AT.markL c (l.take i')).length = i' := by rw [markL_length, List.length_take]; omega
      have hlt2 : i' < (AT.markL c l).length := by rw [markL_length]; exact hlt
      have hget : (AT.markL c l)[i'] = T.mark c' := by
        have : (AT.markL c l)[i']? = some (T.mark c') := by rw [hml, List.getElem?_append_right (by omega), hlen1]; simp
        rw [List.getElem?_eq_getElem hlt2] at this
        injection this
      obtain ⟨b, o, hab, hbN, hC⟩ := H.out.cell i' hlt2
      rw [hget] at hC
      obtain rfl := hab
      obtain ⟨c0, c1, c2, c3, c4⟩ := heldVal_cell (hC.keep (hbw.block b (by omega)))
      have hsubT : (T.mark c').In w N := by rw [← hget]; exact H.out.sub _ (List.getElem_mem _)
      have hlvT : ∀ w1, Below w.heap.size w w1 → Lv w1 N T.a T.cap (AT.markL (c' + 4) T.l) := fun w1 hb1 => by
        have := hsubT
        rw [mark_eq] at this
        exact this.lv.below hb1 hN
      have hcT : c' + 4 * T.pt.cnt ≤ 1099511627776 := by
        have h1 := HBD.out
        have h2 := HCC.out
        rw [hsplit, AT.ptL_eq, List.map_append, List.map_cons] at h1
        rw [AT.ptL_eq] at h2
        have h3 : PT.cntL (List.map AT.pt (l.take i') ++ T.pt :: List.map AT.pt (l.drop (i' + 1))) = PT.cntL (List.map AT.pt (l.take i')) + (T.pt.cnt + PT.cntL (List.map AT.pt (l.drop (i' + 1)))) := cntL_app _ _
        omega
      have hcnt := cnt_eq' T
      have htk : l.take (i' + 1) = l.take i' ++ [T] := by rw [List.take_succ_eq_append_getElem hlt, hT]
      have hcc2 : c' + 4 * T.pt.cnt = c + 4 * PT.cntL (AT.ptL (l.take (i' + 1))) := by
        rw [htk, AT.ptL_eq, List.map_append, cntL_app, HCC.out, AT.ptL_eq]
        simp only [List.map_cons, List.map_nil, PT.cntL]
        omega
      have e3 : ((c' : Int) + 1 + 1 + 1) = ((c' + 3 : Nat) : Int) := by omega
      have e4 : ((c' : Int) + 1 + 1 + 1 + 1) = ((c' + 4 : Nat) : Int) := by omega
      have hmt : ∀ w1, Calls Try.prog 124 #[.int .i64 ((c' : Int) + 1 + 1 + 1)] w1 fun e w' => e = .returned (.string ⟨(mtx (c' + 3)).toArray⟩) ∧ Below w1.heap.size w1 w' := by
        rw [e3]; exact fun w1 => marktext_any (c' + 3) w1 (by omega) (by omega)
      have hcb : c' + 4 ≤ 1099511627776 := by omega
      have hrec := fun (w1 : World) (hb1 : Below w.heap.size w w1) => IH.out T hmem w1 N (c' + 4) (hlvT w1 hb1) (Nat.le_trans hN hb1.size) (by omega) (by omega)
      have HREC := Lib.hid hrec
      have HMT := Lib.hid hmt
      have E4 := Lib.hid e4
      have HC2 := Lib.hid hcc2
      have HE : Hid (c' + 4 + 4 * PT.cntL (AT.ptL T.l) = c' + 4 * T.pt.cnt) := Lib.hid (by omega)
      clear hT hsplit hmem hml hlen1 hget hC hsubT hlvT hcT hcnt htk hcc2 e3 e4 hmt hrec hlt2
      generalize (ByteArray.mk (mtx (c' + 3)).toArray) = MT at *
      have hi0 : (0 : Int) ≤ i' := by omega
      have hi1 : (i' : Int) < l.length := by omega
      go_wp2_with fail
      go_region_held3 (fun W' => W'.cell? ⟨b, o + i' * 5 + 3, none⟩ = some (.string MT) ∧ W'.cell? ⟨b, o + i' * 5 + 4, none⟩ = some (.slice T.a T.l.length T.cap) ∧ Below w.heap.size w W') ((refine ⟨?_, ?_, ?_⟩ <;> first | assumption | (refine Below.drew ?_; assumption) | exact keep_below (by assumption) (by assumption) | exact below_tr (by assumption) (by assumption))) ((go_at_call 124; go_split_ands; refine (HMT.out _).mono ?_; rintro e w1 ⟨rfl, hb1⟩))
      go_split_ands
      have HB1 : Hid (Below w.heap.size w w1) := Lib.hid (by assumption)
      have k4 : w1.cell? ⟨b, o + i' * 5 + 4, none⟩ = some (.slice T.a T.l.length T.cap) := by assumption
      have hneg : ¬ (((c' + 4 * T.pt.cnt : Nat) : Int) < 0) := by omega
      clear hb1 hbw c0 c1 c2 c3 c4
      go_wp2_with fail
      rw [E4.out]
      refine (HREC.out _ HB1.out).mono ?_
      rintro e w2 ⟨rfl, hb2⟩
      rw [HE.out]
      have HB2 := Lib.hid (HB1.out.trans (hb2.mono HB1.out.size))
      clear hb2
      go_wp2
      go_roundw
      case rel => exact ⟨i' + 1, c' + 4 * T.pt.cnt, rfl, by go_num, by omega, HC2.out, HB2.out⟩
      case measure => simp [intOf]; omega
    · obtain rfl : i' = l.length := by omega
      have HE : Hid (c' = c + 4 * PT.cntL (AT.ptL l)) := Lib.hid (by rw [HCC.out, List.take_of_length_le (Nat.le_refl _)])
      clear hbw
      go_wp2
      go_ret
      exact ⟨by rw [← HE.out]; rfl, HB.out⟩
theorem heldValS_any (T : AT) : ∀ (w : World) (N c : Nat), Lv w N T.a T.cap (AT.markL c T.l) → N ≤ w.heap.size → 1 ≤ c → c + 4 * PT.cntL (AT.ptL T.l) ≤ 1099511627776 → Calls Try.prog 79 #[.slice T.a T.l.length T.cap, .int .i64 (c : Nat)] w fun e w' => e = .returned (.int .i64 (c + 4 * PT.cntL (AT.ptL T.l) : Nat)) ∧ Below w.heap.size w w' := by
  induction T using AT.ind with
  | h k n x s a cap l ih =>
    intro w N c h hN hc hb
    refine heldValS_of l ih ?_ w N c a cap h hN hc hb
    have h1 : l.length ≤ PT.cntL (AT.ptL l) := len_le_cnt l
    have h2 : c + 4 * PT.cntL (AT.ptL l) ≤ 1099511627776 := hb
    omega
/-- the root's own fields lie in no memory: a mark turns the elements only -/
theorem markVal_any (T : AT) (w : World) (B c : Nat) (h : T.Own w B) (hnd : T.blks.Nodup) (hc : 1 ≤ c) (hb : c + 4 * T.pt.cnt ≤ 1099511627776) :
    Calls Try.prog 15 #[T.val, .int .i64 (c : Nat)] w fun e w' => e = .returned (.int .i64 (c + 4 * PT.cntL (AT.ptL T.l) : Nat)) ∧ OwnL w' B T.a T.cap (AT.markL c T.l) ∧ OnlyBs T.blks w w' := by
  have hcn := cnt_eq' T
  have hm := fun (w1 : World) (hb1 : Below w.heap.size w w1) => markValS_any T w1 B c (h.blw hb1).l' (by rw [← AT.blks_eq]; exact hnd) hc (by omega)
  have HM := Lib.hid hm
  have HBK := Lib.hid (AT.blks_eq T)
  clear hm hcn h hnd hb
  show Calls Try.prog 15 #[.agg #[.int .i64 T.k, .int .i64 T.n, .int .i64 T.x, .string ⟨T.s.toArray⟩, .slice T.a T.l.length T.cap], .int .i64 (c : Nat)] w _
  go_enter Try.func15, Try.ntmps15
  go_wp2_with fail
  refine (HM.out _ (vbox _ _)).mono ?_
  rintro e w1 ⟨rfl, ho, hbs⟩
  have HO := Lib.hid ho
  have HB := Lib.hid ((OnlyBs.of_below (vbox w _)).trans hbs)
  clear ho hbs
  go_wp2
  go_ret
  exact ⟨rfl, HO.out, by rw [HBK.out]; exact HB.out⟩
theorem heldVal_any (T : AT) (w : World) (N c : Nat) (h : Lv w N T.a T.cap (AT.markL c T.l)) (hN : N ≤ w.heap.size) (k n x : Int) (s : ByteArray) (hc : 1 ≤ c) (hb : c + 4 * PT.cntL (AT.ptL T.l) ≤ 1099511627776) :
    Calls Try.prog 16 #[.agg #[.int .i64 k, .int .i64 n, .int .i64 x, .string s, .slice T.a T.l.length T.cap], .int .i64 (c : Nat)] w fun e w' => e = .returned (.int .i64 (c + 4 * PT.cntL (AT.ptL T.l) : Nat)) ∧ Below w.heap.size w w' := by
  have hm := fun (w1 : World) (hb1 : Below w.heap.size w w1) => heldValS_any T w1 N c (h.below hb1 hN) (Nat.le_trans hN hb1.size) hc hb
  have HM := Lib.hid hm
  have hneg : ¬ (((c + 4 * PT.cntL (AT.ptL T.l) : Nat) : Int) < 0) := by omega
  clear hm h hb
  generalize c + 4 * PT.cntL (AT.ptL T.l) = M at *
  go_enter Try.func16, Try.ntmps16
  go_wp2_with fail
  refine (HM.out _ (vbox _ _)).mono ?_
  rintro e w1 ⟨rfl, hb1⟩
  have HB := Lib.hid ((vbox w _).trans (hb1.mono (by simp)))
  clear hb1
  go_wp2
  go_ret
  exact ⟨rfl, HB.out⟩
end Go.Proofs.Ytdjnkcoepmackaa
/- The size of a law's argument: what szVal and szValS return. -/
namespace Go.Proofs.Ytdjnkcoepmackaa
open Go.RowKit
def szR (m : Nat) (left : Nat) : Int := if m ≤ left then (left : Int) - m else -1
theorem szValS_any (l : List AT) (ih : ∀ t ∈ l, t.pt.Wf → ∀ (w : World) (N left : Nat), t.In w N → N ≤ w.heap.size → left ≤ 1048576 →
      Calls Try.prog 10 #[t.val, .int .i64 left] w fun e w' => e = .returned (.int .i64 (szR t.pt.sz left)) ∧ Below w.heap.size w w')
    (hwf : ∀ t ∈ l, t.pt.Wf) (hl : l.length ≤ 9223372036854775807) (w : World) (N left : Nat) (a : Option Addr) (cap : Nat) (h : Lv w N a cap l) (hN : N ≤ w.heap.size) (hleft : left ≤ 1048576) :
    Calls Try.prog 69 #[.slice a l.length cap, .int .i64 left] w fun e w' => e = .returned (.int .i64 (szR (l.length + PT.szL (AT.ptL l)) left)) ∧ Below w.heap.size w w' := by
  by_cases hlen : l.length ≤ left
  · have h1 : ¬ ((left : Int) - l.length < 0) := by omega
    have H := Lib.hid h
    have IH := Lib.hid ih
    have WF := Lib.hid hwf
    clear h ih hwf
    go_enter Try.func69, Try.ntmps69
    go_wp2
    go_loopw [1, 5] (fun c i wr => ∃ i' m : Nat, c = .int .i64 m ∧ i = .int .i64 i' ∧ i' ≤ l.length ∧ m + (l.length + PT.szL ((AT.ptL l).take i')) = left ∧ Below w.heap.size w wr) (fun _ i _ => l.length - (intOf i).toNat)
    case atStart => exact ⟨0, left - l.length, by congr 1; omega, rfl, Nat.zero_le _, by simp [PT.szL]; omega, Below.refl _ _⟩
    case round =>
      obtain ⟨i', m, rfl, rfl, hi', hm, hb⟩ := hrel
      have HB := Lib.hid hb
      have HM := Lib.hid hm
      have hm2 : m ≤ 1048576 := by omega
      by_cases hlt : i' < l.length
      · obtain ⟨b, o, rfl, hbN, hC⟩ := H.out.cell i' hlt
        have hC := hC.keep (hb.block b (by omega))
        have hc := fun w' hw hs => IH.out l[i'] (List.getElem_mem hlt) (WF.out _ (List.getElem_mem hlt)) w' N m ((H.out.sub _ (List.getElem_mem hlt)).blw hw hN) hs hm2
        have hs1 : m < (l[i']).pt.sz → ¬ (l.length + PT.szL (AT.ptL l) ≤ left) := by
          intro h1 h2
          have e1 := szL_take (AT.ptL l) i' (by simpa using hlt)
          have e2 := szL_take_le (AT.ptL l) (i' + 1)
          have e3 : (AT.ptL l)[i']'(by simpa using hlt) = (l[i']).pt := by simp [AT.ptL_eq]
          rw [e3] at e1
          have := HM.out
          omega
        have hs2 : (l[i']).pt.sz ≤ m → m - (l[i']).pt.sz + (l.length + PT.szL ((AT.ptL l).take (i' + 1))) = left := by
          intro h1
          have e1 := szL_take (AT.ptL l) i' (by simpa using hlt)
          have e3 : (AT.ptL l)[i']'(by simpa using hlt) = (l[i']).pt := by simp [AT.ptL_eq]
          rw [e3] at e1
          have := HM.out
          omega
        have S1 := Lib.hid hs1
        have S2 := Lib.hid hs2
        clear hs1 hs2 hm
        obtain ⟨T, hT⟩ : ∃ T, T = l[i'] := ⟨_, rfl⟩
        rw [← hT] at hC hc S1 S2
        clear hT
        obtain ⟨c0, c1, c2, c3, c4⟩ := hC
        have HC := Lib.hid hc
        clear hc
        by_cases hfit : T.pt.sz ≤ m
        · have hr : szR T.pt.sz m = ((m - T.pt.sz : Nat) : Int) := by unfold szR; rw [if_pos hfit]; omega
          have hneg : ¬ (((m - T.pt.sz : Nat) : Int) < 0) := by omega
          have HR := Lib.hid hr
          have e2 := Lib.hid (S2.out hfit)
          clear hr hfit
          generalize m - T.pt.sz = m2 at *
          go_wp2_with fail
          refine (HC.out wr hb (by have := hb.size; omega)).mono ?_
          rintro e w2 ⟨rfl, hb2⟩
          rw [HR.out]
          have HB2 := Lib.hid hb2
          clear hb hb2
          go_wp2
          go_roundw
          case rel => exact ⟨i' + 1, m2, rfl, by go_num, by omega, e2.out, HB.out.trans (HB2.out.mono HB.out.size)⟩
          case measure => simp [intOf]; omega
        · have hr : szR T.pt.sz m = -1 := by unfold szR; rw [if_neg hfit]
          have hr2 : szR (l.length + PT.szL (AT.ptL l)) left = -1 := by unfold szR; rw [if_neg (S1.out (by omega))]
          have HR := Lib.hid hr
          have HR2 := Lib.hid hr2
          clear hr hr2 hfit
          go_wp2_with fail
          refine (HC.out wr hb (by have := hb.size; omega)).mono ?_
          rintro e w2 ⟨rfl, hb2⟩
          rw [HR.out]
          have HB2 := Lib.hid hb2
          clear hb hb2
          go_wp2
          go_ret
          exact ⟨ret_int HR2.out.symm, HB.out.trans (HB2.out.mono HB.out.size)⟩
      · obtain rfl : i' = l.length := by omega
        have hr2 : szR (l.length + PT.szL (AT.ptL l)) left = m := by
          have := HM.out
          rw [List.take_of_length_le (by simp)] at this
          unfold szR; rw [if_pos (by omega)]; omega
        have HR2 := Lib.hid hr2
        clear hr2 hm hb
        go_wp2
        go_ret
        exact ⟨ret_int HR2.out.symm, HB.out⟩
  · have h1 : (left : Int) - l.length < 0 := by omega
    have hr2 : szR (l.length + PT.szL (AT.ptL l)) left = -1 := by unfold szR; rw [if_neg (by omega)]
    have HR2 := Lib.hid hr2
    clear hr2
    go_enter Try.func69, Try.ntmps69
    go_wp2
    go_ret
    exact ⟨ret_int HR2.out.symm, Below.refl _ _⟩
theorem szVal_any (T : AT) : T.pt.Wf → ∀ (w : World) (N left : Nat), T.In w N → N ≤ w.heap.size → left ≤ 1048576 →
      Calls Try.prog 10 #[T.val, .int .i64 left] w fun e w' => e = .returned (.int .i64 (szR T.pt.sz left)) ∧ Below w.heap.size w w' := by
  induction T using AT.ind with
  | h k n x s a cap l ih =>
    intro hwf w N left hin hN hleft
    have hsub : ∀ t ∈ l, t.pt.Wf := fun t ht => hwf.sub' t.pt (by rw [AT.ptL_eq]; exact List.mem_map_of_mem ht)
    obtain ⟨hs, hl⟩ : s.length ≤ 9223372036854775807 ∧ l.length ≤ 9223372036854775807 := by
      cases hwf with
      | mk hk hn hx hs hl sub => exact ⟨hs, by simpa using hl⟩
    have hpt : (AT.mk k n x s a cap l).pt.sz = s.length + (l.length + PT.szL (AT.ptL l)) := by simp [AT.pt, PT.sz]
    have hc := fun w' left' (hb : Below w.heap.size w w') hl' => szValS_any l ih hsub hl w' N left' a cap (hin.lv.below hb hN) (Nat.le_trans hN hb.size) hl'
    have HC := Lib.hid hc
    have HP := Lib.hid hpt
    have hsz := size_b s
    have hszz : ((ByteArray.mk s.toArray).size : Int) = s.length := by rw [hsz]
    clear hc hpt ih hwf hin hsub
    show Calls Try.prog 10 #[.agg #[.int .i64 k, .int .i64 n, .int .i64 x, .string ⟨s.toArray⟩, .slice a l.length cap], .int .i64 left] w _
    generalize (ByteArray.mk s.toArray) = S at *
    by_cases hfit : s.length ≤ left
    · have h1 : ¬ ((left : Int) - s.length < 0) := by omega
      have e1 : (left : Int) - s.length = ((left - s.length : Nat) : Int) := by omega
      have E1 := Lib.hid e1
      have hm : left - s.length ≤ 1048576 := by omega
      clear e1
      go_enter Try.func10, Try.ntmps10
      go_wp2_with fail
      rw [E1.out]
      refine (HC.out _ _ (vbox _ _) hm).mono ?_
      rintro e w2 ⟨rfl, hb⟩
      have HB := Lib.hid ((vbox w _).trans (hb.mono (by simp)))
      clear hb
      by_cases hfit2 : l.length + PT.szL (AT.ptL l) ≤ left - s.length
      · have hr : szR (l.length + PT.szL (AT.ptL l)) (left - s.length) = ((left - s.length - (l.length + PT.szL (AT.ptL l)) : Nat) : Int) := by unfold szR; rw [if_pos hfit2]; omega
        have hr2 : szR (s.length + (l.length + PT.szL (AT.ptL l))) left = ((left - s.length - (l.length + PT.szL (AT.ptL l)) : Nat) : Int) := by unfold szR; rw [if_pos (by omega)]; omega
        have HR2 := Lib.hid hr2
        rw [hr]
        clear hr hr2 hfit2
        have hneg : ¬ (((left - s.length - (l.length + PT.szL (AT.ptL l)) : Nat) : Int) < 0) := by omega
        generalize left - s.length - (l.length + PT.szL (AT.ptL l)) = m2 at *
        go_wp2
        go_ret
        exact ⟨ret_int (by rw [HP.out, HR2.out]), HB.out⟩
      · have hr : szR (l.length + PT.szL (AT.ptL l)) (left - s.length) = -1 := by unfold szR; rw [if_neg hfit2]
        have hr2 : szR (s.length + (l.length + PT.szL (AT.ptL l))) left = -1 := by unfold szR; rw [if_neg (by omega)]
        have HR2 := Lib.hid hr2
        rw [hr]
        clear hr hr2 hfit2
        go_wp2
        go_ret
        exact ⟨ret_int (by rw [HP.out, HR2.out]), HB.out⟩
    · have h1 : (left : Int) - s.length < 0 := by omega
      have hr2 : szR (s.length + (l.length + PT.szL (AT.ptL l))) left = -1 := by unfold szR; rw [if_neg (by omega)]
      have HR2 := Lib.hid hr2
      clear hr2
      go_enter Try.func10, Try.ntmps10
      go_wp2
      go_ret
      exact ⟨ret_int (by rw [HP.out, HR2.out]), vbox _ _⟩
end Go.Proofs.Ytdjnkcoepmackaa
/- eqVal of the exact laws: true for two trees that read the same. -/
namespace Go.Proofs.Ytdjnkcoepmackaa
open Go.RowKit
theorem two (w : World) (a b : Obj) : Below w.heap.size w ((w.alloc a).alloc b) := ((Below.refl w.heap.size w).alloc (Nat.le_refl _) a).alloc (by simp) b
set_option maxRecDepth 100000 in
theorem eqValS_of (l : List AT) (ih : ∀ t ∈ l, ∀ (U : AT) (w : World) (N : Nat), t.pt = U.pt → t.In w N → U.In w N → N ≤ w.heap.size → Calls Try.prog 14 #[t.val, U.val] w fun e w' => e = .returned (.bool true) ∧ Below w.heap.size w w')
    (m : List AT) (hp : AT.ptL l = AT.ptL m) (hl : l.length ≤ 9223372036854775807) (w : World) (N : Nat) (a b : Option Addr) (cap cap2 : Nat) (h : Lv w N a cap l) (h2 : Lv w N b cap2 m) (hN : N ≤ w.heap.size) :
    Calls Try.prog 77 #[.slice a l.length cap, .slice b m.length cap2] w fun e w' => e = .returned (.bool true) ∧ Below w.heap.size w w' := by
  have hlen : m.length = l.length := by have := congrArg List.length hp; simpa using this.symm
  rw [hlen]
  have H := Lib.hid h
  have H2 := Lib.hid h2
  have IH := Lib.hid ih
  have HP := Lib.hid hp
  have HL := Lib.hid hlen
  clear h h2 ih hp hlen
  go_enter Try.func77, Try.ntmps77
  go_wp2
  go_loopw [5] (fun i wr => ∃ i' : Nat, i = .int .i64 i' ∧ i' ≤ l.length ∧ Below w.heap.size w wr) (fun i _ => l.length - (intOf i).toNat)
  case atStart => exact ⟨0, rfl, Nat.zero_le _, Below.refl _ _⟩
  case round =>
    obtain ⟨i', rfl, hi', hb⟩ := hrel
    have HB := Lib.hid hb
    by_cases hlt : i' < l.length
    · obtain ⟨g, o, rfl, hgN, hC⟩ := H.out.cell i' hlt
      obtain ⟨g2, o2, rfl, hgN2, hC2⟩ := H2.out.cell i' (by rw [HL.out]; exact hlt)
      have hC := hC.keep (hb.block g (by omega))
      have hC2 := hC2.keep (hb.block g2 (by omega))
      have hc := fun (w1 : World) (hb1 : Below wr.heap.size wr w1) => IH.out l[i'] (List.getElem_mem hlt) (m[i']'(by rw [HL.out]; exact hlt)) w1 N (by
        have := HP.out
        have e1 : (AT.ptL l)[i']? = (AT.ptL m)[i']? := by rw [this]
        simpa [AT.ptL_eq, List.getElem?_eq_getElem hlt, List.getElem?_eq_getElem (show i' < m.length by rw [HL.out]; exact hlt)] using e1) (((H.out.sub _ (List.getElem_mem hlt)).blw hb hN).blw hb1 (Nat.le_trans hN hb.size)) (((H2.out.sub _ (List.getElem_mem _)).blw hb hN).blw hb1 (Nat.le_trans hN hb.size)) (by have := hb.size; have := hb1.size; omega)
      obtain ⟨T, hT⟩ : ∃ T, T = l[i'] := ⟨_, rfl⟩
      obtain ⟨U, hU⟩ : ∃ U, U = m[i']'(by rw [HL.out]; exact hlt) := ⟨_, rfl⟩
      rw [← hT] at hC hc
      rw [← hU] at hC2 hc
      clear hT hU
      obtain ⟨c0, c1, c2, c3, c4⟩ := hC
      obtain ⟨d0, d1, d2, d3, d4⟩ := hC2
      have HC := Lib.hid hc
      clear hc hb
      go_wp2_with fail
      go_still_tail 8, (by kernel_rfl)
      go_wp2_with fail
      refine (HC.out _ ((Below.refl _ _).drew)).mono ?_
      rintro e w2 ⟨rfl, hb2⟩
      go_wp2
      go_roundw
      case rel => exact ⟨i' + 1, by go_num, by omega, HB.out.trans (((Below.refl wr.heap.size wr).drew).trans hb2 |>.mono HB.out.size)⟩
      case measure => simp [intOf]; omega
    · go_wp2
      go_ret
      exact ⟨rfl, HB.out⟩
theorem eqVal_any (T : AT) : T.pt.Wf → ∀ (U : AT) (w : World) (N : Nat), T.pt = U.pt → T.In w N → U.In w N → N ≤ w.heap.size → Calls Try.prog 14 #[T.val, U.val] w fun e w' => e = .returned (.bool true) ∧ Below w.heap.size w w' := by
  induction T using AT.ind with
  | h k n x s a cap l ih =>
    intro hwf U w N hp hin hin2 hN
    have hsub : ∀ t ∈ l, t.pt.Wf := fun t ht => hwf.sub' t.pt (by rw [AT.ptL_eq]; exact List.mem_map_of_mem ht)
    obtain ⟨hs, hl⟩ : s.length ≤ 9223372036854775807 ∧ l.length ≤ 9223372036854775807 := by
      cases hwf with
      | mk hk hn hx hs hl sub => exact ⟨hs, by rw [AT.ptL_length] at hl; exact hl⟩
    obtain ⟨k2, n2, x2, s2, b, cap2, m⟩ := U
    simp only [AT.pt, PT.mk.injEq] at hp
    obtain ⟨rfl, rfl, rfl, rfl, hp⟩ := hp
    have hc := fun (w1 : World) (hb1 : Below w.heap.size w w1) => eqValS_of l (fun t ht => ih t ht (hsub t ht)) m hp hl w1 N a b cap cap2 (hin.lv.below hb1 hN) (hin2.lv.below hb1 hN) (Nat.le_trans hN hb1.size)
    have HC := Lib.hid hc
    clear hc ih hsub hwf hin hin2 hp
    show Calls Try.prog 14 #[.agg #[.int .i64 k, .int .i64 n, .int .i64 x, .string ⟨s.toArray⟩, .slice a l.length cap], .agg #[.int .i64 k, .int .i64 n, .int .i64 x, .string ⟨s.toArray⟩, .slice b m.length cap2]] w _
    have hb0 := two w (.cells #[.int .i64 k, .int .i64 n, .int .i64 x, .string ⟨s.toArray⟩, .slice a l.length cap] 28) (.cells #[.int .i64 k, .int .i64 n, .int .i64 x, .string ⟨s.toArray⟩, .slice b m.length cap2] 28)
    have HB0 := Lib.hid hb0
    clear hb0
    go_enter Try.func14, Try.ntmps14
    go_wp2_with fail
    refine (HC.out _ HB0.out).mono ?_
    rintro e w2 ⟨rfl, hb⟩
    have HB := Lib.hid hb
    clear hb
    go_wp2
    go_ret
    exact ⟨rfl, HB0.out.trans (HB.out.mono (by simp; omega))⟩
end Go.Proofs.Ytdjnkcoepmackaa
