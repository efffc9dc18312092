import Derived.Test.YtilgncebhgplaaaDoorRows
import Derived.Test.YtilgncebhgplaaaDoorG0
import Derived.WalkKit
import Derived.Lib.Hide
import Derived.Outline
import Derived.ProofKit
import Derived.Lib.ItoaNum
import Derived.Laws.BytesArg
import Derived.Test.YtilgncebhgplaaaDoorG1
import Derived.Test.YtilgncebhgplaaaDoorG6
import Derived.Deep.RegionHeld3
/- A fact on lists: one more element of a copy. -/
namespace Go.Proofs.YtilgncebhgplaaaDoor
theorem fill_set {α : Type} (xs z : List α) (k : Nat) (hk : k < xs.length) (hz : xs.length = z.length) : (xs.take k ++ z.drop k).set k xs[k] = xs.take (k + 1) ++ z.drop (k + 1) := by
  have hzk : k < z.length := by omega
  rw [List.set_append]
  have h1 : (xs.take k).length = k := by simp; omega
  rw [h1, if_neg (by omega), Nat.sub_self, List.drop_eq_getElem_cons hzk, List.set_cons_zero, List.take_succ_eq_append_getElem hk, List.append_assoc]
  rfl
end Go.Proofs.YtilgncebhgplaaaDoor
/- What the exact laws' helpers on byte slices return: a copy, whether two are equal, marks written and found again. -/
namespace Go.Proofs.YtilgncebhgplaaaDoor
open Go.RowKit
theorem byteInfo : (Tryd.prog.info? 5).map (fun i => (i.zero, i.size, i.bytes)) = some (some (.int .u8 0), 1, 1) := by kernel_rfl
theorem eq_list_of {l m : List UInt8} (h : l.length = m.length) (k : ∀ j (h1 : j < l.length) (h2 : j < m.length), l[j] = m[j]) : l = m := List.ext_getElem h k
/-- the loop of an equality test of byte slices -/
theorem eqByteS_len (w : World) (v u : Value) (l m : List UInt8) (h : Reads w v (bv l)) (k : Reads w u (bv m)) (hlen : l.length ≠ m.length) :
    Calls Tryd.prog 16 #[v, u] w fun e w' => e = .returned (.bool false) ∧ Below w.heap.size w w' := by
  obtain ⟨a, cap, rfl, hc⟩ := reads_byte h
  obtain ⟨a2, cap2, rfl, hc2⟩ := reads_byte k
  clear hc hc2 h k
  have hne : ((l.length : Int) != m.length) = true := by simp; omega
  go_enter Tryd.func16, Tryd.ntmps16
  go_wp2
  go_ret
  exact ⟨rfl, Below.refl _ _⟩
theorem eqByteS_any (w : World) (v u : Value) (l m : List UInt8) (h : Reads w v (bv l)) (k : Reads w u (bv m)) (hl : l.length ≤ 1099511627776) :
    Calls Tryd.prog 16 #[v, u] w fun e w' => e = .returned (.bool (decide (l = m))) ∧ Below w.heap.size w w' := by
  by_cases hlen : l.length = m.length
  · have hle := hlen
    obtain ⟨a, cap, rfl, hc⟩ := reads_byte h
    obtain ⟨a2, cap2, rfl, hc2⟩ := reads_byte k
    have HC := Lib.hid hc
    have HC2 := Lib.hid hc2
    have HL := Lib.hid hlen
    clear hc hc2 h k
    have hne : ((l.length : Int) != m.length) = false := by simp; omega
    rw [← hlen] at hne ⊢
    clear hlen
    go_enter Tryd.func16, Tryd.ntmps16
    go_wp2
    go_loopw [5] (fun i wr => ∃ i' : Nat, i = .int .i64 i' ∧ i' ≤ l.length ∧ l.take i' = m.take i' ∧ Below w.heap.size w wr) (fun i _ => l.length - (intOf i).toNat)
    case atStart => exact ⟨0, rfl, Nat.zero_le _, rfl, Below.refl _ _⟩
    case round =>
      obtain ⟨i', rfl, hi', heq, hb⟩ := hrel
      have HB := Lib.hid hb
      have HE := Lib.hid heq
      clear heq
      by_cases hlt : i' < l.length
      · have hlt2 : i' < m.length := by omega
        obtain ⟨b, o, rfl, hcl⟩ := HC.out i' hlt
        obtain ⟨b2, o2, rfl, hcl2⟩ := HC2.out i' hlt2
        have hcl' : wr.cell? ⟨b, o + i', none⟩ = some (.int .u8 (l[i']).toNat) := by rw [hb.cell (p := ⟨b, o + i', none⟩) (cell_lt hcl)]; exact hcl
        have hcl2' : wr.cell? ⟨b2, o2 + i', none⟩ = some (.int .u8 (m[i']).toNat) := by rw [hb.cell (p := ⟨b2, o2 + i', none⟩) (cell_lt hcl2)]; exact hcl2
        clear hb hcl hcl2
        by_cases hx : l[i'] = m[i']
        · have hxx : (((l[i'].toNat : Nat) : Int) != (m[i'].toNat : Nat)) = false := by rw [hx]; simp
          go_wp2
          all_goals go_quiet (fail)
          all_goals go_wp2
          go_roundw
          case rel => exact ⟨i' + 1, by go_num, by omega, by rw [List.take_succ_eq_append_getElem hlt, List.take_succ_eq_append_getElem hlt2, HE.out, hx], below_drewN HB.out _⟩
          case measure => simp [intOf]; omega
        · have hxx : (((l[i'].toNat : Nat) : Int) != (m[i'].toNat : Nat)) = true := by
            simp only [bne_iff_ne, ne_eq, Int.natCast_inj]
            exact fun e => hx (UInt8.toNat_inj.1 e)
          go_wp2
          all_goals go_quiet (fail)
          all_goals go_wp2
          go_ret
          refine ⟨?_, below_drewN HB.out _⟩
          have : l ≠ m := fun e => hx (by subst e; rfl)
          simp [this]
      · obtain rfl : i' = l.length := by omega
        clear hb
        go_wp2
        go_ret
        refine ⟨?_, HB.out⟩
        have h1 := HE.out
        rw [List.take_of_length_le (Nat.le_refl _), List.take_of_length_le (by omega)] at h1
        simp [h1]
  · refine (eqByteS_len w v u l m h k hlen).mono ?_
    rintro e w' ⟨rfl, hb⟩
    refine ⟨?_, hb⟩
    have : l ≠ m := fun e => hlen (by rw [e])
    simp [this]
theorem eqByteS_yes (w : World) (v u : Value) (l : List UInt8) (h : Reads w v (bv l)) (k : Reads w u (bv l)) (hl : l.length ≤ 1099511627776) :
    Calls Tryd.prog 16 #[v, u] w fun e w' => e = .returned (.bool true) ∧ Below w.heap.size w w' := by
  have := eqByteS_any w v u l l h k hl
  rw [decide_eq_true rfl] at this
  exact this
/-- the marks k, k + 1, .. as bytes -/
def marks : Nat → Nat → List UInt8
  | _, 0 => []
  | k, n + 1 => UInt8.ofNat k :: marks (k + 1) n
@[simp] theorem marks_length : ∀ k n, (marks k n).length = n
  | _, 0 => rfl
  | k, n + 1 => by simp [marks, marks_length (k + 1) n]
theorem marks_getElem : ∀ (k n j : Nat) (h : j < (marks k n).length), (marks k n)[j] = UInt8.ofNat (k + j)
  | k, n + 1, 0, h => rfl
  | k, n + 1, j + 1, h => by
    simp only [marks, List.getElem_cons_succ]
    rw [marks_getElem (k + 1) n j]
    congr 1
    omega
theorem mark_byte (k : Nat) : ((UInt8.ofNat k).toNat : Int) = (k : Int) % 256 := by simp
theorem markByteS_any (w : World) (B : Nat) (v : Value) (l : List UInt8) (h : w.ownsRow B 5 1 v l.length (bv l)) (hl : l.length ≤ 1099511627776) :
    Calls Tryd.prog 18 #[v, .int .i64 1] w fun e w' => e = .returned (.int .i64 (1 + l.length)) ∧ w'.ownsRow B 5 1 v l.length (bv (marks 1 l.length)) ∧ (∃ g, B ≤ g ∧ (v.ownBlock = some g ∨ w.heap.size ≤ g) ∧ Only g w w') := by
  have HLT := Lib.hid h.lt
  have H := Lib.hid h
  rcases h.2 with ⟨rfl, h0⟩ | ⟨g, cap, cur, rfl, hb, hg, hnc, hcm, hcs, htake⟩
  · obtain rfl : l = [] := List.eq_nil_of_length_eq_zero h0
    go_enter Tryd.func18, Tryd.ntmps18
    go_wp2
    go_loop [1, 5] (fun k i => k = .int .i64 1 ∧ i = .int .i64 0) (fun _ _ => 0)
    case atStart => exact ⟨rfl, rfl⟩
    case round =>
      obtain ⟨rfl, rfl⟩ := hrel
      go_wp2
      go_ret
      exact ⟨by simp, by simpa [marks] using H.out, max B w.heap.size, Nat.le_max_left _ _, .inr (Nat.le_max_right _ _), Only.refl _ _⟩
  · clear hb hg hnc hcm hcs htake h
    go_enter Tryd.func18, Tryd.ntmps18
    go_wp2
    go_loopw [1, 5] (fun k i wr => ∃ i' : Nat, k = .int .i64 (1 + i') ∧ i = .int .i64 i' ∧ i' ≤ l.length ∧ wr.ownsRow B 5 1 (.slice (some ⟨g, 0, none⟩) l.length cap) l.length (bv ((marks 1 l.length).take i') ++ (bv l).drop i') ∧ Only g w wr) (fun _ i _ => l.length - (intOf i).toNat)
    case atStart => exact ⟨0, rfl, rfl, Nat.zero_le _, by simpa [bv] using H.out, Only.refl _ _⟩
    case round =>
      obtain ⟨i', rfl, rfl, hi', hown', hb⟩ := hrel
      have HO := Lib.hid hown'
      have HB := Lib.hid hb
      by_cases hlt : i' < l.length
      · have hfr := hown'.frozenAt i'
        have hat : wr.cell? ⟨g, i', none⟩ = _ := hown'.cellAt i' (by omega)
        have hu : (bv ((marks 1 l.length).take i') ++ (bv l).drop i')[i']? = some (.int .u8 (l[i']).toNat) := by
          rw [List.getElem?_append_right (by simp; omega)]
          simp [List.getElem?_drop]
          rw [Nat.min_eq_left (by omega), Nat.sub_self, Nat.add_zero]
          simp [bv, List.getElem?_eq_getElem hlt]
        rw [hu] at hat
        clear hu hown' hb
        go_wp2
        go_roundw
        case rel =>
          have hst := HO.out.stored i' (.int .u8 ((1 + (i' : Int)) % 256))
          refine ⟨i' + 1, by go_num, by go_num, by omega, ?_, HB.out.trans (Only.of_grown hst.2)⟩
          have := fill_set (bv (marks 1 l.length)) (bv l) i' (by simpa using hlt) (by simp)
          rw [bv_getElem, marks_getElem, mark_byte] at this
          have e1 : ∀ k, bv ((marks 1 l.length).take k) = (bv (marks 1 l.length)).take k := fun k => by simp [bv, List.map_take]
          rw [e1, ← this, ← e1]
          exact hst.1
        case measure => simp [intOf]; omega
      · obtain rfl : i' = l.length := by omega
        clear hown' hb
        go_wp2
        go_ret
        refine ⟨rfl, ?_, g, (HLT.out g rfl).1, .inl rfl, HB.out⟩
        have h1 := HO.out
        rw [List.take_of_length_le (by simp), List.drop_eq_nil_of_le (by simp), List.append_nil] at h1
        exact h1
theorem heldByteS_any (w : World) (v : Value) (n : Nat) (h : Reads w v (bv (marks 1 n))) (hl : n ≤ 1099511627776) :
    Calls Tryd.prog 19 #[v, .int .i64 1] w fun e w' => e = .returned (.int .i64 (1 + n)) ∧ Below w.heap.size w w' := by
  obtain ⟨a, cap, rfl, hc⟩ := reads_byte h
  have HC := Lib.hid hc
  clear hc h
  rw [marks_length] at *
  go_enter Tryd.func19, Tryd.ntmps19
  go_wp2
  go_loopw [1, 5] (fun k i wr => ∃ i' : Nat, k = .int .i64 (1 + i') ∧ i = .int .i64 i' ∧ i' ≤ n ∧ Below w.heap.size w wr) (fun _ i _ => n - (intOf i).toNat)
  case atStart => exact ⟨0, rfl, rfl, Nat.zero_le _, Below.refl _ _⟩
  case round =>
    obtain ⟨i', rfl, rfl, hi', hb⟩ := hrel
    have HB := Lib.hid hb
    by_cases hlt : i' < n
    · obtain ⟨b, o, rfl, hcl⟩ := HC.out i' (by simpa using hlt)
      rw [marks_getElem, mark_byte] at hcl
      have hcl' : wr.cell? ⟨b, o + i', none⟩ = some (.int .u8 ((1 + (i' : Int)) % 256)) := by rw [hb.cell (p := ⟨b, o + i', none⟩) (cell_lt hcl)]; exact hcl
      clear hb hcl
      go_wp2
      go_roundw
      case rel => exact ⟨i' + 1, by go_num, by go_num, by omega, HB.out⟩
      case measure => simp [intOf]; omega
    · obtain rfl : i' = n := by omega
      clear hb
      go_wp2
      go_ret
      exact ⟨rfl, HB.out⟩
end Go.Proofs.YtilgncebhgplaaaDoor
/- markText of the exact laws: the letter m and the digits. -/
namespace Go.Proofs.YtilgncebhgplaaaDoor
open Go.RowKit
def mtd (m : Nat) : List UInt8 := if m = 0 then [] else Lib.decDigits m
theorem mtd_zero : mtd 0 = [] := rfl
theorem mtd_step (m : Nat) (h : m ≠ 0) : mtd m = mtd (m / 10) ++ [UInt8.ofNat (48 + m % 10)] := by
  unfold mtd
  rw [if_neg h, Lib.decDigits]
  by_cases h10 : m < 10
  · rw [dif_pos h10, if_pos (by omega), show m % 10 = m by omega]; rfl
  · rw [dif_neg h10, if_neg (by omega)]
theorem mtd_len (m : Nat) : (mtd m).length ≤ m / 10 + 1 := by
  induction m using Nat.strongRecOn with
  | _ m ih =>
    by_cases h : m = 0
    · subst h; rw [mtd_zero]; exact Nat.zero_le _
    · rw [mtd_step m h, List.length_append]
      have h1 := ih (m / 10) (by omega)
      have h2 : ([UInt8.ofNat (48 + m % 10)] : List UInt8).length = 1 := rfl
      by_cases h10 : m < 10
      · rw [show m / 10 = 0 by omega] at h1 ⊢; rw [mtd_zero]; exact Nat.le_refl _
      · omega
theorem mt_cat (a b : List UInt8) : ((⟨a.toArray⟩ : ByteArray) ++ (⟨b.toArray⟩ : ByteArray)) = ⟨(a ++ b).toArray⟩ := by
  apply ByteArray.ext
  simp [ByteArray.data_append]
theorem mt_cell (W : World) (B : Nat) (c : Int) (h : W.cell? ⟨B, 0, none⟩ = some (.int .u8 c)) : ∀ i, i < 1 → W.cell? ⟨B, 0 + i, none⟩ = some (.int .u8 (([c] : List Int).getD i 0)) := by
  intro i hi
  obtain rfl : i = 0 := by omega
  simpa using h
theorem mt_conv (W : World) (B : Nat) (c : Int) (h : W.cell? ⟨B, 0, none⟩ = some (.int .u8 c)) : (convert 33 9 (.slice (some ⟨B, 0, none⟩) 1 1)).run Tryd.prog W = .ok (.string ⟨#[UInt8.ofNat c.toNat]⟩) W :=
  run_convert_bytes_arg W _ _ Tryd.underlying33 Tryd.underlying5 B 0 1 1 [c] rfl (mt_cell W B c h) _ Tryd.underlying9
theorem mt_dg (m : Nat) : (48 : UInt8) + UInt8.ofNat (m % 10) = UInt8.ofNat (48 + m % 10) := by
  have : m % 10 < 10 := Nat.mod_lt _ (by omega)
  have key : ∀ i : Fin 10, (48 : UInt8) + UInt8.ofNat i.val = UInt8.ofNat (48 + i.val) := by decide
  exact key ⟨m % 10, this⟩
/-- the mark's text -/
def mtx (n : Nat) : List UInt8 := 109 :: mtd n
theorem marktext_any (n : Nat) (w : World) (h0 : 1 ≤ n) (h1 : (n : Int) ≤ 9223372036854775807) : Calls Tryd.prog 67 #[.int .i64 n] w fun e w' => e = .returned (.string ⟨(mtx n).toArray⟩) ∧ Below w.heap.size w w' := by
  have hn : ¬ ((n : Int) ≤ 0) := by omega
  go_enter Tryd.func67, Tryd.ntmps67
  go_wp2
  go_loopw [0, 3] (fun x s wr => ∃ (x' : Nat) (acc : List UInt8), x = .int .i64 x' ∧ s = .string ⟨acc.toArray⟩ ∧ mtd x' ++ acc = mtd n ∧ x' ≤ n ∧ Below w.heap.size w wr) (fun x _ _ => (intOf x).toNat)
  case atStart => exact ⟨n, [], rfl, rfl, by simp, Nat.le_refl _, Below.refl _ _⟩
  case round =>
    obtain ⟨x', acc, rfl, rfl, hk, hb, hbel⟩ := hrel
    have hl1 := congrArg List.length hk
    have hl2 := mtd_len n
    rw [List.length_append] at hl1
    have hl3 : acc.length ≤ 922337203685477581 := by omega
    by_cases hz : x' = 0
    · subst hz
      have HK := Lib.hid hk
      clear hk hl1 hl2
      go_wp2
      go_ret
      have hk := HK.out
      rw [mtd_zero, List.nil_append] at hk
      exact ⟨by rw [mtx, ← hk]; exact congrArg (fun x => Ending.returned (.string x)) (mt_cat [109] acc), hbel⟩
    · have hz' : (0 : Int) < x' := by omega
      have h2 : (0 : Int) ≤ x' := by omega
      have h3 : (x' : Int) ≤ 9223372036854775807 := by omega
      have HK := Lib.hid hk
      have hcv := mt_conv
      clear hk hl1 hl2
      go_wp2
      go_roundw
      case rel => exact ⟨x' / 10, [UInt8.ofNat (48 + x' % 10)] ++ acc, by go_num, by rw [← mt_cat, ← mt_dg], by rw [← HK.out, mtd_step x' hz, List.append_assoc], by omega, hbel.alloc hbel.size _⟩
      case measure => simp [intOf]; omega
end Go.Proofs.YtilgncebhgplaaaDoor
/- A tree with marks in place of its contents. -/
namespace Go.Proofs.YtilgncebhgplaaaDoor
open Go.RowKit
mutual
def AT.mark : Nat → AT → AT
  | c, .mk _ _ _ _ a cap l => .mk c (c + 1 : Nat) (c + 2 : Nat) (mtx (c + 3)) a cap (AT.markL (c + 4) l)
def AT.markL : Nat → List AT → List AT
  | _, [] => []
  | c, t :: l => t.mark c :: AT.markL (c + 4 * t.pt.cnt) l
end
theorem mark_eq (c : Nat) (t : AT) : t.mark c = .mk c (c + 1 : Nat) (c + 2 : Nat) (mtx (c + 3)) t.a t.cap (AT.markL (c + 4) t.l) := by cases t; rfl
theorem markL_append (l m : List AT) (c : Nat) : AT.markL c (l ++ m) = AT.markL c l ++ AT.markL (c + 4 * PT.cntL (AT.ptL l)) m := by
  induction l generalizing c with
  | nil => simp [AT.markL, AT.ptL, PT.cntL]
  | cons t l ih =>
    simp only [List.cons_append, AT.markL, AT.ptL, PT.cntL, ih]
    rw [show c + 4 * t.pt.cnt + 4 * PT.cntL (AT.ptL l) = c + 4 * (t.pt.cnt + PT.cntL (AT.ptL l)) by omega]
@[simp] theorem markL_length (l : List AT) (c : Nat) : (AT.markL c l).length = l.length := by
  induction l generalizing c with
  | nil => rfl
  | cons t l ih => simp [AT.markL, ih]
theorem blks_mark (t : AT) : ∀ c, (t.mark c).blks = t.blks := by
  induction t using AT.ind with
  | h k n x s a cap l ih =>
    intro c
    have : ∀ c, AT.blksL (AT.markL c l) = AT.blksL l := by
      induction l with
      | nil => intro c; rfl
      | cons t l ihl =>
        intro c
        simp only [AT.markL, AT.blksL, ih t (by simp), ihl (fun u hu => ih u (by simp [hu]))]
    simp only [AT.mark, AT.blks, this]
theorem blksL_mark (l : List AT) (c : Nat) : AT.blksL (AT.markL c l) = AT.blksL l := by
  induction l generalizing c with
  | nil => rfl
  | cons t l ih => simp only [AT.markL, AT.blksL, blks_mark, ih]
/-- of the elder blocks at most those of bs turned -/
structure OnlyBs (bs : List Nat) (w w' : World) : Prop where
  os : w'.os = w.os
  tape : w'.tape = w.tape
  output : w'.output = w.output
  size : w.heap.size ≤ w'.heap.size
  block : ∀ k, k < w.heap.size → k ∉ bs → w'.heap[k]? = w.heap[k]?
theorem OnlyBs.refl (bs : List Nat) (w : World) : OnlyBs bs w w := ⟨rfl, rfl, rfl, Nat.le_refl _, fun _ _ _ => rfl⟩
theorem OnlyBs.trans {bs : List Nat} {a b c : World} (h : OnlyBs bs a b) (k : OnlyBs bs b c) : OnlyBs bs a c :=
  ⟨k.os.trans h.os, k.tape.trans h.tape, k.output.trans h.output, Nat.le_trans h.size k.size, fun i hi h1 => (k.block i (Nat.lt_of_lt_of_le hi h.size) h1).trans (h.block i hi h1)⟩
theorem OnlyBs.of_below {bs : List Nat} {w w' : World} (h : Below w.heap.size w w') : OnlyBs bs w w' := ⟨h.os, h.tape, h.output, h.size, fun k hk _ => h.block k hk⟩
theorem OnlyBs.mono {bs bs' : List Nat} {w w' : World} (h : OnlyBs bs w w') (hb : ∀ k ∈ bs, k ∈ bs') : OnlyBs bs' w w' := ⟨h.os, h.tape, h.output, h.size, fun k hk hn => h.block k hk (fun hm => hn (hb k hm))⟩
theorem OnlyBs.set {bs : List Nat} {a w : World} {g o : Nat} {u : Value} (h : OnlyBs bs a w) (hg : g ∈ bs) : OnlyBs bs a (w.setCell ⟨g, o, none⟩ u) :=
  h.trans ⟨rfl, rfl, rfl, by simp [World.setCell], fun k _ hk => Below.heap_setCell _ _ _ _ (fun e => hk (by have : k = g := e; rw [this]; exact hg))⟩
theorem OnlyBs.below {bs : List Nat} {w w' : World} {N : Nat} (h : OnlyBs bs w w') (hb : ∀ k ∈ bs, N ≤ k) (hN : N ≤ w.heap.size) : Below N w w' :=
  ⟨h.os, h.tape, h.output, h.size, fun k hk => h.block k (by omega) (fun hm => by have := hb k hm; omega)⟩
theorem OnlyBs.cell {bs : List Nat} {w w' : World} (h : OnlyBs bs w w') {p : Addr} {v : Value} (hp : p.block ∉ bs) (hc : w.cell? p = some v) : w'.cell? p = some v := by
  rw [World.cell?_of_block (h.block p.block (cell_lt hc) hp)]; exact hc
theorem AT.Own.onlyBs {w w' : World} {B : Nat} {T : AT} {bs : List Nat} (h : T.Own w B) (ho : OnlyBs bs w w') (hd : ∀ k ∈ T.blks, k ∉ bs) : T.Own w' B := h.kept fun k hk => ho.block k (h.lt k hk).2 (hd k hk)
theorem set_four (xs : List Value) (v0 v1 v2 v3 v4 u0 u1 u2 u3 : Value) (ys : List Value) (p : Nat) (hx : xs.length = p) :
    ((((xs ++ [v0, v1, v2, v3, v4] ++ ys).set p u0).set (p + 1) u1).set (p + 2) u2).set (p + 3) u3 = xs ++ [u0, u1, u2, u3, v4] ++ ys := by
  subst hx
  simp [List.set_append]
theorem cellsL_mid (L1 L2 : List AT) (t : AT) : cellsL (L1 ++ t :: L2) = cellsL L1 ++ [.int .i64 t.k, .int .i64 t.n, .int .i64 t.x, .string ⟨t.s.toArray⟩, .slice t.a t.l.length t.cap] ++ cellsL L2 := by
  rw [cellsL_append, List.append_assoc]
  rfl
theorem mark_cells (c : Nat) (t : AT) : (t.mark c).cells = [.int .i64 (c : Nat), .int .i64 (c + 1 : Nat), .int .i64 (c + 2 : Nat), .string ⟨(mtx (c + 3)).toArray⟩, .slice t.a t.l.length t.cap] := by
  rw [mark_eq]; simp [AT.cells, AT.k, AT.n, AT.x, AT.s, AT.a, AT.cap, AT.l]
theorem cntL_app (l m : List PT) : PT.cntL (l ++ m) = PT.cntL l + PT.cntL m := by
  induction l with
  | nil => simp [PT.cntL]
  | cons t l ih => simp only [List.cons_append, PT.cntL, ih]; omega
theorem cnt_eq' (t : AT) : t.pt.cnt = PT.cntL (AT.ptL t.l) + 1 := by cases t; simp [AT.pt, PT.cnt, AT.l]
theorem len_le_cnt (l : List AT) : l.length ≤ PT.cntL (AT.ptL l) := by
  induction l with
  | nil => exact Nat.zero_le _
  | cons t l ih => simp only [List.length_cons, AT.ptL, PT.cntL, cnt_eq']; omega
end Go.Proofs.YtilgncebhgplaaaDoor
/- markValS and markVal of the exact laws. -/
namespace Go.Proofs.YtilgncebhgplaaaDoor
open Go.RowKit
theorem mid_get (X Y : List Value) (v0 v1 v2 v3 v4 : Value) (p : Nat) (hx : X.length = p) : (X ++ [v0, v1, v2, v3, v4] ++ Y)[p]? = some v0 ∧ (X ++ [v0, v1, v2, v3, v4] ++ Y)[p + 1]? = some v1 ∧ (X ++ [v0, v1, v2, v3, v4] ++ Y)[p + 2]? = some v2 ∧ (X ++ [v0, v1, v2, v3, v4] ++ Y)[p + 3]? = some v3 ∧ (X ++ [v0, v1, v2, v3, v4] ++ Y)[p + 4]? = some v4 := by
  subst hx
  refine ⟨?_, ?_, ?_, ?_, ?_⟩ <;> simp [List.getElem?_append_right]
theorem mid_set (X Y : List Value) (v0 v1 v2 v3 v4 u0 u1 u2 : Value) (p : Nat) (hx : X.length = p) :
    (((X ++ [v0, v1, v2, v3, v4] ++ Y).set p u0).set (p + 1) u1).set (p + 2) u2 = X ++ [u0, u1, u2, v3, v4] ++ Y := by
  subst hx
  simp [List.set_append]
theorem mid_set3 (X Y : List Value) (v0 v1 v2 v3 v4 u3 : Value) (p : Nat) (hx : X.length = p) : (X ++ [v0, v1, v2, v3, v4] ++ Y).set (p + 3) u3 = X ++ [v0, v1, v2, u3, v4] ++ Y := by
  subst hx
  simp [List.set_append]
theorem AT.Own.setg {w : World} {B g o : Nat} {u : Value} {T : AT} (h : T.Own w B) (hg : g ∉ T.blks) : T.Own (w.setCell ⟨g, o, none⟩ u) B := h.only ((Only.refl g w).setCell o u) hg
/-- the first three marks of an element, and what a call behind them leaves -/
theorem mark_three {wr w1 : World} {B g n cap p : Nat} {X Y : List Value} {v0 v1 v2 v3 v4 u0 u1 u2 : Value} (hrow : wr.ownsRow B 29 5 (.slice (some ⟨g, 0, none⟩) n cap) n (X ++ [v0, v1, v2, v3, v4] ++ Y)) (hx : X.length = p) (hp : p + 5 ≤ n * 5)
    (hb : Below (((wr.setCell ⟨g, p, none⟩ u0).setCell ⟨g, p + 1, none⟩ u1).setCell ⟨g, p + 2, none⟩ u2).heap.size (((wr.setCell ⟨g, p, none⟩ u0).setCell ⟨g, p + 1, none⟩ u1).setCell ⟨g, p + 2, none⟩ u2) w1) :
    w1.ownsRow B 29 5 (.slice (some ⟨g, 0, none⟩) n cap) n (X ++ [u0, u1, u2, v3, v4] ++ Y) ∧ w1.cell? ⟨g, p + 3, none⟩ = some v3 ∧ w1.cell? ⟨g, p + 4, none⟩ = some v4 ∧ (∀ o, w1.frozen? ⟨g, o, none⟩ = false) := by
  have h3 := ((((hrow.stored p u0).1.stored (p + 1) u1).1).stored (p + 2) u2).1
  rw [mid_set _ _ _ _ _ _ _ _ _ _ _ hx] at h3
  have h4 := own_heap h3 (fun k hk => hb.block k (h3.lt k hk).2)
  have hm := mid_get X Y u0 u1 u2 v3 v4 p hx
  exact ⟨h4, (h4.cellAt _ (by omega)).trans hm.2.2.2.1, (h4.cellAt _ (by omega)).trans hm.2.2.2.2, h4.frozenAt⟩
def MarkPost (w : World) (B : Nat) (a : Option Addr) (cap : Nat) (l : List AT) (c : Nat) (e : Ending) (w' : World) : Prop :=
  e = .returned (.int .i64 (c + 4 * PT.cntL (AT.ptL l) : Nat)) ∧ OwnL w' B a cap (AT.markL c l) ∧ OnlyBs ((a.map (·.block)).toList ++ AT.blksL l) w w'
theorem blksL_mid (L1 L2 : List AT) (t : AT) : AT.blksL (L1 ++ t :: L2) = AT.blksL L1 ++ (t.blks ++ AT.blksL L2) := by rw [AT.blksL_append]; rfl
theorem mem_blks {l : List AT} {t : AT} (ht : t ∈ l) {k : Nat} (hk : k ∈ t.blks) : k ∈ AT.blksL l := AT.mem_blksL.2 ⟨t, ht, hk⟩
set_option maxHeartbeats 1000000 in
theorem markValS_of (l : List AT) (ih : ∀ t ∈ l, ∀ (w : World) (B c : Nat), OwnL w B t.a t.cap t.l → ((t.a.map (·.block)).toList ++ AT.blksL t.l).Nodup → 1 ≤ c → c + 4 * PT.cntL (AT.ptL t.l) ≤ 1099511627776 → Calls Tryd.prog 42 #[.slice t.a t.l.length t.cap, .int .i64 (c : Nat)] w (MarkPost w B t.a t.cap t.l c))
    (hl : l.length ≤ 1099511627776) (w : World) (B c : Nat) (a : Option Addr) (cap : Nat) (h : OwnL w B a cap l) (hnd : ((a.map (·.block)).toList ++ AT.blksL l).Nodup) (hc : 1 ≤ c) (hb : c + 4 * PT.cntL (AT.ptL l) ≤ 1099511627776) :
    Calls Tryd.prog 42 #[.slice a l.length cap, .int .i64 (c : Nat)] w (MarkPost w B a cap l c) := by
  have H := Lib.hid h
  have IH := Lib.hid ih
  have ND := Lib.hid hnd
  have HBD := Lib.hid hb
  clear h ih hnd hb
  go_enter Tryd.func42, Tryd.ntmps42
  go_wp2
  go_loopw [1, 5] (fun k i wr => ∃ i' c' : Nat, k = .int .i64 c' ∧ i = .int .i64 i' ∧ i' ≤ l.length ∧ c' = c + 4 * PT.cntL (AT.ptL (l.take i')) ∧ OwnL wr B a cap (AT.markL c (l.take i') ++ l.drop i') ∧ OnlyBs ((a.map (·.block)).toList ++ AT.blksL l) w wr) (fun _ i _ => l.length - (intOf i).toNat)
  case atStart => exact ⟨0, c, rfl, rfl, Nat.zero_le _, by simp [AT.ptL, PT.cntL], by simpa [AT.markL] using H.out, OnlyBs.refl _ _⟩
  case round =>
    obtain ⟨i', c', rfl, rfl, hi', hcc, hown, ho⟩ := hrel
    have HO := Lib.hid ho
    have HCC := Lib.hid hcc
    have HOWN := Lib.hid hown
    clear ho hcc
    by_cases hlt : i' < l.length
    · obtain ⟨T, hT⟩ : ∃ T, T = l[i'] := ⟨_, rfl⟩
      have hsplit : l = l.take i' ++ T :: l.drop (i' + 1) := by rw [hT, List.getElem_cons_drop hlt, List.take_append_drop]
      have HSP := Lib.hid hsplit
      have hmem : T ∈ l := by rw [hT]; exact List.getElem_mem hlt
      obtain ⟨L1, hL1⟩ : ∃ L1, L1 = AT.markL c (l.take i') := ⟨_, rfl⟩
      obtain ⟨L2, hL2⟩ : ∃ L2, L2 = l.drop (i' + 1) := ⟨_, rfl⟩
      have hlen1 : L1.length = i' := by rw [hL1, markL_length, List.length_take]; omega
      have hlr : AT.markL c (l.take i') ++ l.drop i' = L1 ++ T :: L2 := by rw [hL1, hL2, hT, List.getElem_cons_drop hlt]
      rw [hlr] at hown
      have hlen : (L1 ++ T :: L2).length = l.length := by rw [← hlr]; simp; omega
      obtain ⟨g, hag, hBg, hgl, hC0⟩ := own_cellL hown.row i' (by rw [hlen]; exact hlt)
      subst hag
      have hblk : AT.blksL (L1 ++ T :: L2) = AT.blksL l := by rw [← hlr, AT.blksL_append, blksL_mark, ← AT.blksL_append, List.take_append_drop]
      have hnd : (g :: AT.blksL (L1 ++ T :: L2)).Nodup := by rw [hblk]; exact ND.out
      rw [blksL_mid, List.nodup_cons, List.nodup_append, List.nodup_append] at hnd
      have hcT : c' + 4 * T.pt.cnt ≤ 1099511627776 := by
        have h1 := HBD.out
        have h2 := HCC.out
        rw [HSP.out, AT.ptL_eq, List.map_append, List.map_cons] at h1
        rw [AT.ptL_eq] at h2
        have h3 : PT.cntL (List.map AT.pt (l.take i') ++ T.pt :: List.map AT.pt (l.drop (i' + 1))) = PT.cntL (List.map AT.pt (l.take i')) + (T.pt.cnt + PT.cntL (List.map AT.pt (l.drop (i' + 1)))) := cntL_app _ _
        omega
      have hcnt := cnt_eq' T
      have hrow := hown.row
      rw [hlen, cellsL_mid] at hrow
      have hx : (cellsL L1).length = i' * 5 := by rw [cellsL_length, hlen1]
      have hC : CellsAt wr g (i' * 5) T := by
        have h0 : (L1 ++ T :: L2)[i']'(by rw [hlen]; exact hlt) = T := by subst hlen1; simp
        rw [Nat.zero_add, h0] at hC0
        exact hC0
      clear hC0
      obtain ⟨c0, c1, c2, c3, c4⟩ := hC
      have hfr := hrow.frozenAt
      have HROW := Lib.hid hrow
      have HND := Lib.hid hnd
      have HSUB := Lib.hid hown.sub
      have HX := Lib.hid hx
      have HL1 := Lib.hid hL1
      have HL2 := Lib.hid hL2
      have HLR := Lib.hid hlr
      have HLEN := Lib.hid (And.intro hlen1 hlen)
      have HCNT := Lib.hid hcnt
      have HMEM := Lib.hid hmem
      have HBLK := Lib.hid hblk
      have hcb : c' + 4 ≤ 1099511627776 := by omega
      have HCT := Lib.hid hcT
      clear hT hsplit hmem hL1 hL2 hlen1 hlr hown hlen hblk hnd hcnt hrow hx hcT
      have e3 : ((c' : Int) + 1 + 1 + 1) = ((c' + 3 : Nat) : Int) := by omega
      have e4 : ((c' : Int) + 1 + 1 + 1 + 1) = ((c' + 4 : Nat) : Int) := by omega
      have hmt : ∀ w1, Calls Tryd.prog 67 #[.int .i64 ((c' : Int) + 1 + 1 + 1)] w1 fun e w' => e = .returned (.string ⟨(mtx (c' + 3)).toArray⟩) ∧ Below w1.heap.size w1 w' := by
        rw [e3]; exact fun w1 => marktext_any (c' + 3) w1 (by omega) (by omega)
      have HMT := Lib.hid hmt
      have E4 := Lib.hid e4
      clear hmt e3 e4
      go_wp2_with fail
      refine (HMT.out _).mono ?_
      rintro e w1 ⟨rfl, hb1⟩
      obtain ⟨hrow1, k3, k4, kf⟩ := mark_three HROW.out HX.out (by have := HLEN.out; omega) hb1
      have hgT : ∀ t ∈ L1 ++ T :: L2, g ∉ t.blks := fun t ht hm => HND.out.1 (by rw [← blksL_mid]; exact mem_blks ht hm)
      have hsub1 : ∀ t ∈ L1 ++ T :: L2, t.Own w1 B := fun t ht => ((((HSUB.out t ht).setg (hgT t ht)).setg (hgT t ht)).setg (hgT t ht)).blw hb1
      have ho1 : OnlyBs (((some (⟨g, 0, none⟩ : Addr)).map (·.block)).toList ++ AT.blksL l) w w1 := (((HO.out.set (by simp)).set (by simp)).set (by simp)).trans (.of_below hb1)
      have HO1 := Lib.hid ho1
      have HS1 := Lib.hid hsub1
      have HR1 := Lib.hid hrow1
      have HGT := Lib.hid hgT
      clear hb1 hrow1 hgT hsub1 ho1 c0 c1 c2 c3 c4 hfr HROW HSUB HO HOWN
      go_wp2_with fail
      rw [E4.out]
      have hT2 : ∀ t ∈ L1 ++ T :: L2, t.Own (w1.setCell ⟨g, i' * 5 + 3, none⟩ (.string ⟨(mtx (c' + 3)).toArray⟩)) B := fun t ht => (HS1.out t ht).setg (HGT.out t ht)
      have hndT : ((T.a.map (·.block)).toList ++ AT.blksL T.l).Nodup := by rw [← AT.blks_eq]; exact HND.out.2.2.1.1
      have hrow2 := (HR1.out.stored (i' * 5 + 3) (.string ⟨(mtx (c' + 3)).toArray⟩)).1
      rw [mid_set3 _ _ _ _ _ _ _ _ _ HX.out] at hrow2
      have ho2 := HO1.out.set (o := i' * 5 + 3) (u := .string ⟨(mtx (c' + 3)).toArray⟩) (g := g) (by simp)
      refine (IH.out T HMEM.out _ B (c' + 4) (hT2 T (by simp)).l' hndT (by omega) (by have := HCNT.out; have := HCT.out; omega)).mono ?_
      rintro e w3 ⟨rfl, hown3, ho3⟩
      have hdis : ∀ t, t ∈ L1 ∨ t ∈ L2 → ∀ k ∈ t.blks, k ∉ (T.a.map (·.block)).toList ++ AT.blksL T.l := by
        intro t ht k hk hk2
        rw [← AT.blks_eq] at hk2
        rcases ht with ht | ht
        · exact HND.out.2.2.2 k (mem_blks ht hk) k (by simp [hk2]) rfl
        · exact HND.out.2.2.1.2.2 k hk2 k (mem_blks ht hk) rfl
      have hgc : g ∉ (T.a.map (·.block)).toList ++ AT.blksL T.l := by rw [← AT.blks_eq]; exact HGT.out T (by simp)
      have hrow3 : w3.ownsRow B 29 5 (.slice (some ⟨g, 0, none⟩) (L1 ++ T.mark c' :: L2).length cap) (L1 ++ T.mark c' :: L2).length (cellsL (L1 ++ T.mark c' :: L2)) := by
        have h1 : (L1 ++ T.mark c' :: L2).length = l.length := by have := HLEN.out.2; simpa using this
        have h2 := own_heap hrow2 (fun k hk => ho3.block k (hrow2.lt k hk).2 (by simp [Value.ownBlock] at hk; rw [← hk]; exact hgc))
        rw [h1, cellsL_append]
        have h3 : cellsL (T.mark c' :: L2) = (T.mark c').cells ++ cellsL L2 := rfl
        rw [h3, mark_cells, ← List.append_assoc]
        have e1 : ((c' : Int) + 1) = ((c' + 1 : Nat) : Int) := by omega
        have e2 : ((c' : Int) + 1 + 1) = ((c' + 2 : Nat) : Int) := by omega
        rw [e2, e1] at h2
        exact h2
      have hnew : OwnL w3 B (some ⟨g, 0, none⟩) cap (L1 ++ T.mark c' :: L2) := by
        refine ⟨hrow3, fun t ht => ?_⟩
        simp only [List.mem_append, List.mem_cons] at ht
        rcases ht with ht | rfl | ht
        · exact (hT2 t (by simp [ht])).onlyBs ho3 (hdis t (.inl ht))
        · rw [mark_eq]; exact hown3.own
        · exact (hT2 t (by simp [ht])).onlyBs ho3 (hdis t (.inr ht))
      have htk : l.take (i' + 1) = l.take i' ++ [T] := by
        have := HSP.out
        have h1 : (l.take i').length = i' := by rw [List.length_take]; omega
        calc l.take (i' + 1) = (l.take i' ++ T :: l.drop (i' + 1)).take (i' + 1) := by rw [← this]
          _ = l.take i' ++ [T] := by rw [List.take_append, h1, List.take_of_length_le (by omega), show i' + 1 - i' = 1 by omega]; rfl
      have hcc2 : c' + 4 * T.pt.cnt = c + 4 * PT.cntL (AT.ptL (l.take (i' + 1))) := by
        rw [htk, AT.ptL_eq, List.map_append, cntL_app, HCC.out, AT.ptL_eq]
        simp only [List.map_cons, List.map_nil, PT.cntL]
        omega
      have hfin : OwnL w3 B (some ⟨g, 0, none⟩) cap (AT.markL c (l.take (i' + 1)) ++ l.drop (i' + 1)) := by
        rw [htk, markL_append, ← HL1.out, ← HL2.out, ← HCC.out]
        have : L1 ++ AT.markL c' [T] ++ L2 = L1 ++ T.mark c' :: L2 := by simp [AT.markL]
        rw [this]; exact hnew
      have ho3' := ho2.trans (ho3.mono (bs' := ((some (⟨g, 0, none⟩ : Addr)).map (·.block)).toList ++ AT.blksL l) (fun k hk => by
        rw [← AT.blks_eq] at hk
        rw [List.mem_append]
        exact .inr (mem_blks HMEM.out hk)))
      have HFIN := Lib.hid hfin
      have HO3 := Lib.hid ho3'
      have HC2 := Lib.hid hcc2
      have HE : Hid (c' + 4 + 4 * PT.cntL (AT.ptL T.l) = c' + 4 * T.pt.cnt) := Lib.hid (by have := HCNT.out; omega)
      clear hT2 hndT hrow2 ho2 hown3 ho3 hdis hgc hrow3 hnew htk hcc2 hfin ho3'
      rw [HE.out]
      go_wp2
      go_roundw
      case rel => exact ⟨i' + 1, c' + 4 * T.pt.cnt, rfl, by go_num, by omega, HC2.out, HFIN.out, HO3.out⟩
      case measure => simp [intOf]; omega
    · obtain rfl : i' = l.length := by omega
      have HE : Hid (c' = c + 4 * PT.cntL (AT.ptL l)) := Lib.hid (by rw [HCC.out, List.take_of_length_le (Nat.le_refl _)])
      have HF : Hid (OwnL wr B a cap (AT.markL c l)) := Lib.hid (by
        have := HOWN.out
        rw [List.take_of_length_le (Nat.le_refl _), List.drop_eq_nil_of_le (Nat.le_refl _), List.append_nil] at this
        exact this)
      clear hown
      go_wp2
      go_ret
      exact ⟨by rw [← HE.out]; rfl, HF.out, HO.out⟩
theorem markValS_any (T : AT) : ∀ (w : World) (B c : Nat), OwnL w B T.a T.cap T.l → ((T.a.map (·.block)).toList ++ AT.blksL T.l).Nodup → 1 ≤ c → c + 4 * PT.cntL (AT.ptL T.l) ≤ 1099511627776 → Calls Tryd.prog 42 #[.slice T.a T.l.length T.cap, .int .i64 (c : Nat)] w (MarkPost w B T.a T.cap T.l c) := by
  induction T using AT.ind with
  | h k n x s a cap l ih =>
    intro w B c h hnd hc hb
    refine markValS_of l ih ?_ w B c a cap h hnd hc hb
    have h1 : l.length ≤ PT.cntL (AT.ptL l) := len_le_cnt l
    have h2 : c + 4 * PT.cntL (AT.ptL l) ≤ 1099511627776 := hb
    omega
end Go.Proofs.YtilgncebhgplaaaDoor
/- markVal, heldValS and heldVal of the exact laws. -/
namespace Go.Proofs.YtilgncebhgplaaaDoor
open Go.RowKit
theorem heldVal_cell {w : World} {b p c : Nat} {T : AT} (h : CellsAt w b p (T.mark c)) : w.cell? ⟨b, p, none⟩ = some (.int .i64 c) ∧ w.cell? ⟨b, p + 1, none⟩ = some (.int .i64 ((c : Int) + 1)) ∧ w.cell? ⟨b, p + 2, none⟩ = some (.int .i64 ((c : Int) + 1 + 1)) ∧ w.cell? ⟨b, p + 3, none⟩ = some (.string ⟨(mtx (c + 3)).toArray⟩) ∧ w.cell? ⟨b, p + 4, none⟩ = some (.slice T.a T.l.length T.cap) := by
  obtain ⟨c0, c1, c2, c3, c4⟩ := h
  rw [mark_eq] at c0 c1 c2 c3 c4
  have e2 : ((c : Int) + 1 + 1) = ((c + 2 : Nat) : Int) := by omega
  rw [e2]
  refine ⟨c0, c1, c2, c3, ?_⟩
  rw [c4]
  simp [AT.a, AT.l, AT.cap]
set_option maxHeartbeats 1000000 in
theorem heldValS_of (l : List AT) (ih : ∀ t ∈ l, ∀ (w : World) (N c : Nat), Lv w N t.a t.cap (AT.markL c t.l) → N ≤ w.heap.size → 1 ≤ c → c + 4 * PT.cntL (AT.ptL t.l) ≤ 1099511627776 → Calls Tryd.prog 52 #[.slice t.a t.l.length t.cap, .int .i64 (c : Nat)] w fun e w' => e = .returned (.int .i64 (c + 4 * PT.cntL (AT.ptL t.l) : Nat)) ∧ Below w.heap.size w w')
    (hl : l.length ≤ 1099511627776) (w : World) (N c : Nat) (a : Option Addr) (cap : Nat) (h : Lv w N a cap (AT.markL c l)) (hN : N ≤ w.heap.size) (hc : 1 ≤ c) (hb : c + 4 * PT.cntL (AT.ptL l) ≤ 1099511627776) :
    Calls Tryd.prog 52 #[.slice a l.length cap, .int .i64 (c : Nat)] w fun e w' => e = .returned (.int .i64 (c + 4 * PT.cntL (AT.ptL l) : Nat)) ∧ Below w.heap.size w w' := by
  have H := Lib.hid h
  have IH := Lib.hid ih
  have HBD := Lib.hid hb
  clear h ih hb
  go_enter Tryd.func52, Tryd.ntmps52
  go_wp2
  go_loopw [1, 5] (fun k i wr => ∃ i' c' : Nat, k = .int .i64 c' ∧ i = .int .i64 i' ∧ i' ≤ l.length ∧ c' = c + 4 * PT.cntL (AT.ptL (l.take i')) ∧ Below w.heap.size w wr) (fun _ i _ => l.length - (intOf i).toNat)
  case atStart => exact ⟨0, c, rfl, rfl, Nat.zero_le _, by simp [AT.ptL, PT.cntL], Below.refl _ _⟩
  case round =>
    obtain ⟨i', c', rfl, rfl, hi', hcc, hbw⟩ := hrel
    have HCC := Lib.hid hcc
    have HB := Lib.hid hbw
    clear hcc
    by_cases hlt : i' < l.length
    · obtain ⟨T, hT⟩ : ∃ T, T = l[i'] := ⟨_, rfl⟩
      have hsplit : l = l.take i' ++ T :: l.drop (i' + 1) := by rw [hT, List.getElem_cons_drop hlt, List.take_append_drop]
      have hmem : T ∈ l := by rw [hT]; exact List.getElem_mem hlt
      have hml : AT.markL c l = AT.markL c (l.take i') ++ T.mark c' :: AT.markL (c' + 4 * T.pt.cnt) (l.drop (i' + 1)) := by
        conv => lhs; rw [hsplit]
        rw [markL_append, ← HCC.out]
        rfl
      have hlen1 : (AT.markL c (l.take i')).length = i' := by rw [markL_length, List.length_take]; omega
      have hlt2 : i' < (AT.markL c l).length := by rw [markL_length]; exact hlt
      have hget : (AT.markL c l)[i'] = T.mark c' := by
        have : (AT.markL c l)[i']? = some (T.mark c') := by rw [hml, List.getElem?_append_right (by omega), hlen1]; simp
        rw [List.getElem?_eq_getElem hlt2] at this
        injection this
      obtain ⟨b, o, hab, hbN, hC⟩ := H.out.cell i' hlt2
      rw [hget] at hC
      obtain rfl := hab
      obtain ⟨c0, c1, c2, c3, c4⟩ := heldVal_cell (hC.keep (hbw.block b (by omega)))
      have hsubT : (T.mark c').In w N := by rw [← hget]; exact H.out.sub _ (List.getElem_mem _)
      have hlvT : ∀ w1, Below w.heap.size w w1 → Lv w1 N T.a T.cap (AT.markL (c' + 4) T.l) := fun w1 hb1 => by
        have := hsubT
        rw [mark_eq] at this
        exact this.lv.below hb1 hN
      have hcT : c' + 4 * T.pt.cnt ≤ 1099511627776 := by
        have h1 := HBD.out
        have h2 := HCC.out
        rw [hsplit, AT.ptL_eq, List.map_append, List.map_cons] at h1
        rw [AT.ptL_eq] at h2
        have h3 : PT.cntL (List.map AT.pt (l.take i') ++ T.pt :: List.map AT.pt (l.drop (i' + 1))) = PT.cntL (List.map AT.pt (l.take i')) + (T.pt.cnt + PT.cntL (List.map AT.pt (l.drop (i' + 1)))) := cntL_app _ _
        omega
      have hcnt := cnt_eq' T
      have htk : l.take (i' + 1) = l.take i' ++ [T] := by rw [List.take_succ_eq_append_getElem hlt, hT]
      have hcc2 : c' + 4 * T.pt.cnt = c + 4 * PT.cntL (AT.ptL (l.take (i' + 1))) := by
        rw [htk, AT.ptL_eq, List.map_append, cntL_app, HCC.out, AT.ptL_eq]
        simp only [List.map_cons, List.map_nil, PT.cntL]
        omega
      have e3 : ((c' : Int) + 1 + 1 + 1) = ((c' + 3 : Nat) : Int) := by omega
      have e4 : ((c' : Int) + 1 + 1 + 1 + 1) = ((c' + 4 : Nat) : Int) := by omega
      have hmt : ∀ w1, Calls Tryd.prog 67 #[.int .i64 ((c' : Int) + 1 + 1 + 1)] w1 fun e w' => e = .returned (.string ⟨(mtx (c' + 3)).toArray⟩) ∧ Below w1.heap.size w1 w' := by
        rw [e3]; exact fun w1 => marktext_any (c' + 3) w1 (by omega) (by omega)
      have hcb : c' + 4 ≤ 1099511627776 := by omega
      have hrec := fun (w1 : World) (hb1 : Below w.heap.size w w1) => IH.out T hmem w1 N (c' + 4) (hlvT w1 hb1) (Nat.le_trans hN hb1.size) (by omega) (by omega)
      have HREC := Lib.hid hrec
      have HMT := Lib.hid hmt
      have E4 := Lib.hid e4
      have HC2 := Lib.hid hcc2
      have HE : Hid (c' + 4 + 4 * PT.cntL (AT.ptL T.l) = c' + 4 * T.pt.cnt) := Lib.hid (by omega)
      clear hT hsplit hmem hml hlen1 hget hC hsubT hlvT hcT hcnt htk hcc2 e3 e4 hmt hrec hlt2
      generalize (ByteArray.mk (mtx (c' + 3)).toArray) = MT at *
      have hi0 : (0 : Int) ≤ i' := by omega
      have hi1 : (i' : Int) < l.length := by omega
      go_wp2_with fail
      go_region_held3 (fun W' => W'.cell? ⟨b, o + i' * 5 + 3, none⟩ = some (.string MT) ∧ W'.cell? ⟨b, o + i' * 5 + 4, none⟩ = some (.slice T.a T.l.length T.cap) ∧ Below w.heap.size w W') ((refine ⟨?_, ?_, ?_⟩ <;> first | assumption | (refine Below.drew ?_; assumption) | exact keep_below (by assumption) (by assumption) | exact below_tr (by assumption) (by assumption))) ((go_at_call 67; go_split_ands; refine (HMT.out _).mono ?_; rintro e w1 ⟨rfl, hb1⟩))
      go_split_ands
      have HB1 : Hid (Below w.heap.size w w1) := Lib.hid (by assumption)
      have k4 : w1.cell? ⟨b, o + i' * 5 + 4, none⟩ = some (.slice T.a T.l.length T.cap) := by assumption
      have hneg : ¬ (((c' + 4 * T.pt.cnt : Nat) : Int) < 0) := by omega
      clear hb1 hbw c0 c1 c2 c3 c4
      go_wp2_with fail
      rw [E4.out]
      refine (HREC.out _ HB1.out).mono ?_
      rintro e w2 ⟨rfl, hb2⟩
      rw [HE.out]
      have HB2 := Lib.hid (HB1.out.trans (hb2.mono HB1.out.size))
      clear hb2
      go_wp2
      go_roundw
      case rel => exact ⟨i' + 1, c' + 4 * T.pt.cnt, rfl, by go_num, by omega, HC2.out, HB2.out⟩
      case measure => simp [intOf]; omega
    · obtain rfl : i' = l.length := by omega
      have HE : Hid (c' = c + 4 * PT.cntL (AT.ptL l)) := Lib.hid (by rw [HCC.out, List.take_of_length_le (Nat.le_refl _)])
      clear hbw
      go_wp2
      go_ret
      exact ⟨by rw [← HE.out]; rfl, HB.out⟩
theorem heldValS_any (T : AT) : ∀ (w : World) (N c : Nat), Lv w N T.a T.cap (AT.markL c T.l) → N ≤ w.heap.size → 1 ≤ c → c + 4 * PT.cntL (AT.ptL T.l) ≤ 1099511627776 → Calls Tryd.prog 52 #[.slice T.a T.l.length T.cap, .int .i64 (c : Nat)] w fun e w' => e = .returned (.int .i64 (c + 4 * PT.cntL (AT.ptL T.l) : Nat)) ∧ Below w.heap.size w w' := by
  induction T using AT.ind with
  | h k n x s a cap l ih =>
    intro w N c h hN hc hb
    refine heldValS_of l ih ?_ w N c a cap h hN hc hb
    have h1 : l.length ≤ PT.cntL (AT.ptL l) := len_le_cnt l
    have h2 : c + 4 * PT.cntL (AT.ptL l) ≤ 1099511627776 := hb
    omega
/-- the root's own fields lie in no memory: a mark turns the elements only -/
theorem markVal_any (T : AT) (w : World) (B c : Nat) (h : T.Own w B) (hnd : T.blks.Nodup) (hc : 1 ≤ c) (hb : c + 4 * T.pt.cnt ≤ 1099511627776) :
    Calls Tryd.prog 17 #[T.val, .int .i64 (c : Nat)] w fun e w' => e = .returned (.int .i64 (c + 4 * PT.cntL (AT.ptL T.l) : Nat)) ∧ OwnL w' B T.a T.cap (AT.markL c T.l) ∧ OnlyBs T.blks w w' := by
  have hcn := cnt_eq' T
  have hm := fun (w1 : World) (hb1 : Below w.heap.size w w1) => markValS_any T w1 B c (h.blw hb1).l' (by rw [← AT.blks_eq]; exact hnd) hc (by omega)
  have HM := Lib.hid hm
  have HBK := Lib.hid (AT.blks_eq T)
  clear hm hcn h hnd hb
  show Calls Tryd.prog 17 #[.agg #[.int .i64 T.k, .int .i64 T.n, .int .i64 T.x, .string ⟨T.s.toArray⟩, .slice T.a T.l.length T.cap], .int .i64 (c : Nat)] w _
  go_enter Tryd.func17, Tryd.ntmps17
  go_wp2_with fail
  refine (HM.out _ (vbox _ _)).mono ?_
  rintro e w1 ⟨rfl, ho, hbs⟩
  have HO := Lib.hid ho
  have HB := Lib.hid ((OnlyBs.of_below (vbox w _)).trans hbs)
  clear ho hbs
  go_wp2
  go_ret
  exact ⟨rfl, HO.out, by rw [HBK.out]; exact HB.out⟩
theorem heldVal_any (T : AT) (w : World) (N c : Nat) (h : Lv w N T.a T.cap (AT.markL c T.l)) (hN : N ≤ w.heap.size) (k n x : Int) (s : ByteArray) (hc : 1 ≤ c) (hb : c + 4 * PT.cntL (AT.ptL T.l) ≤ 1099511627776) :
    Calls Tryd.prog 26 #[.agg #[.int .i64 k, .int .i64 n, .int .i64 x, .string s, .slice T.a T.l.length T.cap], .int .i64 (c : Nat)] w fun e w' => e = .returned (.int .i64 (c + 4 * PT.cntL (AT.ptL T.l) : Nat)) ∧ Below w.heap.size w w' := by
  have hm := fun (w1 : World) (hb1 : Below w.heap.size w w1) => heldValS_any T w1 N c (h.below hb1 hN) (Nat.le_trans hN hb1.size) hc hb
  have HM := Lib.hid hm
  have hneg : ¬ (((c + 4 * PT.cntL (AT.ptL T.l) : Nat) : Int) < 0) := by omega
  clear hm h hb
  generalize c + 4 * PT.cntL (AT.ptL T.l) = M at *
  go_enter Tryd.func26, Tryd.ntmps26
  go_wp2_with fail
  refine (HM.out _ (vbox _ _)).mono ?_
  rintro e w1 ⟨rfl, hb1⟩
  have HB := Lib.hid ((vbox w _).trans (hb1.mono (by simp)))
  clear hb1
  go_wp2
  go_ret
  exact ⟨rfl, HB.out⟩
end Go.Proofs.YtilgncebhgplaaaDoor
