import Derived.Test.YtelehfefhlgbkaaDoorG0
import Derived.Test.YtelehfefhlgbkaaDoorG5
import Derived.Lib.Hide
import Derived.Outline
import Derived.ProofKit
import Derived.Test.YtelehfefhlgbkaaDoorG4
import Derived.Test.YtelehfefhlgbkaaDoorG1
import Derived.Test.YtelehfefhlgbkaaDoorG2
import Derived.WalkKit
import Derived.Lib.Bytealg
import Derived.IntWalk
import Derived.Test.YtelehfefhlgbkaaDoorG3
import Derived.Deep.RegionHeld3
import Derived.Deep.AppendLies
import Derived.Test.YtelehfefhlgbkaaDoorRows
import Derived.Lib.LaidTab
import Derived.Lib.ItoaNum
import Derived.Stop.LaidErr
import Derived.MakeChecks
import Derived.Shelf.Strconv.ErrVarAll
/- Tokens as cells, in slices that are read and in rows of one's own. -/
namespace Go.Proofs.YtelehfefhlgbkaaDoor
open Go.RowKit
@[reducible] def Tok.val (t : Tok) : Value := .agg #[.int .i64 t.k, .string ⟨t.s.toArray⟩, .int .i64 t.n, .int .i64 t.x]
def tkv (l : List Tok) : List Value := l.flatMap fun t => [.int .i64 t.k, .string ⟨t.s.toArray⟩, .int .i64 t.n, .int .i64 t.x]
@[simp] theorem tkv_nil : tkv [] = [] := rfl
theorem tkv_cons (t : Tok) (l : List Tok) : tkv (t :: l) = .int .i64 t.k :: .string ⟨t.s.toArray⟩ :: .int .i64 t.n :: .int .i64 t.x :: tkv l := rfl
theorem tkv_append (l m : List Tok) : tkv (l ++ m) = tkv l ++ tkv m := by simp [tkv]
@[simp] theorem tkv_length (l : List Tok) : (tkv l).length = l.length * 4 := by
  induction l with
  | nil => rfl
  | cons s l ih => rw [tkv_cons]; simp only [List.length_cons, ih]; omega
theorem tkv_get (l : List Tok) (j : Nat) (h : j < l.length) : (tkv l)[j * 4]? = some (.int .i64 (l[j]).k) ∧ (tkv l)[j * 4 + 1]? = some (.string ⟨(l[j]).s.toArray⟩) ∧ (tkv l)[j * 4 + 2]? = some (.int .i64 (l[j]).n) ∧ (tkv l)[j * 4 + 3]? = some (.int .i64 (l[j]).x) := by
  induction l generalizing j with
  | nil => simp at h
  | cons s l ih =>
    cases j with
    | zero => exact ⟨rfl, rfl, rfl, rfl⟩
    | succ j =>
      rw [tkv_cons, show (j + 1) * 4 = j * 4 + 1 + 1 + 1 + 1 by omega]
      simpa using ih j (by simpa using h)
theorem tkv_one' (l : List Tok) : ∀ u ∈ tkv l, u.oneCell' = true := by
  intro u hu
  obtain ⟨s, _, hs⟩ := List.mem_flatMap.1 hu
  simp only [List.mem_cons, List.not_mem_nil, or_false] at hs
  rcases hs with rfl | rfl | rfl | rfl <;> rfl
theorem tkv_take (l : List Tok) (k : Nat) : tkv (l.take k) = (tkv l).take (k * 4) := by
  induction l generalizing k with
  | nil => simp
  | cons s l ih =>
    cases k with
    | zero => simp
    | succ k => rw [List.take_succ_cons, tkv_cons, tkv_cons, ih, show (k + 1) * 4 = k * 4 + 1 + 1 + 1 + 1 by omega, List.take_succ_cons, List.take_succ_cons, List.take_succ_cons, List.take_succ_cons]
/-- a slice of tokens reads as l, in a block below N -/
structure TkAt (w : World) (N : Nat) (a : Option Addr) (cap : Nat) (l : List Tok) : Prop where
  hc : l.length ≤ cap
  cell : ∀ j (h : j < l.length), ∃ b o, a = some ⟨b, o, none⟩ ∧ b < N ∧ w.cell? ⟨b, o + j * 4, none⟩ = some (.int .i64 (l[j]).k) ∧ w.cell? ⟨b, o + j * 4 + 1, none⟩ = some (.string ⟨(l[j]).s.toArray⟩) ∧ w.cell? ⟨b, o + j * 4 + 2, none⟩ = some (.int .i64 (l[j]).n) ∧ w.cell? ⟨b, o + j * 4 + 3, none⟩ = some (.int .i64 (l[j]).x)
theorem TkAt.below {w w' : World} {N M : Nat} {a : Option Addr} {cap : Nat} {l : List Tok} (h : TkAt w N a cap l) (hb : Below M w w') (hN : N ≤ M) : TkAt w' N a cap l :=
  ⟨h.hc, fun j hj => by
    obtain ⟨b, o, ha, hbN, h0, h1, h2, h3⟩ := h.cell j hj
    exact ⟨b, o, ha, hbN, (hb.cell (p := ⟨b, o + j * 4, none⟩) (by show b < M; omega)).trans h0, (hb.cell (p := ⟨b, o + j * 4 + 1, none⟩) (by show b < M; omega)).trans h1, (hb.cell (p := ⟨b, o + j * 4 + 2, none⟩) (by show b < M; omega)).trans h2, (hb.cell (p := ⟨b, o + j * 4 + 3, none⟩) (by show b < M; omega)).trans h3⟩⟩
theorem TkAt.mono {w : World} {N M : Nat} {a : Option Addr} {cap : Nat} {l : List Tok} (h : TkAt w N a cap l) (hN : N ≤ M) : TkAt w M a cap l :=
  ⟨h.hc, fun j hj => by
    obtain ⟨b, o, ha, hbN, hr⟩ := h.cell j hj
    exact ⟨b, o, ha, by omega, hr⟩⟩
theorem TkAt.nil (w : World) (N : Nat) (a : Option Addr) (cap : Nat) : TkAt w N a cap [] := ⟨Nat.zero_le _, fun j hj => absurd hj (by simp)⟩
/-- tokens in a row of one's own -/
def OwnT (w : World) (B : Nat) (a : Option Addr) (cap : Nat) (l : List Tok) : Prop := w.ownsRow B 23 4 (.slice a l.length cap) l.length (tkv l)
theorem OwnT.lt {w : World} {B : Nat} {a : Option Addr} {cap : Nat} {l : List Tok} (h : OwnT w B a cap l) : ∀ g, a.map (·.block) = some g → B ≤ g ∧ g < w.heap.size := fun g hg => by
  cases a with
  | none => simp at hg
  | some a => exact World.ownsRow.lt h g (by simpa [Value.ownBlock] using hg)
theorem OwnT.blw {w w' : World} {B : Nat} {a : Option Addr} {cap : Nat} {l : List Tok} (h : OwnT w B a cap l) (hb : Below w.heap.size w w') : OwnT w' B a cap l :=
  own_heap h fun g hg => hb.block g (World.ownsRow.lt h g hg).2
theorem OwnT.base {w : World} {B B' : Nat} {a : Option Addr} {cap : Nat} {l : List Tok} (h : OwnT w B a cap l) (hB : B' ≤ B) : OwnT w B' a cap l := own_base' h hB
theorem OwnT.tkat {w : World} {B : Nat} {a : Option Addr} {cap : Nat} {l : List Tok} (h : OwnT w B a cap l) : TkAt w w.heap.size a cap l :=
  ⟨(own_cap h).2.1, fun j hj => by
    rcases h.2 with ⟨_, h0⟩ | ⟨g, cap', cur, hv, hb, _⟩
    · omega
    · injection hv with h1 h2 h3
      subst h1
      have hlt := (World.ownsRow.lt h g rfl).2
      have hg := tkv_get l j hj
      refine ⟨g, 0, rfl, hlt, ?_, ?_, ?_, ?_⟩
      · rw [Nat.zero_add, World.ownsRow.cellAt h (j * 4) (by omega)]; exact hg.1
      · rw [Nat.zero_add, World.ownsRow.cellAt h (j * 4 + 1) (by omega)]; exact hg.2.1
      · rw [Nat.zero_add, World.ownsRow.cellAt h (j * 4 + 2) (by omega)]; exact hg.2.2.1
      · rw [Nat.zero_add, World.ownsRow.cellAt h (j * 4 + 3) (by omega)]; exact hg.2.2.2⟩
theorem tokenInfo : (Tryd.prog.info? 23).map (fun i => (i.zero, i.size, i.bytes)) = some (some (.agg #[.int .i64 0, .string ⟨#[]⟩, .int .i64 0, .int .i64 0]), 4, 40) := by kernel_rfl
end Go.Proofs.YtelehfefhlgbkaaDoor
/- What the program's byteIn, digitsAt, digitsValue and signed return. -/
namespace Go.Proofs.YtelehfefhlgbkaaDoor
open Go.RowKit
def inS (l set : List UInt8) (i : Nat) : Bool := match l[i]? with
  | some c => set.contains c
  | none => false
theorem find_ge (set : List UInt8) (c : UInt8) : decide (0 ≤ Lib.indexByte set c) = set.contains c := by
  induction set with
  | nil => rfl
  | cons b s ih =>
    have hg := Lib.indexByte_ge s c
    unfold Lib.indexByte
    rw [List.contains_cons, show (c == b) = (b == c) from Bool.beq_comm, ← ih]
    by_cases h : b == c
    · rw [if_pos h, h]; rfl
    · rw [if_neg h, show (b == c) = false by simpa using h, Bool.false_or]
      by_cases h2 : Lib.indexByte s c = -1
      · rw [h2]; rfl
      · rw [if_neg (by simpa using h2)]
        rw [decide_eq_decide]; omega
theorem inS_get {l set : List UInt8} {i : Nat} (h : i < l.length) : inS l set i = set.contains l[i] := by unfold inS; rw [List.getElem?_eq_getElem h]
theorem inS_out {l set : List UInt8} {i : Nat} (h : l.length ≤ i) : inS l set i = false := by unfold inS; rw [List.getElem?_eq_none h]
theorem inS_one (l : List UInt8) (c : UInt8) (i : Nat) : inS l [c] i = atC l i c := by
  rcases Nat.lt_or_ge i l.length with h | h
  · rw [inS_get h, atC_get h]; simp; rfl
  · rw [inS_out h, atC_out h]
theorem inS_two (l : List UInt8) (c d : UInt8) (i : Nat) : inS l [c, d] i = (atC l i c || atC l i d) := by
  rcases Nat.lt_or_ge i l.length with h | h
  · rw [inS_get h, atC_get h, atC_get h]; simp; rfl
  · rw [inS_out h, atC_out h, atC_out h]; rfl
theorem isD_fin : ∀ n : Fin 256, ([48, 49, 50, 51, 52, 53, 54, 55, 56, 57] : List UInt8).contains (UInt8.ofNat n.val) = isD (UInt8.ofNat n.val) := by decide +kernel
theorem isD_list (c : UInt8) : ([48, 49, 50, 51, 52, 53, 54, 55, 56, 57] : List UInt8).contains c = isD c := by
  have h := isD_fin ⟨c.toNat, c.toNat_lt⟩
  rwa [show UInt8.ofNat c.toNat = c by simp] at h
theorem inS_dig (l : List UInt8) (i : Nat) : inS l [48, 49, 50, 51, 52, 53, 54, 55, 56, 57] i = atD l i := by
  rcases Nat.lt_or_ge i l.length with h | h
  · rw [inS_get h, atD_get h, isD_list]
  · rw [inS_out h, atD_out h]
set_option maxRecDepth 20000 in
theorem bytein_any (l set : List UInt8) (i : Nat) (w : World) (hl : l.length ≤ 9223372036854775807) : Calls Tryd.prog 30 #[.string ⟨l.toArray⟩, .int .i64 i, .string ⟨set.toArray⟩] w fun e w' => e = .returned (.bool (inS l set i)) ∧ w = w' := by
  by_cases h : (i : Int) < l.length
  · have hi : i < l.length := by omega
    rw [inS_get hi, ← find_ge]
    have c := Tryd.strings_IndexByte ⟨set.toArray⟩ (l[i].toNat) w
    rw [show ((l[i].toNat : Int)).toNat.toUInt8 = l[i] by simp] at c
    generalize Lib.indexByte (ByteArray.mk set.toArray).data.toList l[i] = r at *
    go_enter Tryd.func30, Tryd.ntmps30
    go_wp2_with (go_at_call 45; refine c.mono ?_; rintro e w' ⟨rfl, rfl⟩)
    go_ret
    exact ⟨rfl, rfl⟩
  · rw [inS_out (by omega)]
    go_enter Tryd.func30, Tryd.ntmps30
    go_wp2
    go_ret
    exact ⟨rfl, rfl⟩
theorem sgn_any (b : Bool) (n : Int) (w : World) (h0 : -9223372036854775807 ≤ n) (h1 : n ≤ 9223372036854775807) : Calls Tryd.prog 82 #[.int .i64 n, .bool b] w fun e w' => e = .returned (.int .i64 (sgnV b n)) ∧ w = w' := by
  unfold sgnV
  cases b
  · go_enter Tryd.func82, Tryd.ntmps82
    go_wp2
    go_ret
    exact ⟨rfl, rfl⟩
  · go_enter Tryd.func82, Tryd.ntmps82
    go_wp2
    go_ret
    exact ⟨rfl, rfl⟩
set_option maxRecDepth 20000 in
theorem digitsat_any (l : List UInt8) (i : Nat) (w : World) (hi : i ≤ l.length) (hl : l.length ≤ 1048576) : Calls Tryd.prog 80 #[.string ⟨l.toArray⟩, .int .i64 i] w fun e w' => e = .returned (.string ⟨(cut l i (dEnd l i)).toArray⟩) ∧ w = w' := by
  have cb := fun k w1 => bytein_any l [48, 49, 50, 51, 52, 53, 54, 55, 56, 57] k w1 (by omega)
  have hL : (l.length : Int) ≤ 1048576 := by omega
  have hI : (i : Int) ≤ l.length := by omega
  go_enter Tryd.func80, Tryd.ntmps80
  go_wp2
  go_loop [5] (fun t => ∃ k : Nat, t = .int .i64 k ∧ Hid (dEnd l k = dEnd l i) ∧ Hid (i ≤ k) ∧ (k : Int) ≤ l.length) (fun t => l.length - (intOf t).toNat)
  case atStart => exact ⟨i, rfl, Lib.hid rfl, Lib.hid (Nat.le_refl _), hI⟩
  case round =>
    obtain ⟨k, rfl, he, hik, hk⟩ := hrel
    have ck := cb k
    rw [inS_dig] at ck
    cases hd : atD l k
    · rw [hd] at ck
      have e1 := he.out
      rw [dEnd_stop hd] at e1
      have hE : Hid (k = dEnd l i) := Lib.hid e1
      have hik2 : (i : Int) ≤ k := by have := hik.out; omega
      have ec := ext_cut l i k
      clear e1 he hik hd
      go_wp2_with (go_at_call 30; refine (ck _).mono ?_; rintro e w' ⟨rfl, rfl⟩)
      go_ret
      refine ⟨?_, rfl⟩
      rw [← hE.out]
      rfl
    · rw [hd] at ck
      have hlt : (k : Int) < l.length := by have := atD_lt hd; omega
      have he2 : Hid (dEnd l (k + 1) = dEnd l i) := Lib.hid (by rw [← he.out, dEnd_step hd])
      have hik2 : Hid (i ≤ k + 1) := Lib.hid (by have := hik.out; omega)
      clear hd he hik hk
      go_wp2_with (go_at_call 30; refine (ck _).mono ?_; rintro e w' ⟨rfl, rfl⟩)
      go_round
      case rel => exact ⟨k + 1, by go_num, he2, hik2, by omega⟩
      case measure => simp [intOf]; omega
theorem isD_iff {c : UInt8} (h : isD c = true) : isDig c := by unfold isD at h; unfold isDig; exact of_decide_eq_true h
theorem val_take {l : List UInt8} {k : Nat} (h : k < l.length) : decVal 0 (l.take (k + 1)) = decVal 0 (l.take k) * 10 + ((l[k]).toNat - 48) := by
  rw [List.take_succ_eq_append_getElem h, decVal_snoc]
theorem val_bound {l : List UInt8} (hd : ∀ c ∈ l, isD c = true) (hl : l.length ≤ 17) (k : Nat) : decVal 0 (l.take k) < 100000000000000000 := by
  have h1 := decVal_lt (l.take k) (fun c hc => isD_iff (hd c (List.mem_of_mem_take hc))) 0
  have h2 : 10 ^ (l.take k).length ≤ 10 ^ 17 := Nat.pow_le_pow_right (by decide) (by rw [List.length_take]; omega)
  omega
set_option maxRecDepth 20000 in
theorem digitsvalue_any (l : List UInt8) (w : World) (hd : ∀ c ∈ l, isD c = true) (hl : l.length ≤ 17) : Calls Tryd.prog 83 #[.string ⟨l.toArray⟩] w fun e w' => e = .returned (.int .i64 (decVal 0 l)) ∧ Below w.heap.size w w' := by
  obtain ⟨cap, w1, hr, hread, hb, _⟩ := conv_bytes w l
  obtain ⟨_, hcell⟩ := slice_cells hread
  have hL : (l.length : Int) ≤ 17 := by omega
  have VB := Lib.hid (val_bound hd hl)
  have HD := Lib.hid hd
  have HC := Lib.hid hcell
  clear hread hcell hd hl
  go_enter Tryd.func83, Tryd.ntmps83
  go_wp2
  go_loop [3, 9] (fun a b => ∃ k n : Nat, a = .int .i64 n ∧ b = .int .i64 k ∧ (k : Int) ≤ l.length ∧ Hid (n = decVal 0 (l.take k))) (fun _ b => l.length - (intOf b).toNat)
  case atStart => exact ⟨0, 0, rfl, rfl, by omega, Lib.hid rfl⟩
  case round =>
    obtain ⟨k, n, rfl, rfl, hk, hn⟩ := hrel
    have hnb : (n : Int) ≤ 100000000000000000 := by have := VB.out k; have := hn.out; omega
    by_cases hlt : (k : Int) < l.length
    · have hkl : k < l.length := by omega
      obtain ⟨x, hx⟩ : ∃ x : Nat, x = (l[k]).toNat := ⟨_, rfl⟩
      have hxd := isD_iff (HD.out l[k] (List.getElem_mem hkl))
      unfold isDig at hxd
      rw [← hx] at hxd
      have x0 : (48 : Int) ≤ x := by omega
      have x1 : (x : Int) ≤ 57 := by omega
      have hc := HC.out k (.int .u8 x) (by rw [List.getElem?_eq_getElem (by simpa using hkl), bv_getElem, hx])
      rw [Nat.zero_add] at hc
      have hn2 : Hid (n * 10 + (x - 48) = decVal 0 (l.take (k + 1))) := Lib.hid (by rw [val_take hkl, ← hn.out, hx])
      have wu : IntKind.u8.wrap ((x : Int) - 48) = (x : Int) - 48 := IntWalk.u8_in _ (by omega)
      clear hxd hkl hx hn
      go_wp2
      go_round
      case rel => exact ⟨k + 1, n * 10 + (x - 48), by congr 1; omega, by go_num, by omega, hn2⟩
      case measure => simp [intOf]; omega
    · have hn2 : Hid (n = decVal 0 l) := Lib.hid (by rw [hn.out, List.take_of_length_le (by omega)])
      go_wp2
      go_ret
      exact ⟨by rw [← hn2.out]; rfl, hb⟩
end Go.Proofs.YtelehfefhlgbkaaDoor
/- Skip and SignOk: the program's and the model's answers. -/
namespace Go.Proofs.YtelehfefhlgbkaaDoor
open Go.RowKit
set_option maxRecDepth 100000
theorem size_k (l : List UInt8) : (ByteArray.mk l.toArray).size = l.length := by simp [ByteArray.size]
theorem inS_sp (l : List UInt8) (i : Nat) : inS l [9, 10, 13, 32] i = atSp l i := rfl
theorem skT_low {l : List UInt8} {a : Int} (h : a < 0) : skT l a = a := by unfold skT; rw [if_neg (by omega)]
theorem skT_nat (l : List UInt8) (i : Nat) : skT l (i : Int) = (skE l i : Nat) := by unfold skT; rw [if_pos (by omega)]; rfl
theorem skE_over {l : List UInt8} {i : Nat} (h : l.length ≤ i) : skE l i = i := skE_stop (atSp_out h)
theorem skip_impl (l : List UInt8) (a : Int) (w : World) (hl : l.length ≤ 1073741824) (h1 : a ≤ 9223372036854775807) :
    Calls Tryd.prog 29 #[.string ⟨l.toArray⟩, .int .i64 a] w fun e w' => e = .returned (.int .i64 (skT l a)) ∧ w = w' := by
  by_cases ha : a < 0
  · rw [skT_low ha]
    go_enter Tryd.func29, Tryd.ntmps29
    go_wp2
    go_ret
    exact ⟨rfl, rfl⟩
  obtain ⟨i, rfl⟩ : ∃ i : Nat, a = i := ⟨a.toNat, by omega⟩
  rw [skT_nat]
  have cb := fun k => bytein_any l [9, 10, 13, 32] k w (by omega)
  have HL := Lib.hid hl
  have H1 := Lib.hid h1
  clear hl h1
  go_enter Tryd.func29, Tryd.ntmps29
  go_wp2
  go_loop [1] (fun t => ∃ k : Nat, t = .int .i64 k ∧ Hid (skE l k = skE l i) ∧ Hid (k = i ∨ k ≤ l.length)) (fun t => l.length - (intOf t).toNat)
  case atStart => exact ⟨i, rfl, Lib.hid rfl, Lib.hid (.inl rfl)⟩
  case round =>
    obtain ⟨k, rfl, he, hk⟩ := hrel
    have ck := cb k
    rw [inS_sp] at ck
    cases hd : atSp l k
    · rw [hd] at ck
      have e1 := he.out
      rw [skE_stop hd] at e1
      have hE : Hid (k = skE l i) := Lib.hid e1
      clear e1 he hd
      go_wp2_with (go_at_call 30; refine ck.mono ?_; rintro e w' ⟨rfl, rfl⟩)
      go_ret
      exact ⟨ret_int (by rw [← hE.out]), rfl⟩
    · rw [hd] at ck
      have hlt : k < l.length := atSp_lt hd
      have hlt2 : (k : Int) ≤ 1073741824 := by have := HL.out; omega
      have he2 : Hid (skE l (k + 1) = skE l i) := Lib.hid (by rw [← he.out, skE_step hd])
      have hk2 : Hid (k + 1 = i ∨ k + 1 ≤ l.length) := Lib.hid (.inr hlt)
      have HT := Lib.hid hlt
      clear hd he hk hlt
      go_wp2_with (go_at_call 30; refine ck.mono ?_; rintro e w' ⟨rfl, rfl⟩)
      go_round
      case rel => exact ⟨k + 1, by go_num, he2, hk2⟩
      case measure => have := HT.out; simp [intOf]; omega
theorem or4 {a b c d : Bool} (h : (a || b || c || d) = false) : a = false ∧ b = false ∧ c = false ∧ d = false := by
  revert h; cases a <;> cases b <;> cases c <;> cases d <;> simp
theorem sp_list (c : UInt8) : isSp c = (((c.toNat : Int) == 9) || ((c.toNat : Int) == 10) || ((c.toNat : Int) == 13) || ((c.toNat : Int) == 32)) := by
  have hall : ∀ n : Fin 256, isSp (UInt8.ofNat n.val) = ((((UInt8.ofNat n.val).toNat : Int) == 9) || (((UInt8.ofNat n.val).toNat : Int) == 10) || (((UInt8.ofNat n.val).toNat : Int) == 13) || (((UInt8.ofNat n.val).toNat : Int) == 32)) := by decide +kernel
  have h := hall ⟨c.toNat, c.toNat_lt⟩
  simpa using h
theorem sk_index (l : List UInt8) (i : Nat) (h : i < l.length) (w : World) : (Instr.index 9 (.string ⟨l.toArray⟩) (.int .i64 i)).run Tryd.prog w = .ok (.int .u8 (l[i]).toNat) w := by
  have := run_index_string (P := Tryd.prog) w 9 ⟨l.toArray⟩ .i64 i Tryd.underlying9
  rw [dif_pos (by rw [size_k]; omega)] at this
  rw [this]
  congr 3
theorem str_at (l : List UInt8) (i : Nat) (c : UInt8) (k : Int) (h : l[i]? = some c) (hk : (c.toNat : Int) = k) (w : World) : (Instr.index 9 (.string ⟨l.toArray⟩) (.int .i64 i)).run Tryd.prog w = .ok (.int .u8 k) w := by
  obtain ⟨hi, e⟩ := List.getElem?_eq_some_iff.1 h
  rw [sk_index l i hi w, e, hk]
set_option maxHeartbeats 1000000 in
theorem skip_spec (l : List UInt8) (a : Int) (w : World) (hl : l.length ≤ 1073741824) (h1 : a ≤ 9223372036854775807) :
    Calls Tryd.prog 23 #[.string ⟨l.toArray⟩, .int .i64 a] w fun e w' => e = .returned (.int .i64 (skT l a)) ∧ w = w' := by
  by_cases ha : a < 0
  · rw [skT_low ha]
    go_enter Tryd.func23, Tryd.ntmps23
    go_wp2
    go_ret
    exact ⟨rfl, rfl⟩
  obtain ⟨i, rfl⟩ : ∃ i : Nat, a = i := ⟨a.toNat, by omega⟩
  rw [skT_nat]
  have hsz := size_k l
  have IX := Lib.hid (fun k c hg => str_at l k c _ hg rfl w)
  have HL := Lib.hid hl
  have ha0 : ¬ ((i : Int) < 0) := by omega
  clear hl h1 ha
  generalize (ByteArray.mk l.toArray) = s at *
  go_enter Tryd.func23, Tryd.ntmps23
  go_wp2
  go_loop [1] (fun t => ∃ k : Nat, t = .int .i64 k ∧ Hid (skE l k = skE l i)) (fun t => l.length - (intOf t).toNat)
  case atStart => exact ⟨i, rfl, Lib.hid rfl⟩
  case round =>
    obtain ⟨k, rfl, he⟩ := hrel
    by_cases hlt : (k : Int) < l.length
    · have hlt' : k < l.length := by omega
      obtain ⟨c, g0⟩ : ∃ c, l[k]? = some c := ⟨_, List.getElem?_eq_getElem hlt'⟩
      have ix := IX.out k _ g0
      have hd0 : atSp l k = isSp c := by unfold atSp; rw [g0]
      have hp := sp_list c
      rw [← hd0] at hp
      have hb : c.toNat < 256 := UInt8.toNat_lt _
      have hlt2 : (k : Int) ≤ 1073741824 := by have := HL.out; omega
      clear g0 hd0 hlt'
      generalize c.toNat = x at *
      cases hd : atSp l k
      · rw [hd] at hp
        have e1 := he.out
        rw [skE_stop hd] at e1
        have hE : Hid (k = skE l i) := Lib.hid e1
        obtain ⟨h9, h10, h13, h32⟩ := or4 hp.symm
        clear e1 he hd hp
        go_wp2
        go_ret
        exact ⟨ret_int (by rw [← hE.out]), rfl⟩
      · rw [hd] at hp
        have he2 : Hid (skE l (k + 1) = skE l i) := Lib.hid (by rw [← he.out, skE_step hd])
        have HP := Lib.hid hp
        have HT := Lib.hid hlt
        clear hd he hp
        by_cases h9 : ((x : Int) == 9) = true
        · go_wp2
          go_round
          case rel => exact ⟨k + 1, by go_num, he2⟩
          case measure => have := HT.out; simp [intOf]; omega
        replace h9 : ((x : Int) == 9) = false := by simpa using h9
        by_cases h10 : ((x : Int) == 10) = true
        · go_wp2
          go_round
          case rel => exact ⟨k + 1, by go_num, he2⟩
          case measure => have := HT.out; simp [intOf]; omega
        replace h10 : ((x : Int) == 10) = false := by simpa using h10
        by_cases h13 : ((x : Int) == 13) = true
        · go_wp2
          go_round
          case rel => exact ⟨k + 1, by go_num, he2⟩
          case measure => have := HT.out; simp [intOf]; omega
        replace h13 : ((x : Int) == 13) = false := by simpa using h13
        have h32 : ((x : Int) == 32) = true := by have := HP.out; rw [h9, h10, h13] at this; simpa using this
        go_wp2
        go_round
        case rel => exact ⟨k + 1, by go_num, he2⟩
        case measure => have := HT.out; simp [intOf]; omega
    · have e1 := he.out
      rw [skE_over (by omega)] at e1
      have hE : Hid (k = skE l i) := Lib.hid e1
      clear e1 he
      go_wp2
      go_ret
      exact ⟨ret_int (by rw [← hE.out]), rfl⟩
/-- SignOk -/
def sgB (l : List UInt8) : Bool := l == [123] || l == [125] || l == [91] || l == [93] || l == [58] || l == [44]
theorem sgB_one (c : UInt8) : sgB [c] = isSg c := by
  have hall : ∀ n : Fin 256, sgB [UInt8.ofNat n.val] = isSg (UInt8.ofNat n.val) := by decide +kernel
  have h := hall ⟨c.toNat, c.toNat_lt⟩
  simpa using h
theorem sgB_len {l : List UInt8} (h : l.length ≠ 1) : sgB l = false := by
  match l, h with
  | [], _ => rfl
  | [c], h => exact absurd rfl h
  | c :: d :: r, _ => unfold sgB; simp
theorem inS_sg (c : UInt8) : inS [c] [123, 125, 91, 93, 58, 44] 0 = isSg c := rfl
theorem signok_spec (l : List UInt8) (w : World) : Calls Tryd.prog 24 #[.string ⟨l.toArray⟩] w fun e w' => e = .returned (.bool (sgB l)) ∧ w = w' := by
  unfold sgB
  by_cases h1 : (l == [123]) = true
  · rw [h1]
    go_enter Tryd.func24, Tryd.ntmps24
    go_wp2
    go_ret
    exact ⟨by simp, rfl⟩
  replace h1 : (l == [123]) = false := by simpa using h1
  by_cases h2 : (l == [125]) = true
  · rw [h1, h2]
    go_enter Tryd.func24, Tryd.ntmps24
    go_wp2
    go_ret
    exact ⟨by simp, rfl⟩
  replace h2 : (l == [125]) = false := by simpa using h2
  by_cases h3 : (l == [91]) = true
  · rw [h1, h2, h3]
    go_enter Tryd.func24, Tryd.ntmps24
    go_wp2
    go_ret
    exact ⟨by simp, rfl⟩
  replace h3 : (l == [91]) = false := by simpa using h3
  by_cases h4 : (l == [93]) = true
  · rw [h1, h2, h3, h4]
    go_enter Tryd.func24, Tryd.ntmps24
    go_wp2
    go_ret
    exact ⟨by simp, rfl⟩
  replace h4 : (l == [93]) = false := by simpa using h4
  by_cases h5 : (l == [58]) = true
  · rw [h1, h2, h3, h4, h5]
    go_enter Tryd.func24, Tryd.ntmps24
    go_wp2
    go_ret
    exact ⟨by simp, rfl⟩
  replace h5 : (l == [58]) = false := by simpa using h5
  rw [h1, h2, h3, h4, h5]
  cases h6 : (l == [44])
  · go_enter Tryd.func24, Tryd.ntmps24
    go_wp2
    go_ret
    exact ⟨by simp, rfl⟩
  · go_enter Tryd.func24, Tryd.ntmps24
    go_wp2
    go_ret
    exact ⟨by simp, rfl⟩
end Go.Proofs.YtelehfefhlgbkaaDoor
/- The hexadecimal digits of bytes: the program's and the model's answers. -/
namespace Go.Proofs.YtelehfefhlgbkaaDoor
open Go.RowKit
def hexS : ByteArray := ⟨#[48, 49, 50, 51, 52, 53, 54, 55, 56, 57, 97, 98, 99, 100, 101, 102]⟩
theorem hex_at (q : Nat) (h : q < 16) (h2 : q < hexS.size) : hexS[q] = hexd q := by
  have h1 : q = 0 ∨ q = 1 ∨ q = 2 ∨ q = 3 ∨ q = 4 ∨ q = 5 ∨ q = 6 ∨ q = 7 ∨ q = 8 ∨ q = 9 ∨ q = 10 ∨ q = 11 ∨ q = 12 ∨ q = 13 ∨ q = 14 ∨ q = 15 := by omega
  rcases h1 with rfl | rfl | rfl | rfl | rfl | rfl | rfl | rfl | rfl | rfl | rfl | rfl | rfl | rfl | rfl | rfl <;> rfl
theorem hex_index (q : Nat) (h : q < 16) (w : World) : (Instr.index 9 (.string ⟨#[48, 49, 50, 51, 52, 53, 54, 55, 56, 57, 97, 98, 99, 100, 101, 102]⟩) (.int .u8 q)).run Tryd.prog w = .ok (.int .u8 (hexd q).toNat) w := by
  have hs : hexS.size = 16 := rfl
  have := run_index_string (P := Tryd.prog) w 9 hexS .u8 q Tryd.underlying9
  rw [dif_pos (by rw [hs]; omega)] at this
  rw [show (⟨#[48, 49, 50, 51, 52, 53, 54, 55, 56, 57, 97, 98, 99, 100, 101, 102]⟩ : ByteArray) = hexS from rfl, this]
  have e := hex_at q h (by rw [hs]; exact h)
  simp only [Int.toNat_natCast]
  rw [e]
theorem grown_undrew {w w' : World} {r : Option Nat} (h : w.drew.grownBy w' r) : w.grownBy w' r := ⟨h.os, h.tape, h.output, h.size, h.block⟩
theorem step_hex {w wr w1 : World} {o : Obj} {g n c cap gg m : Nat} {xs : List Value} (hg : g ≠ w.heap.size + 1) (hs : w.heap.size + 1 < wr.heap.size) (hb : Below w.heap.size w wr) (hR : Reads wr (.slice (some ⟨w.heap.size + 1, 0, none⟩) m cap) xs)
    (hgrow : (wr.alloc o).drew.grownBy w1 (Value.slice (some ⟨g, 0, none⟩) n c).ownBlock) (hat : (Value.slice (some ⟨g, 0, none⟩) n c).ownBlock = some gg ∨ gg = wr.heap.size + 1) (hgb : w.heap.size ≤ g) :
    gg ≠ w.heap.size + 1 ∧ w.heap.size + 1 < w1.heap.size ∧ Reads w1 (.slice (some ⟨w.heap.size + 1, 0, none⟩) m cap) xs ∧ Below w.heap.size w w1 := by
  have hgr := grown_undrew hgrow
  have hsz := hgr.size
  simp at hsz
  refine ⟨?_, by omega, ?_, ?_⟩
  · rcases hat with h | h
    · simp [Value.ownBlock] at h; omega
    · omega
  · exact (hR.below (below_alloc wr o)).only (Only.of_grown hgr) (by simp [Value.ownBlock]; omega)
  · exact (hb.alloc (by omega) o).trans (grown_belowN hgr (by simp; omega) (by simp [Value.ownBlock]; omega))
set_option maxRecDepth 100000 in
theorem hextext_impl (l : List UInt8) (w : World) (hl : l.length ≤ 1099511627776) : Calls Tryd.prog 70 #[.string ⟨l.toArray⟩] w fun e w' => e = .returned (.string ⟨(hexL l).toArray⟩) ∧ Below w.heap.size w w' := by
  obtain ⟨i0, hi, hz0, hz1, hz2⟩ := info_parts byteInfo'
  obtain ⟨cap, w1, hcv, hR, hb, _, _, hR0⟩ := conv_bytes (w.alloc (.cells #[] 5)) l
  have hR0 : w.heap.size + 1 < w1.heap.size := by
    rcases Nat.lt_or_ge (w.alloc (.cells #[] 5)).heap.size w1.heap.size with h | h
    · simpa using h
    · rw [Array.getElem?_eq_none h] at hR0; cases hR0
  have hR : Reads w1 (.slice (some ⟨w.heap.size + 1, 0, none⟩) l.length cap) (bv l) := by simpa using hR
  have hsz := size_l l
  generalize hgs : (ByteArray.mk l.toArray) = s at *
  go_enter Tryd.func70, Tryd.ntmps70
  go_wp2
  go_loopw [3, 5, 10] (fun out _ i wr => ∃ (i' g c : Nat), i = .int .i64 i' ∧ i' ≤ l.length ∧ out = .slice (some ⟨g, 0, none⟩) (2 * i') c ∧ g ≠ w.heap.size + 1 ∧ w.heap.size + 1 < wr.heap.size ∧ wr.ownsRow w.heap.size 5 1 out (2 * i') (bv (hexL (l.take i'))) ∧ Reads wr (.slice (some ⟨w.heap.size + 1, 0, none⟩) l.length cap) (bv l) ∧ Below w.heap.size w wr) (fun _ _ i _ => l.length - (intOf i).toNat)
  case atStart =>
    refine ⟨0, w.heap.size, 0, rfl, Nat.zero_le _, rfl, by omega, ?_, ?_, hR, (below_alloc w _).trans (hb.mono (by simp))⟩
    · exact hR0
    · exact own_below (World.ownsRow_made w #[] 0 (Nat.le_refl _) (by decide) rfl) hb
  case round =>
    obtain ⟨i, g, c, rfl, hi', rfl, hg, hsz, hown, hR, hb⟩ := hrel
    by_cases hlt : i < l.length
    · obtain ⟨_, hcs⟩ := slice_cells hR
      have hcl : wr.cell? ⟨w.heap.size + 1, i, none⟩ = some (.int .u8 (l[i]).toNat) := by have := hcs i _ (by rw [List.getElem?_eq_getElem (by simpa using hlt), bv_getElem]); rw [Nat.zero_add] at this; exact this
      have HT := Lib.hid (hexL_take l i hlt)
      have HL := Lib.hid hlt
      have hc1 : (l[i].toNat : Int) < 256 := by have : l[i].toNat < 256 := UInt8.toNat_lt _; omega
      generalize l[i].toNat = x at *
      have hx0 : (0 : Int) ≤ x := by omega
      have e1 : ((x : Int)).tdiv 16 = ((x / 16 : Nat) : Int) := by rw [Int.tdiv_eq_ediv_of_nonneg (by omega)]; omega
      have e2 : ((x : Int)).tmod 16 = ((x % 16 : Nat) : Int) := by rw [Int.tmod_eq_emod_of_nonneg (by omega)]; omega
      have hq : x / 16 < 16 := by omega
      have hr : x % 16 < 16 := by omega
      generalize x / 16 = q at *
      generalize x % 16 = r at *
      have iq := hex_index q hq
      have ir := hex_index r hr
      have wq : IntKind.u8.wrap (q : Int) = q := by rw [IntKind.wrap_u8']; omega
      have wr' : IntKind.u8.wrap (r : Int) = r := by rw [IntKind.wrap_u8']; omega
      have HG := Lib.hid hg
      have HO := Lib.hid hown
      have HS := Lib.hid hsz
      have HB := Lib.hid hb
      have HR := Lib.hid hR
      have HQ := Lib.hid (And.intro hq hr)
      clear hcs hg hown hsz hb hR hq hr
      go_wp2_with fail
      go_region_held3 (fun _ => True) (trivial) ((refine step_append_lies _ (by rfl) _ _ _ (by rfl) w.heap.size 5 i0 _ 1 1 Tryd.underlying56 hi hz0 hz1 hz2 rfl (by omega) _ (2 * i) _ (by rfl) ((HO.out.alloc _).drew) ⟨wr.heap.size, 0, none⟩ 2 2 [.int .u8 (hexd q).toNat, .int .u8 (hexd r).toNat] (by rfl) (by rfl) (World.news_of_block (cs := #[.int .u8 (hexd q).toNat, .int .u8 (hexd r).toNat]) (t := 5) (fr := (0, 0)) (heap_alloc_new wr _)) (by simp [Value.oneCell']) (by omega) (by unfold maxLen; omega) (by omega) (by simp; have := HB.out.size; omega) (wr.heap.size + 1) (by simp) ?_; intro gg cap w1 hown1 hgrow hat hlt))
      all_goals
        have hx := step_hex HG.out HS.out HB.out HR.out hgrow hat (HO.out.lt g rfl).1
        have HX := Lib.hid hx
        have HW := Lib.hid hown1
        clear hx hown1 hgrow hat hlt hcl e1 e2 iq ir wq wr'
        go_wp2
        go_roundw
        case rel =>
          refine ⟨i + 1, gg, cap, by go_num, HL.out, by rw [show 2 * (i + 1) = 2 * i + 2 by omega], HX.out.1, HX.out.2.1, ?_, HX.out.2.2.1, HX.out.2.2.2⟩
          rw [HT.out, bv_append, show 2 * (i + 1) = 2 * i + 2 by omega]
          exact HW.out
        case measure => have := HL.out; simp [intOf]; omega
    · obtain rfl : i = l.length := by omega
      rw [List.take_of_length_le (Nat.le_refl _)] at hown
      have hcv2 := conv_str wr _ _ (own_slc hown)
      generalize hs : (ByteArray.mk (hexL l).toArray) = s2 at hcv2
      have HS := Lib.hid hs
      have HB := Lib.hid hb
      clear hown hb hs hR hcv hg hsz
      go_wp2
      go_ret
      exact ⟨by rw [HS.out]; rfl, HB.out⟩
theorem hx_index (l : List UInt8) (i : Nat) (h : i < l.length) (w : World) : (Instr.index 9 (.string ⟨l.toArray⟩) (.int .i64 i)).run Tryd.prog w = .ok (.int .u8 (l[i]).toNat) w := by
  have := run_index_string (P := Tryd.prog) w 9 ⟨l.toArray⟩ .i64 i Tryd.underlying9
  rw [dif_pos (by rw [size_l]; omega)] at this
  rw [this]
  congr 3
theorem u8_and15 (n : Nat) : bits .and .u8 n 15 = ((n % 16 : Nat) : Int) := by
  have h15 : (BitVec.ofInt 8 15).toNat = 2 ^ 4 - 1 := by decide
  have key : (BitVec.ofInt 8 (n : Int) &&& BitVec.ofInt 8 15).toNat = n % 16 := by
    rw [BitVec.toNat_and, BitVec.toNat_ofInt, h15, Nat.and_two_pow_sub_one_eq_mod]
    omega
  show IntKind.u8.wrap ((BitVec.ofInt 8 (n : Int) &&& BitVec.ofInt 8 15).toNat : Nat) = _
  rw [key, IntKind.wrap_u8']
  omega
set_option maxRecDepth 100000 in
theorem hextext_spec (l : List UInt8) (w : World) (hl : l.length ≤ 1099511627776) : Calls Tryd.prog 68 #[.string ⟨l.toArray⟩] w fun e w' => e = .returned (.string ⟨(hexL l).toArray⟩) ∧ Below w.heap.size w w' := by
  obtain ⟨i0, hi, hz0, hz1, hz2⟩ := info_parts byteInfo'
  have hsz := size_l l
  have IX := Lib.hid (hx_index l)
  generalize hgs : (ByteArray.mk l.toArray) = s at *
  clear hgs
  go_enter Tryd.func68, Tryd.ntmps68
  go_wp2
  go_loopw [3, 4] (fun out i wr => ∃ (i' g c : Nat), i = .int .i64 i' ∧ i' ≤ l.length ∧ out = .slice (some ⟨g, 0, none⟩) (2 * i') c ∧ wr.ownsRow w.heap.size 5 1 out (2 * i') (bv (hexL (l.take i'))) ∧ Below w.heap.size w wr) (fun _ i _ => l.length - (intOf i).toNat)
  case atStart => exact ⟨0, w.heap.size, 0, rfl, Nat.zero_le _, rfl, World.ownsRow_made w #[] 0 (Nat.le_refl _) (by decide) rfl, below_alloc w _⟩
  case round =>
    obtain ⟨i, g, c, rfl, hi', rfl, hown, hb⟩ := hrel
    by_cases hlt : i < l.length
    · have ix := IX.out i hlt
      have HT := Lib.hid (hexL_take l i hlt)
      have HL := Lib.hid hlt
      have hc1 : (l[i].toNat : Int) < 256 := by have : l[i].toNat < 256 := UInt8.toNat_lt _; omega
      generalize l[i].toNat = x at *
      have hx0 : (0 : Int) ≤ x := by omega
      have e1 : ((x : Int)) / 16 = ((x / 16 : Nat) : Int) := by omega
      have e2 := u8_and15 x
      have hq : x / 16 < 16 := by omega
      have hr : x % 16 < 16 := by omega
      generalize x / 16 = q at *
      generalize x % 16 = r at *
      have iq := hex_index q hq
      have ir := hex_index r hr
      have wq : IntKind.u8.wrap (q : Int) = q := by rw [IntKind.wrap_u8']; omega
      have wr' : IntKind.u8.wrap (r : Int) = r := by rw [IntKind.wrap_u8']; omega
      have HO := Lib.hid hown
      have HB := Lib.hid hb
      clear hown hb hq hr
      go_wp2_with fail
      go_region_held3 (fun _ => True) (trivial) ((refine step_append_lies _ (by rfl) _ _ _ (by rfl) w.heap.size 5 i0 _ 1 1 Tryd.underlying56 hi hz0 hz1 hz2 rfl (by omega) _ (2 * i) _ (by rfl) ((HO.out.alloc _).drew) ⟨wr.heap.size, 0, none⟩ 2 2 [.int .u8 (hexd q).toNat, .int .u8 (hexd r).toNat] (by rfl) (by rfl) (World.news_of_block (cs := #[.int .u8 (hexd q).toNat, .int .u8 (hexd r).toNat]) (t := 5) (fr := (0, 0)) (heap_alloc_new wr _)) (by simp [Value.oneCell']) (by omega) (by unfold maxLen; omega) (by omega) (by simp; have := HB.out.size; omega) (wr.heap.size + 1) (by simp) ?_; intro gg cap w1 hown1 hgrow hat hlt))
      all_goals
        have hb1 := (HB.out.alloc HB.out.size _).trans (grown_belowN (grown_undrew hgrow) (by simp; have := HB.out.size; omega) (by simp [Value.ownBlock]; exact (HO.out.lt g rfl).1))
        have HX := Lib.hid hb1
        have HW := Lib.hid hown1
        clear hb1 hown1 hgrow hat hlt e1 e2 iq ir wq wr' ix
        go_wp2
        go_roundw
        case rel =>
          refine ⟨i + 1, gg, cap, by go_num, HL.out, by rw [show 2 * (i + 1) = 2 * i + 2 by omega], ?_, HX.out⟩
          rw [HT.out, bv_append, show 2 * (i + 1) = 2 * i + 2 by omega]
          exact HW.out
        case measure => have := HL.out; simp [intOf]; omega
    · obtain rfl : i = l.length := by omega
      rw [List.take_of_length_le (Nat.le_refl _)] at hown
      have hcv2 := conv_str wr _ _ (own_slc hown)
      generalize hs : (ByteArray.mk (hexL l).toArray) = s2 at hcv2
      have HS := Lib.hid hs
      have HB := Lib.hid hb
      clear hown hb hs
      go_wp2
      go_ret
      exact ⟨by rw [HS.out]; rfl, HB.out⟩
end Go.Proofs.YtelehfefhlgbkaaDoor
/- The bytes that hexadecimal digits stand for: the program's and the model's answers. -/
namespace Go.Proofs.YtelehfefhlgbkaaDoor
open Go.RowKit
def unhexT (l : List UInt8) : Value := match unhex l with
  | some r => .tuple #[.string ⟨r.toArray⟩, .bool true]
  | none => .tuple #[.string ⟨#[]⟩, .bool false]
theorem unhexT_some {l r : List UInt8} (h : unhex l = some r) : unhexT l = .tuple #[.string ⟨r.toArray⟩, .bool true] := by unfold unhexT; rw [h]
theorem unhexT_none {l : List UInt8} (h : unhex l = none) : unhexT l = .tuple #[.string ⟨#[]⟩, .bool false] := by unfold unhexT; rw [h]
theorem hex_find (c : UInt8) : Lib.indexByte [48, 49, 50, 51, 52, 53, 54, 55, 56, 57, 97, 98, 99, 100, 101, 102] c = hexv c := by
  have : ∀ n : Fin 256, Lib.indexByte [48, 49, 50, 51, 52, 53, 54, 55, 56, 57, 97, 98, 99, 100, 101, 102] (UInt8.ofNat n.val) = hexv (UInt8.ofNat n.val) := by decide +kernel
  have h := this ⟨c.toNat, UInt8.toNat_lt c⟩
  simpa using h
def pre (l : List UInt8) (i : Nat) (p : List UInt8) : Prop := p.length = i ∧ 2 * i ≤ l.length ∧ unhex l = (unhex (l.drop (2 * i))).map (p ++ ·)
theorem pre_start (l : List UInt8) : pre l 0 [] := ⟨rfl, Nat.zero_le _, by simp⟩
theorem pre_step {l p : List UInt8} {i : Nat} (h : pre l i p) (hi : 2 * i + 1 < l.length) (h1 : 0 ≤ hexv l[2 * i]) (h2 : 0 ≤ hexv l[2 * i + 1]) : pre l (i + 1) (p ++ [UInt8.ofNat (16 * hexv l[2 * i] + hexv l[2 * i + 1]).toNat]) := by
  obtain ⟨a, b, c⟩ := h
  refine ⟨by simp [a], by omega, ?_⟩
  rw [c, unhex_step l i hi, if_pos ⟨h1, h2⟩, Option.map_map]
  congr 1
  funext r
  simp
theorem prex_bad {l p : List UInt8} {i : Nat} (h : pre l i p) (hi : 2 * i + 1 < l.length) (h1 : ¬ (0 ≤ hexv l[2 * i] ∧ 0 ≤ hexv l[2 * i + 1])) : unhex l = none := by
  obtain ⟨a, b, c⟩ := h
  rw [c, unhex_step l i hi, if_neg h1]
  rfl
theorem pre_end {l p : List UInt8} {i : Nat} (h : pre l i p) (hi : ¬ 2 * i + 1 < l.length) (he : l.length = 2 * i) : unhex l = some p := by
  obtain ⟨a, b, c⟩ := h
  rw [c, unhex_end l i hi b, if_pos he]
  simp
theorem pre_odd {l p : List UInt8} {i : Nat} (h : pre l i p) (hi : ¬ 2 * i + 1 < l.length) (he : ¬ l.length = 2 * i) : unhex l = none := by
  obtain ⟨a, b, c⟩ := h
  rw [c, unhex_end l i hi b, if_neg he]
  rfl
theorem unhex_odd : ∀ (n : Nat) (l : List UInt8), l.length ≤ n → l.length % 2 = 1 → unhex l = none
  | _, [], _, h => by simp at h
  | _, [a], _, h => rfl
  | 0, a :: b :: l, hn, h => by simp at hn
  | n + 1, a :: b :: l, hn, h => by
    rw [unhex, unhex_odd n l (by simp at hn; omega) (by simp at h; omega)]
    split <;> rfl
theorem find_any (x : UInt8) (w : World) : Calls Tryd.prog 45 #[.string ⟨#[48, 49, 50, 51, 52, 53, 54, 55, 56, 57, 97, 98, 99, 100, 101, 102]⟩, .int .u8 x.toNat] w fun e w' => e = .returned (.int .i64 (hexv x)) ∧ w = w' := by
  have := Tryd.strings_IndexByte ⟨#[48, 49, 50, 51, 52, 53, 54, 55, 56, 57, 97, 98, 99, 100, 101, 102]⟩ x.toNat w
  have e : (x.toNat : Int).toNat.toUInt8 = x := by simp
  rw [e, show (ByteArray.mk #[48, 49, 50, 51, 52, 53, 54, 55, 56, 57, 97, 98, 99, 100, 101, 102]).data.toList = [48, 49, 50, 51, 52, 53, 54, 55, 56, 57, 97, 98, 99, 100, 101, 102] from rfl, hex_find] at this
  exact this.mono fun _ _ h => ⟨h.1, h.2.symm⟩
theorem l3hex_any (x : UInt8) (w : World) : Calls Tryd.prog 88 #[.int .u8 x.toNat] w fun e w' => e = .returned (.int .i64 (hexv x)) ∧ w = w' := by
  have hx : (x.toNat : Int) < 256 := by have : x.toNat < 256 := UInt8.toNat_lt x; omega
  by_cases h1 : 48 ≤ x.toNat ∧ x.toNat ≤ 57
  · have e : hexv x = x.toNat - 48 := by unfold hexv; rw [if_pos h1]
    rw [e]
    have a1 : (48 : Int) ≤ x.toNat := by omega
    have a2 : (x.toNat : Int) ≤ 57 := by omega
    generalize x.toNat = n at *
    clear h1 e
    go_enter Tryd.func88, Tryd.ntmps88
    go_wp2_with (go_at_call 26; refine (in_yes _ _ _ _ a1 a2).mono ?_; rintro e w' ⟨rfl, rfl⟩)
    go_ret
    exact ⟨rfl, rfl⟩
  by_cases h2 : 97 ≤ x.toNat ∧ x.toNat ≤ 102
  · have e : hexv x = x.toNat - 87 := by unfold hexv; rw [if_neg h1, if_pos h2]
    rw [e]
    have a1 : (97 : Int) ≤ x.toNat := by omega
    have a2 : (x.toNat : Int) ≤ 102 := by omega
    generalize x.toNat = n at *
    clear h1 h2 e
    have c1 := in_no n 48 57 w (by omega)
    have c2 := in_yes n 97 102 w a1 a2
    go_enter Tryd.func88, Tryd.ntmps88
    go_wp2_with fail
    refine c1.mono ?_
    rintro e w' ⟨rfl, rfl⟩
    go_wp2_with fail
    refine c2.mono ?_
    rintro e w' ⟨rfl, rfl⟩
    go_wp2
    go_ret
    exact ⟨ret_int (by omega), rfl⟩
  · have e : hexv x = -1 := by unfold hexv; rw [if_neg h1, if_neg h2]
    rw [e]
    generalize x.toNat = n at *
    have c1 := in_no n 48 57 w (by omega)
    have c2 := in_no n 97 102 w (by omega)
    clear h1 h2 e
    go_enter Tryd.func88, Tryd.ntmps88
    go_wp2_with fail
    refine c1.mono ?_
    rintro e w' ⟨rfl, rfl⟩
    go_wp2_with fail
    refine c2.mono ?_
    rintro e w' ⟨rfl, rfl⟩
    go_wp2
    go_ret
    exact ⟨rfl, rfl⟩
theorem hx_indexZ (l : List UInt8) (i : Nat) (z : Int) (hz : z = i) (h : i < l.length) (w : World) : (Instr.index 9 (.string ⟨l.toArray⟩) (.int .i64 z)).run Tryd.prog w = .ok (.int .u8 (l[i]).toNat) w := by subst hz; exact hx_index l i h w
theorem hex_byte {a b : Int} (ha : 0 ≤ a) (ha2 : a ≤ 15) (hb : 0 ≤ b) (hb2 : b ≤ 15) : bv [UInt8.ofNat (16 * a + b).toNat] = [.int .u8 (16 * a + b)] := by
  have : (UInt8.ofNat (16 * a + b).toNat).toNat = (16 * a + b).toNat % 256 := by simp
  simp only [bv, List.map_cons, List.map_nil, this]
  congr 2
  omega
end Go.Proofs.YtelehfefhlgbkaaDoor
/- What a row's list of package-level variables gives: the library's table holds its numbers, the two errors of strconv are set. -/
namespace Go.Proofs.YtelehfefhlgbkaaDoor
theorem gPow : Tryd.prog.globalNamed "internal/strconv.uint64pow10" = some 3 := by kernel_rfl
theorem gPowType : (Tryd.prog.globals[3]?).map (·.type) = some 129 := by kernel_rfl
theorem cellsPow : Tryd.prog.cellsOf 129 = 20 := by kernel_rfl
theorem cellsU64 : Tryd.prog.cellsOf 116 = 1 := by kernel_rfl
theorem tabs_pow10 {a b : String × DataW Unit} {r : List (String × DataW Unit)} {W : World} (h : laidMet Tryd.prog (a :: b :: ("internal/strconv.uint64pow10", Rows.laid_internal_strconv_uint64pow10) :: r) W) : Lib.TabIs Tryd.prog W "internal/strconv.uint64pow10" .u64 Lib.pow10Tab :=
  Lib.tabIs_of_head (rest := r) gPow gPowType Tryd.underlying129 Tryd.underlying116 cellsU64 cellsPow h.tail.tail
theorem gES : Tryd.prog.globalNamed "strconv.ErrSyntax" = some 6 := by kernel_rfl
theorem gER : Tryd.prog.globalNamed "strconv.ErrRange" = some 7 := by kernel_rfl
theorem gESType : (Tryd.prog.globals[6]?).map (·.type) = some 74 := by kernel_rfl
theorem gERType : (Tryd.prog.globals[7]?).map (·.type) = some 74 := by kernel_rfl
theorem cellsErr : Tryd.prog.cellsOf 148 = 1 := by kernel_rfl
theorem cellsStr : Tryd.prog.cellsOf 9 = 1 := by kernel_rfl
theorem starStr : "*" ++ "errors.errorString" = "*errors.errorString" := by decide
theorem rowErr (u : TypeId) (h : Tryd.prog.typeName? 3 u = some "*errors.errorString") : u = 146 :=
  typeName_ptr_named (nm := "errors.errorString") (by rw [starStr]; kernel_rfl) (by kernel_rfl) (by decide) u (by rw [starStr]; exact h)
theorem errs_of {a b c : String × DataW Unit} {r : List (String × DataW Unit)} {W : World} (h : laidMet Tryd.prog (a :: b :: c :: ("strconv.ErrRange", Rows.laid_strconv_ErrRange) :: ("strconv.ErrSyntax", Rows.laid_strconv_ErrSyntax) :: r) W) :
    (∃ ps, W.var? Tryd.prog "strconv.ErrSyntax" = some #[.iface 146 ps]) ∧ (∃ pr, W.var? Tryd.prog "strconv.ErrRange" = some #[.iface 146 pr]) := by
  have h1 := h.tail.tail.tail
  obtain ⟨a0, _, hv0, _⟩ := laid_sentinel h1 gER gERType Tryd.underlying74 rowErr Tryd.underlying146 Tryd.underlying148 rfl rfl Tryd.underlying9 cellsErr cellsStr
  obtain ⟨a1, _, hv1, _⟩ := laid_sentinel h1.tail gES gESType Tryd.underlying74 rowErr Tryd.underlying146 Tryd.underlying148 rfl rfl Tryd.underlying9 cellsErr cellsStr
  exact ⟨⟨_, hv1⟩, ⟨_, hv0⟩⟩
end Go.Proofs.YtelehfefhlgbkaaDoor
