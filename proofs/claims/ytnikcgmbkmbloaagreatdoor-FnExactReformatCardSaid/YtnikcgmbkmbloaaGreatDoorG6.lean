import Derived.Test.YtnikcgmbkmbloaaGreatDoorG0
import Derived.Test.YtnikcgmbkmbloaaGreatDoorG5
import Derived.Lib.Hide
import Derived.Outline
import Derived.ProofKit
import Derived.Test.YtnikcgmbkmbloaaGreatDoorG4
import Derived.Test.YtnikcgmbkmbloaaGreatDoorG1
import Derived.Test.YtnikcgmbkmbloaaGreatDoorG2
import Derived.WalkKit
import Derived.Lib.Bytealg
import Derived.IntWalk
/- Tokens as cells, in slices that are read and in rows of one's own. -/
namespace Go.Proofs.YtnikcgmbkmbloaaGreatDoor
open Go.RowKit
@[reducible] def Tok.val (t : Tok) : Value := .agg #[.int .i64 t.k, .string ⟨t.s.toArray⟩, .int .i64 t.n, .int .i64 t.x]
def tkv (l : List Tok) : List Value := l.flatMap fun t => [.int .i64 t.k, .string ⟨t.s.toArray⟩, .int .i64 t.n, .int .i64 t.x]
@[simp] theorem tkv_nil : tkv [] = [] := rfl
theorem tkv_cons (t : Tok) (l : List Tok) : tkv (t :: l) = .int .i64 t.k :: .string ⟨t.s.toArray⟩ :: .int .i64 t.n :: .int .i64 t.x :: tkv l := rfl
theorem tkv_append (l m : List Tok) : tkv (l ++ m) = tkv l ++ tkv m := by simp [tkv]
@[simp] theorem tkv_length (l : List Tok) : (tkv l).length = l.length * 4 := by
  induction l with
  | nil => rfl
  | cons s l ih => rw [tkv_cons]; simp only [List.length_cons, ih]; omega
theorem tkv_get (l : List Tok) (j : Nat) (h : j < l.length) : (tkv l)[j * 4]? = some (.int .i64 (l[j]).k) ∧ (tkv l)[j * 4 + 1]? = some (.string ⟨(l[j]).s.toArray⟩) ∧ (tkv l)[j * 4 + 2]? = some (.int .i64 (l[j]).n) ∧ (tkv l)[j * 4 + 3]? = some (.int .i64 (l[j]).x) := by
  induction l generalizing j with
  | nil => simp at h
  | cons s l ih =>
    cases j with
    | zero => exact ⟨rfl, rfl, rfl, rfl⟩
    | succ j =>
      rw [tkv_cons, show (j + 1) * 4 = j * 4 + 1 + 1 + 1 + 1 by omega]
      simpa using ih j (by simpa using h)
theorem tkv_one' (l : List Tok) : ∀ u ∈ tkv l, u.oneCell' = true := by
  intro u hu
  obtain ⟨s, _, hs⟩ := List.mem_flatMap.1 hu
  simp only [List.mem_cons, List.not_mem_nil, or_false] at hs
  rcases hs with rfl | rfl | rfl | rfl <;> rfl
theorem tkv_take (l : List Tok) (k : Nat) : tkv (l.take k) = (tkv l).take (k * 4) := by
  induction l generalizing k with
  | nil => simp
  | cons s l ih =>
    cases k with
    | zero => simp
    | succ k => rw [List.take_succ_cons, tkv_cons, tkv_cons, ih, show (k + 1) * 4 = k * 4 + 1 + 1 + 1 + 1 by omega, List.take_succ_cons, List.take_succ_cons, List.take_succ_cons, List.take_succ_cons]
/-- a slice of tokens reads as l, in a block below N -/
structure TkAt (w : World) (N : Nat) (a : Option Addr) (cap : Nat) (l : List Tok) : Prop where
  hc : l.length ≤ cap
  cell : ∀ j (h : j < l.length), ∃ b o, a = some ⟨b, o, none⟩ ∧ b < N ∧ w.cell? ⟨b, o + j * 4, none⟩ = some (.int .i64 (l[j]).k) ∧ w.cell? ⟨b, o + j * 4 + 1, none⟩ = some (.string ⟨(l[j]).s.toArray⟩) ∧ w.cell? ⟨b, o + j * 4 + 2, none⟩ = some (.int .i64 (l[j]).n) ∧ w.cell? ⟨b, o + j * 4 + 3, none⟩ = some (.int .i64 (l[j]).x)
theorem TkAt.below {w w' : World} {N M : Nat} {a : Option Addr} {cap : Nat} {l : List Tok} (h : TkAt w N a cap l) (hb : Below M w w') (hN : N ≤ M) : TkAt w' N a cap l :=
  ⟨h.hc, fun j hj => by
    obtain ⟨b, o, ha, hbN, h0, h1, h2, h3⟩ := h.cell j hj
    exact ⟨b, o, ha, hbN, (hb.cell (p := ⟨b, o + j * 4, none⟩) (by show b < M; omega)).trans h0, (hb.cell (p := ⟨b, o + j * 4 + 1, none⟩) (by show b < M; omega)).trans h1, (hb.cell (p := ⟨b, o + j * 4 + 2, none⟩) (by show b < M; omega)).trans h2, (hb.cell (p := ⟨b, o + j * 4 + 3, none⟩) (by show b < M; omega)).trans h3⟩⟩
theorem TkAt.mono {w : World} {N M : Nat} {a : Option Addr} {cap : Nat} {l : List Tok} (h : TkAt w N a cap l) (hN : N ≤ M) : TkAt w M a cap l :=
  ⟨h.hc, fun j hj => by
    obtain ⟨b, o, ha, hbN, hr⟩ := h.cell j hj
    exact ⟨b, o, ha, by omega, hr⟩⟩
theorem TkAt.nil (w : World) (N : Nat) (a : Option Addr) (cap : Nat) : TkAt w N a cap [] := ⟨Nat.zero_le _, fun j hj => absurd hj (by simp)⟩
/-- tokens in a row of one's own -/
def OwnT (w : World) (B : Nat) (a : Option Addr) (cap : Nat) (l : List Tok) : Prop := w.ownsRow B 76 4 (.slice a l.length cap) l.length (tkv l)
theorem OwnT.lt {w : World} {B : Nat} {a : Option Addr} {cap : Nat} {l : List Tok} (h : OwnT w B a cap l) : ∀ g, a.map (·.block) = some g → B ≤ g ∧ g < w.heap.size := fun g hg => by
  cases a with
  | none => simp at hg
  | some a => exact World.ownsRow.lt h g (by simpa [Value.ownBlock] using hg)
theorem OwnT.blw {w w' : World} {B : Nat} {a : Option Addr} {cap : Nat} {l : List Tok} (h : OwnT w B a cap l) (hb : Below w.heap.size w w') : OwnT w' B a cap l :=
  own_heap h fun g hg => hb.block g (World.ownsRow.lt h g hg).2
theorem OwnT.base {w : World} {B B' : Nat} {a : Option Addr} {cap : Nat} {l : List Tok} (h : OwnT w B a cap l) (hB : B' ≤ B) : OwnT w B' a cap l := own_base' h hB
theorem OwnT.tkat {w : World} {B : Nat} {a : Option Addr} {cap : Nat} {l : List Tok} (h : OwnT w B a cap l) : TkAt w w.heap.size a cap l :=
  ⟨(own_cap h).2.1, fun j hj => by
    rcases h.2 with ⟨_, h0⟩ | ⟨g, cap', cur, hv, hb, _⟩
    · omega
    · injection hv with h1 h2 h3
      subst h1
      have hlt := (World.ownsRow.lt h g rfl).2
      have hg := tkv_get l j hj
      refine ⟨g, 0, rfl, hlt, ?_, ?_, ?_, ?_⟩
      · rw [Nat.zero_add, World.ownsRow.cellAt h (j * 4) (by omega)]; exact hg.1
      · rw [Nat.zero_add, World.ownsRow.cellAt h (j * 4 + 1) (by omega)]; exact hg.2.1
      · rw [Nat.zero_add, World.ownsRow.cellAt h (j * 4 + 2) (by omega)]; exact hg.2.2.1
      · rw [Nat.zero_add, World.ownsRow.cellAt h (j * 4 + 3) (by omega)]; exact hg.2.2.2⟩
theorem tokenInfo : (Tryz.prog.info? 76).map (fun i => (i.zero, i.size, i.bytes)) = some (some (.agg #[.int .i64 0, .string ⟨#[]⟩, .int .i64 0, .int .i64 0]), 4, 40) := by kernel_rfl
end Go.Proofs.YtnikcgmbkmbloaaGreatDoor
/- What the program's byteIn, digitsAt, digitsValue and signed return. -/
namespace Go.Proofs.YtnikcgmbkmbloaaGreatDoor
open Go.RowKit
def inS (l set : List UInt8) (i : Nat) : Bool := match l[i]? with
  | some c => set.contains c
  | none => false
theorem find_ge (set : List UInt8) (c : UInt8) : decide (0 ≤ Lib.indexByte set c) = set.contains c := by
  induction set with
  | nil => rfl
  | cons b s ih =>
    have hg := Lib.indexByte_ge s c
    unfold Lib.indexByte
    rw [List.contains_cons, show (c == b) = (b == c) from Bool.beq_comm, ← ih]
    by_cases h : b == c
    · rw [if_pos h, h]; rfl
    · rw [if_neg h, show (b == c) = false by simpa using h, Bool.false_or]
      by_cases h2 : Lib.indexByte s c = -1
      · rw [h2]; rfl
      · rw [if_neg (by simpa using h2)]
        rw [decide_eq_decide]; omega
theorem inS_get {l set : List UInt8} {i : Nat} (h : i < l.length) : inS l set i = set.contains l[i] := by unfold inS; rw [List.getElem?_eq_getElem h]
theorem inS_out {l set : List UInt8} {i : Nat} (h : l.length ≤ i) : inS l set i = false := by unfold inS; rw [List.getElem?_eq_none h]
theorem inS_one (l : List UInt8) (c : UInt8) (i : Nat) : inS l [c] i = atC l i c := by
  rcases Nat.lt_or_ge i l.length with h | h
  · rw [inS_get h, atC_get h]; simp; rfl
  · rw [inS_out h, atC_out h]
theorem inS_two (l : List UInt8) (c d : UInt8) (i : Nat) : inS l [c, d] i = (atC l i c || atC l i d) := by
  rcases Nat.lt_or_ge i l.length with h | h
  · rw [inS_get h, atC_get h, atC_get h]; simp; rfl
  · rw [inS_out h, atC_out h, atC_out h]; rfl
theorem isD_fin : ∀ n : Fin 256, ([48, 49, 50, 51, 52, 53, 54, 55, 56, 57] : List UInt8).contains (UInt8.ofNat n.val) = isD (UInt8.ofNat n.val) := by decide +kernel
theorem isD_list (c : UInt8) : ([48, 49, 50, 51, 52, 53, 54, 55, 56, 57] : List UInt8).contains c = isD c := by
  have h := isD_fin ⟨c.toNat, c.toNat_lt⟩
  rwa [show UInt8.ofNat c.toNat = c by simp] at h
theorem inS_dig (l : List UInt8) (i : Nat) : inS l [48, 49, 50, 51, 52, 53, 54, 55, 56, 57] i = atD l i := by
  rcases Nat.lt_or_ge i l.length with h | h
  · rw [inS_get h, atD_get h, isD_list]
  · rw [inS_out h, atD_out h]
set_option maxRecDepth 20000 in
theorem bytein_any (l set : List UInt8) (i : Nat) (w : World) (hl : l.length ≤ 9223372036854775807) : Calls Tryz.prog 133 #[.string ⟨l.toArray⟩, .int .i64 i, .string ⟨set.toArray⟩] w fun e w' => e = .returned (.bool (inS l set i)) ∧ w = w' := by
  by_cases h : (i : Int) < l.length
  · have hi : i < l.length := by omega
    rw [inS_get hi, ← find_ge]
    have c := Tryz.strings_IndexByte ⟨set.toArray⟩ (l[i].toNat) w
    rw [show ((l[i].toNat : Int)).toNat.toUInt8 = l[i] by simp] at c
    generalize Lib.indexByte (ByteArray.mk set.toArray).data.toList l[i] = r at *
    go_enter Tryz.func133, Tryz.ntmps133
    go_wp2_with (go_at_call 173; refine c.mono ?_; rintro e w' ⟨rfl, rfl⟩)
    go_ret
    exact ⟨rfl, rfl⟩
  · rw [inS_out (by omega)]
    go_enter Tryz.func133, Tryz.ntmps133
    go_wp2
    go_ret
    exact ⟨rfl, rfl⟩
theorem sgn_any (b : Bool) (n : Int) (w : World) (h0 : -9223372036854775807 ≤ n) (h1 : n ≤ 9223372036854775807) : Calls Tryz.prog 236 #[.int .i64 n, .bool b] w fun e w' => e = .returned (.int .i64 (sgnV b n)) ∧ w = w' := by
  unfold sgnV
  cases b
  · go_enter Tryz.func236, Tryz.ntmps236
    go_wp2
    go_ret
    exact ⟨rfl, rfl⟩
  · go_enter Tryz.func236, Tryz.ntmps236
    go_wp2
    go_ret
    exact ⟨rfl, rfl⟩
set_option maxRecDepth 20000 in
theorem digitsat_any (l : List UInt8) (i : Nat) (w : World) (hi : i ≤ l.length) (hl : l.length ≤ 1048576) : Calls Tryz.prog 234 #[.string ⟨l.toArray⟩, .int .i64 i] w fun e w' => e = .returned (.string ⟨(cut l i (dEnd l i)).toArray⟩) ∧ w = w' := by
  have cb := fun k w1 => bytein_any l [48, 49, 50, 51, 52, 53, 54, 55, 56, 57] k w1 (by omega)
  have hL : (l.length : Int) ≤ 1048576 := by omega
  have hI : (i : Int) ≤ l.length := by omega
  go_enter Tryz.func234, Tryz.ntmps234
  go_wp2
  go_loop [5] (fun t => ∃ k : Nat, t = .int .i64 k ∧ Hid (dEnd l k = dEnd l i) ∧ Hid (i ≤ k) ∧ (k : Int) ≤ l.length) (fun t => l.length - (intOf t).toNat)
  case atStart => exact ⟨i, rfl, Lib.hid rfl, Lib.hid (Nat.le_refl _), hI⟩
  case round =>
    obtain ⟨k, rfl, he, hik, hk⟩ := hrel
    have ck := cb k
    rw [inS_dig] at ck
    cases hd : atD l k
    · rw [hd] at ck
      have e1 := he.out
      rw [dEnd_stop hd] at e1
      have hE : Hid (k = dEnd l i) := Lib.hid e1
      have hik2 : (i : Int) ≤ k := by have := hik.out; omega
      have ec := ext_cut l i k
      clear e1 he hik hd
      go_wp2_with (go_at_call 133; refine (ck _).mono ?_; rintro e w' ⟨rfl, rfl⟩)
      go_ret
      refine ⟨?_, rfl⟩
      rw [← hE.out]
      rfl
    · rw [hd] at ck
      have hlt : (k : Int) < l.length := by have := atD_lt hd; omega
      have he2 : Hid (dEnd l (k + 1) = dEnd l i) := Lib.hid (by rw [← he.out, dEnd_step hd])
      have hik2 : Hid (i ≤ k + 1) := Lib.hid (by have := hik.out; omega)
      clear hd he hik hk
      go_wp2_with (go_at_call 133; refine (ck _).mono ?_; rintro e w' ⟨rfl, rfl⟩)
      go_round
      case rel => exact ⟨k + 1, by go_num, he2, hik2, by omega⟩
      case measure => simp [intOf]; omega
theorem isD_iff {c : UInt8} (h : isD c = true) : isDig c := by unfold isD at h; unfold isDig; exact of_decide_eq_true h
theorem val_take {l : List UInt8} {k : Nat} (h : k < l.length) : decVal 0 (l.take (k + 1)) = decVal 0 (l.take k) * 10 + ((l[k]).toNat - 48) := by
  rw [List.take_succ_eq_append_getElem h, decVal_snoc]
theorem val_bound {l : List UInt8} (hd : ∀ c ∈ l, isD c = true) (hl : l.length ≤ 17) (k : Nat) : decVal 0 (l.take k) < 100000000000000000 := by
  have h1 := decVal_lt (l.take k) (fun c hc => isD_iff (hd c (List.mem_of_mem_take hc))) 0
  have h2 : 10 ^ (l.take k).length ≤ 10 ^ 17 := Nat.pow_le_pow_right (by decide) (by rw [List.length_take]; omega)
  omega
set_option maxRecDepth 20000 in
theorem digitsvalue_any (l : List UInt8) (w : World) (hd : ∀ c ∈ l, isD c = true) (hl : l.length ≤ 17) : Calls Tryz.prog 237 #[.string ⟨l.toArray⟩] w fun e w' => e = .returned (.int .i64 (decVal 0 l)) ∧ Below w.heap.size w w' := by
  obtain ⟨cap, w1, hr, hread, hb, _⟩ := conv_bytes w l
  obtain ⟨_, hcell⟩ := slice_cells hread
  have hL : (l.length : Int) ≤ 17 := by omega
  have VB := Lib.hid (val_bound hd hl)
  have HD := Lib.hid hd
  have HC := Lib.hid hcell
  clear hread hcell hd hl
  go_enter Tryz.func237, Tryz.ntmps237
  go_wp2
  go_loop [3, 9] (fun a b => ∃ k n : Nat, a = .int .i64 n ∧ b = .int .i64 k ∧ (k : Int) ≤ l.length ∧ Hid (n = decVal 0 (l.take k))) (fun _ b => l.length - (intOf b).toNat)
  case atStart => exact ⟨0, 0, rfl, rfl, by omega, Lib.hid rfl⟩
  case round =>
    obtain ⟨k, n, rfl, rfl, hk, hn⟩ := hrel
    have hnb : (n : Int) ≤ 100000000000000000 := by have := VB.out k; have := hn.out; omega
    by_cases hlt : (k : Int) < l.length
    · have hkl : k < l.length := by omega
      obtain ⟨x, hx⟩ : ∃ x : Nat, x = (l[k]).toNat := ⟨_, rfl⟩
      have hxd := isD_iff (HD.out l[k] (List.getElem_mem hkl))
      unfold isDig at hxd
      rw [← hx] at hxd
      have x0 : (48 : Int) ≤ x := by omega
      have x1 : (x : Int) ≤ 57 := by omega
      have hc := HC.out k (.int .u8 x) (by rw [List.getElem?_eq_getElem (by simpa using hkl), bv_getElem, hx])
      rw [Nat.zero_add] at hc
      have hn2 : Hid (n * 10 + (x - 48) = decVal 0 (l.take (k + 1))) := Lib.hid (by rw [val_take hkl, ← hn.out, hx])
      have wu : IntKind.u8.wrap ((x : Int) - 48) = (x : Int) - 48 := IntWalk.u8_in _ (by omega)
      clear hxd hkl hx hn
      go_wp2
      go_round
      case rel => exact ⟨k + 1, n * 10 + (x - 48), by congr 1; omega, by go_num, by omega, hn2⟩
      case measure => simp [intOf]; omega
    · have hn2 : Hid (n = decVal 0 l) := Lib.hid (by rw [hn.out, List.take_of_length_le (by omega)])
      go_wp2
      go_ret
      exact ⟨by rw [← hn2.out]; rfl, hb⟩
end Go.Proofs.YtnikcgmbkmbloaaGreatDoor
/- Skip and SignOk: the program's and the model's answers. -/
namespace Go.Proofs.YtnikcgmbkmbloaaGreatDoor
open Go.RowKit
set_option maxRecDepth 100000
theorem size_k (l : List UInt8) : (ByteArray.mk l.toArray).size = l.length := by simp [ByteArray.size]
theorem inS_sp (l : List UInt8) (i : Nat) : inS l [9, 10, 13, 32] i = atSp l i := rfl
theorem skT_low {l : List UInt8} {a : Int} (h : a < 0) : skT l a = a := by unfold skT; rw [if_neg (by omega)]
theorem skT_nat (l : List UInt8) (i : Nat) : skT l (i : Int) = (skE l i : Nat) := by unfold skT; rw [if_pos (by omega)]; rfl
theorem skE_over {l : List UInt8} {i : Nat} (h : l.length ≤ i) : skE l i = i := skE_stop (atSp_out h)
theorem skip_impl (l : List UInt8) (a : Int) (w : World) (hl : l.length ≤ 1073741824) (h1 : a ≤ 9223372036854775807) :
    Calls Tryz.prog 132 #[.string ⟨l.toArray⟩, .int .i64 a] w fun e w' => e = .returned (.int .i64 (skT l a)) ∧ w = w' := by
  by_cases ha : a < 0
  · rw [skT_low ha]
    go_enter Tryz.func132, Tryz.ntmps132
    go_wp2
    go_ret
    exact ⟨rfl, rfl⟩
  obtain ⟨i, rfl⟩ : ∃ i : Nat, a = i := ⟨a.toNat, by omega⟩
  rw [skT_nat]
  have cb := fun k => bytein_any l [9, 10, 13, 32] k w (by omega)
  have HL := Lib.hid hl
  have H1 := Lib.hid h1
  clear hl h1
  go_enter Tryz.func132, Tryz.ntmps132
  go_wp2
  go_loop [1] (fun t => ∃ k : Nat, t = .int .i64 k ∧ Hid (skE l k = skE l i) ∧ Hid (k = i ∨ k ≤ l.length)) (fun t => l.length - (intOf t).toNat)
  case atStart => exact ⟨i, rfl, Lib.hid rfl, Lib.hid (.inl rfl)⟩
  case round =>
    obtain ⟨k, rfl, he, hk⟩ := hrel
    have ck := cb k
    rw [inS_sp] at ck
    cases hd : atSp l k
    · rw [hd] at ck
      have e1 := he.out
      rw [skE_stop hd] at e1
      have hE : Hid (k = skE l i) := Lib.hid e1
      clear e1 he hd
      go_wp2_with (go_at_call 133; refine ck.mono ?_; rintro e w' ⟨rfl, rfl⟩)
      go_ret
      exact ⟨ret_int (by rw [← hE.out]), rfl⟩
    · rw [hd] at ck
      have hlt : k < l.length := atSp_lt hd
      have hlt2 : (k : Int) ≤ 1073741824 := by have := HL.out; omega
      have he2 : Hid (skE l (k + 1) = skE l i) := Lib.hid (by rw [← he.out, skE_step hd])
      have hk2 : Hid (k + 1 = i ∨ k + 1 ≤ l.length) := Lib.hid (.inr hlt)
      have HT := Lib.hid hlt
      clear hd he hk hlt
      go_wp2_with (go_at_call 133; refine ck.mono ?_; rintro e w' ⟨rfl, rfl⟩)
      go_round
      case rel => exact ⟨k + 1, by go_num, he2, hk2⟩
      case measure => have := HT.out; simp [intOf]; omega
theorem or4 {a b c d : Bool} (h : (a || b || c || d) = false) : a = false ∧ b = false ∧ c = false ∧ d = false := by
  revert h; cases a <;> cases b <;> cases c <;> cases d <;> simp
theorem sp_list (c : UInt8) : isSp c = (((c.toNat : Int) == 9) || ((c.toNat : Int) == 10) || ((c.toNat : Int) == 13) || ((c.toNat : Int) == 32)) := by
  have hall : ∀ n : Fin 256, isSp (UInt8.ofNat n.val) = ((((UInt8.ofNat n.val).toNat : Int) == 9) || (((UInt8.ofNat n.val).toNat : Int) == 10) || (((UInt8.ofNat n.val).toNat : Int) == 13) || (((UInt8.ofNat n.val).toNat : Int) == 32)) := by decide +kernel
  have h := hall ⟨c.toNat, c.toNat_lt⟩
  simpa using h
theorem sk_index (l : List UInt8) (i : Nat) (h : i < l.length) (w : World) : (Instr.index 9 (.string ⟨l.toArray⟩) (.int .i64 i)).run Tryz.prog w = .ok (.int .u8 (l[i]).toNat) w := by
  have := run_index_string (P := Tryz.prog) w 9 ⟨l.toArray⟩ .i64 i Tryz.underlying9
  rw [dif_pos (by rw [size_k]; omega)] at this
  rw [this]
  congr 3
theorem str_at (l : List UInt8) (i : Nat) (c : UInt8) (k : Int) (h : l[i]? = some c) (hk : (c.toNat : Int) = k) (w : World) : (Instr.index 9 (.string ⟨l.toArray⟩) (.int .i64 i)).run Tryz.prog w = .ok (.int .u8 k) w := by
  obtain ⟨hi, e⟩ := List.getElem?_eq_some_iff.1 h
  rw [sk_index l i hi w, e, hk]
set_option maxHeartbeats 1000000 in
theorem skip_spec (l : List UInt8) (a : Int) (w : World) (hl : l.length ≤ 1073741824) (h1 : a ≤ 9223372036854775807) :
    Calls Tryz.prog 147 #[.string ⟨l.toArray⟩, .int .i64 a] w fun e w' => e = .returned (.int .i64 (skT l a)) ∧ w = w' := by
  by_cases ha : a < 0
  · rw [skT_low ha]
    go_enter Tryz.func147, Tryz.ntmps147
    go_wp2
    go_ret
    exact ⟨rfl, rfl⟩
  obtain ⟨i, rfl⟩ : ∃ i : Nat, a = i := ⟨a.toNat, by omega⟩
  rw [skT_nat]
  have hsz := size_k l
  have IX := Lib.hid (fun k c hg => str_at l k c _ hg rfl w)
  have HL := Lib.hid hl
  have ha0 : ¬ ((i : Int) < 0) := by omega
  clear hl h1 ha
  generalize (ByteArray.mk l.toArray) = s at *
  go_enter Tryz.func147, Tryz.ntmps147
  go_wp2
  go_loop [1] (fun t => ∃ k : Nat, t = .int .i64 k ∧ Hid (skE l k = skE l i)) (fun t => l.length - (intOf t).toNat)
  case atStart => exact ⟨i, rfl, Lib.hid rfl⟩
  case round =>
    obtain ⟨k, rfl, he⟩ := hrel
    by_cases hlt : (k : Int) < l.length
    · have hlt' : k < l.length := by omega
      obtain ⟨c, g0⟩ : ∃ c, l[k]? = some c := ⟨_, List.getElem?_eq_getElem hlt'⟩
      have ix := IX.out k _ g0
      have hd0 : atSp l k = isSp c := by unfold atSp; rw [g0]
      have hp := sp_list c
      rw [← hd0] at hp
      have hb : c.toNat < 256 := UInt8.toNat_lt _
      have hlt2 : (k : Int) ≤ 1073741824 := by have := HL.out; omega
      clear g0 hd0 hlt'
      generalize c.toNat = x at *
      cases hd : atSp l k
      · rw [hd] at hp
        have e1 := he.out
        rw [skE_stop hd] at e1
        have hE : Hid (k = skE l i) := Lib.hid e1
        obtain ⟨h9, h10, h13, h32⟩ := or4 hp.symm
        clear e1 he hd hp
        go_wp2
        go_ret
        exact ⟨ret_int (by rw [← hE.out]), rfl⟩
      · rw [hd] at hp
        have he2 : Hid (skE l (k + 1) = skE l i) := Lib.hid (by rw [← he.out, skE_step hd])
        have HP := Lib.hid hp
        have HT := Lib.hid hlt
        clear hd he hp
        by_cases h9 : ((x : Int) == 9) = true
        · go_wp2
          go_round
          case rel => exact ⟨k + 1, by go_num, he2⟩
          case measure => have := HT.out; simp [intOf]; omega
        replace h9 : ((x : Int) == 9) = false := by simpa using h9
        by_cases h10 : ((x : Int) == 10) = true
        · go_wp2
          go_round
          case rel => exact ⟨k + 1, by go_num, he2⟩
          case measure => have := HT.out; simp [intOf]; omega
        replace h10 : ((x : Int) == 10) = false := by simpa using h10
        by_cases h13 : ((x : Int) == 13) = true
        · go_wp2
          go_round
          case rel => exact ⟨k + 1, by go_num, he2⟩
          case measure => have := HT.out; simp [intOf]; omega
        replace h13 : ((x : Int) == 13) = false := by simpa using h13
        have h32 : ((x : Int) == 32) = true := by have := HP.out; rw [h9, h10, h13] at this; simpa using this
        go_wp2
        go_round
        case rel => exact ⟨k + 1, by go_num, he2⟩
        case measure => have := HT.out; simp [intOf]; omega
    · have e1 := he.out
      rw [skE_over (by omega)] at e1
      have hE : Hid (k = skE l i) := Lib.hid e1
      clear e1 he
      go_wp2
      go_ret
      exact ⟨ret_int (by rw [← hE.out]), rfl⟩
/-- SignOk -/
def sgB (l : List UInt8) : Bool := l == [123] || l == [125] || l == [91] || l == [93] || l == [58] || l == [44]
theorem sgB_one (c : UInt8) : sgB [c] = isSg c := by
  have hall : ∀ n : Fin 256, sgB [UInt8.ofNat n.val] = isSg (UInt8.ofNat n.val) := by decide +kernel
  have h := hall ⟨c.toNat, c.toNat_lt⟩
  simpa using h
theorem sgB_len {l : List UInt8} (h : l.length ≠ 1) : sgB l = false := by
  match l, h with
  | [], _ => rfl
  | [c], h => exact absurd rfl h
  | c :: d :: r, _ => unfold sgB; simp
theorem inS_sg (c : UInt8) : inS [c] [123, 125, 91, 93, 58, 44] 0 = isSg c := rfl
theorem signok_spec (l : List UInt8) (w : World) : Calls Tryz.prog 148 #[.string ⟨l.toArray⟩] w fun e w' => e = .returned (.bool (sgB l)) ∧ w = w' := by
  unfold sgB
  by_cases h1 : (l == [123]) = true
  · rw [h1]
    go_enter Tryz.func148, Tryz.ntmps148
    go_wp2
    go_ret
    exact ⟨by simp, rfl⟩
  replace h1 : (l == [123]) = false := by simpa using h1
  by_cases h2 : (l == [125]) = true
  · rw [h1, h2]
    go_enter Tryz.func148, Tryz.ntmps148
    go_wp2
    go_ret
    exact ⟨by simp, rfl⟩
  replace h2 : (l == [125]) = false := by simpa using h2
  by_cases h3 : (l == [91]) = true
  · rw [h1, h2, h3]
    go_enter Tryz.func148, Tryz.ntmps148
    go_wp2
    go_ret
    exact ⟨by simp, rfl⟩
  replace h3 : (l == [91]) = false := by simpa using h3
  by_cases h4 : (l == [93]) = true
  · rw [h1, h2, h3, h4]
    go_enter Tryz.func148, Tryz.ntmps148
    go_wp2
    go_ret
    exact ⟨by simp, rfl⟩
  replace h4 : (l == [93]) = false := by simpa using h4
  by_cases h5 : (l == [58]) = true
  · rw [h1, h2, h3, h4, h5]
    go_enter Tryz.func148, Tryz.ntmps148
    go_wp2
    go_ret
    exact ⟨by simp, rfl⟩
  replace h5 : (l == [58]) = false := by simpa using h5
  rw [h1, h2, h3, h4, h5]
  cases h6 : (l == [44])
  · go_enter Tryz.func148, Tryz.ntmps148
    go_wp2
    go_ret
    exact ⟨by simp, rfl⟩
  · go_enter Tryz.func148, Tryz.ntmps148
    go_wp2
    go_ret
    exact ⟨by simp, rfl⟩
end Go.Proofs.YtnikcgmbkmbloaaGreatDoor
