import Derived.Test.YtnikcgmbkmbloaaGreatDoorG16
import Derived.Test.YtnikcgmbkmbloaaGreatDoorG13
import Derived.Test.YtnikcgmbkmbloaaGreatDoorG7
/- JoinTokens: the program's and the model's answers. -/
namespace Go.Proofs.YtnikcgmbkmbloaaGreatDoor
open Go.RowKit
set_option maxRecDepth 100000
/-- the numbers of a token are ints -/
structure NumIn (t : Tok) : Prop where
  n0 : -9223372036854775808 ≤ t.n
  n1 : t.n ≤ 9223372036854775807
  x0 : -9223372036854775808 ≤ t.x
  x1 : t.x ≤ 9223372036854775807
def wtS (l : List Tok) : Nat := (l.map fun t => t.s.length + 1).sum
theorem wtS_cons (t : Tok) (l : List Tok) : wtS (t :: l) = t.s.length + 1 + wtS l := by simp [wtS]
theorem wtS_take (l : List Tok) (i : Nat) : wtS (l.take i) ≤ wtS l := by
  induction l generalizing i with
  | nil => simp [wtS]
  | cons t l ih =>
    cases i with
    | zero => simp [wtS]
    | succ i => rw [List.take_succ_cons, wtS_cons, wtS_cons]; have := ih i; omega
theorem wtS_len (l : List Tok) : l.length ≤ wtS l := by
  induction l with
  | nil => exact Nat.zero_le _
  | cons t l ih => rw [wtS_cons, List.length_cons]; omega
theorem wtS_mem {l : List Tok} {t : Tok} (h : t ∈ l) : t.s.length ≤ wtS l := by
  induction l with
  | nil => cases h
  | cons u l ih =>
    rw [wtS_cons]
    rcases List.mem_cons.1 h with rfl | h
    · omega
    · have := ih h; omega
theorem itoa_20 (n : Int) (h0 : -9223372036854775808 ≤ n) (h1 : n ≤ 9223372036854775807) : (Lib.itoa n).length ≤ 20 := by
  have h := dec_len 18 n.natAbs (by omega)
  by_cases hn : n < 0
  · rw [itoa_lt hn, List.length_cons]; omega
  · rw [itoa_ge hn]; omega
theorem tokText_len (t : Tok) (h : NumIn t) : (tokText t).length ≤ 6 * t.s.length + 50 := by
  unfold tokText
  split
  · omega
  · split
    · have := quoteL_len t.s; omega
    · split
      · have h1 := itoa_20 t.n h.n0 h.n1
        have h2 := itoa_20 t.x h.x0 h.x1
        split
        · omega
        · simp only [List.length_append, List.length_cons]; omega
      · simp
theorem joinT_len : ∀ (l : List Tok), (∀ t ∈ l, NumIn t) → (joinT l).length ≤ 60 * wtS l
  | [], _ => by rw [joinT_nil]; exact Nat.zero_le _
  | [t], h => by
    rw [joinT_one, wtS_cons]
    have := tokText_len t (h t List.mem_cons_self)
    omega
  | t :: u :: r, h => by
    rw [joinT_cons, wtS_cons]
    have h1 := tokText_len t (h t List.mem_cons_self)
    have h2 := joinT_len (u :: r) (fun x hx => h x (List.mem_cons_of_mem _ hx))
    simp only [List.length_append, List.length_cons]
    omega
theorem joinT_snoc : ∀ (l : List Tok) (t : Tok), l ≠ [] → joinT (l ++ [t]) = joinT l ++ 32 :: tokText t
  | [], _, h => absurd rfl h
  | [u], t, _ => by rw [List.singleton_append, joinT_cons, joinT_one, joinT_one]
  | u :: v :: r, t, _ => by
    have ih := joinT_snoc (v :: r) t (by simp)
    rw [List.cons_append, List.cons_append, joinT_cons, ← List.cons_append, ih, joinT_cons, List.append_assoc]
    rfl
theorem joinT_take {l : List Tok} {i : Nat} (h : i < l.length) (h0 : i ≠ 0) : joinT (l.take (i + 1)) = joinT (l.take i) ++ 32 :: tokText l[i] := by
  rw [List.take_succ_eq_append_getElem h]
  exact joinT_snoc _ _ (by intro e; have := congrArg List.length e; rw [List.length_take, List.length_nil] at this; omega)
theorem joinT_take0 {l : List Tok} (h : 0 < l.length) : joinT (l.take 1) = tokText l[0] := by
  rw [show (1 : Nat) = 0 + 1 from rfl, List.take_succ_eq_append_getElem h]
  simp [joinT_one]
theorem ba_sp (a b : List UInt8) : (ByteArray.mk a.toArray) ++ (ByteArray.mk #[32]) ++ (ByteArray.mk b.toArray) = ByteArray.mk (a ++ 32 :: b).toArray := by
  apply ByteArray.ext; simp
theorem ba_nil (b : List UInt8) : (ByteArray.mk #[]) ++ (ByteArray.mk b.toArray) = ByteArray.mk b.toArray := by
  apply ByteArray.ext; simp
set_option maxHeartbeats 2000000 in
theorem jointok_spec (l : List Tok) (a : Option Addr) (cap : Nat) (w : World) (N : Nat) (h : TkAt w N a cap l) (hN : N ≤ w.heap.size) (hl : wtS l ≤ 8388608) (hn : ∀ t ∈ l, NumIn t) :
    Calls Tryz.prog 66 #[.slice a l.length cap] w fun e w' => e = .returned (.string ⟨(joinT l).toArray⟩) ∧ Below w.heap.size w w' := by
  have H := Lib.hid h
  have HNN := Lib.hid hN
  have HL := Lib.hid (fun i => show (joinT (l.take i)).length ≤ 503316480 by
    have h1 := joinT_len (l.take i) (fun t ht => hn t (List.mem_of_mem_take ht))
    have h2 := wtS_take l i
    omega)
  have hlen : (l.length : Int) ≤ 8388608 := by have := wtS_len l; omega
  have CT := Lib.hid (fun (i : Nat) (hi : i < l.length) (W : World) => toktext_spec l[i] W (by have := wtS_mem (List.getElem_mem hi); omega) (hn _ (List.getElem_mem hi)).n0 (hn _ (List.getElem_mem hi)).n1 (hn _ (List.getElem_mem hi)).x0 (hn _ (List.getElem_mem hi)).x1)
  have HTL := Lib.hid (fun (i : Nat) (hi : i < l.length) => show (tokText l[i]).length ≤ 503316480 by
    have h1 := tokText_len l[i] (hn _ (List.getElem_mem hi))
    have h2 := wtS_mem (List.getElem_mem hi)
    omega)
  clear h hN hl hn
  go_enter Tryz.func66, Tryz.ntmps66
  go_wp2
  go_loopw [3, 4] (fun s i wr => ∃ i' : Nat, i = .int .i64 i' ∧ s = .string ⟨(joinT (l.take i')).toArray⟩ ∧ i' ≤ l.length ∧ Hid (Below w.heap.size w wr)) (fun _ i _ => l.length - (intOf i).toNat)
  case atStart => exact ⟨0, rfl, by simp [joinT_nil], Nat.zero_le _, Lib.hid (Below.refl _ _)⟩
  case round =>
    obtain ⟨i', rfl, rfl, hi', HB⟩ := hrel
    by_cases hlt : i' < l.length
    · obtain ⟨b, o, rfl, hbN, c0, c1, c2, c3⟩ := H.out.cell i' hlt
      replace c0 := (HB.out.cell (p := ⟨b, o + i' * 4, none⟩) (by have := HNN.out; show b < w.heap.size; omega)).trans c0
      replace c1 := (HB.out.cell (p := ⟨b, o + i' * 4 + 1, none⟩) (by have := HNN.out; show b < w.heap.size; omega)).trans c1
      replace c2 := (HB.out.cell (p := ⟨b, o + i' * 4 + 2, none⟩) (by have := HNN.out; show b < w.heap.size; omega)).trans c2
      replace c3 := (HB.out.cell (p := ⟨b, o + i' * 4 + 3, none⟩) (by have := HNN.out; show b < w.heap.size; omega)).trans c3
      have ct := CT.out i' hlt wr
      have hl1 := HL.out i'
      have hl2 := HTL.out i' hlt
      have HJ := Lib.hid (fun (h0 : i' ≠ 0) => joinT_take hlt h0)
      have HJ0 := Lib.hid (fun (h0 : i' = 0) => show joinT (l.take (i' + 1)) = tokText l[i'] by subst h0; exact joinT_take0 hlt)
      generalize hT : l[i'] = t at *
      obtain ⟨k, st, n, x⟩ := t
      simp only [Tok.val] at ct c0 c1 c2 c3
      generalize tokText ⟨k, st, n, x⟩ = T at *
      have CT1 := Lib.hid ct
      clear hT ct
      by_cases h0 : i' = 0
      · have HE := Lib.hid (HJ0.out h0)
        have hz : ¬ ((0 : Int) < i') := by omega
        have hnil : joinT (l.take i') = [] := by rw [h0]; rfl
        rw [hnil]
        have HI := Lib.hid h0
        clear h0 hnil HJ HJ0 hl1
        have hb1 : ¬ (9223372036854775807 < T.length) := by omega
        go_wp2_with fail
        refine CT1.out.mono ?_
        rintro e w2 ⟨rfl, hb2⟩
        have HB2 := Lib.hid (HB.out.trans (hb2.mono HB.out.size))
        clear hb2 CT1 c0 c1 c2 c3
        go_wp2
        go_roundw
        case rel => exact ⟨i' + 1, by go_num, by rw [HE.out, ← ba_nil T]; first | rfl | simp, by omega, HB2⟩
        case measure => simp [intOf]; omega
      · have HE := Lib.hid (HJ.out h0)
        have hz : (0 : Int) < i' := by omega
        clear h0 HJ HJ0
        generalize joinT (l.take i') = J at *
        have hb1 : ¬ (9223372036854775807 < J.length + 1) := by omega
        have hb2 : ¬ (9223372036854775807 < J.length + 1 + T.length) := by omega
        go_wp2_with fail
        refine CT1.out.mono ?_
        rintro e w2 ⟨rfl, hb2⟩
        have HB2 := Lib.hid (HB.out.trans (hb2.mono HB.out.size))
        clear hb2 CT1 c0 c1 c2 c3
        go_wp2
        go_roundw
        case rel => exact ⟨i' + 1, by go_num, by rw [HE.out, ← ba_sp], by omega, HB2⟩
        case measure => simp [intOf]; omega
    · have heq : i' = l.length := by omega
      have HE : Hid (joinT (l.take i') = joinT l) := Lib.hid (by rw [heq, List.take_length])
      generalize joinT (l.take i') = J at *
      clear heq
      go_wp2
      go_ret
      exact ⟨by rw [← HE.out]; rfl, HB.out⟩
def txv (l : List Tok) : List Value := l.map fun t => .string ⟨(tokText t).toArray⟩
@[simp] theorem txv_length (l : List Tok) : (txv l).length = l.length := by simp [txv]
theorem txv_append (l m : List Tok) : txv (l ++ m) = txv l ++ txv m := by simp [txv]
theorem strInfo : (Tryz.prog.info? 9).map (fun i => (i.zero, i.size, i.bytes)) = some (some (.string ⟨#[]⟩), 1, 16) := by kernel_rfl
theorem ownX_made (w : World) : (w.alloc (.cells #[] 9)).ownsRow w.heap.size 9 1 (.slice (some ⟨w.heap.size, 0, none⟩) 0 0) 0 [] := World.ownsRow_made (e := 9) (size := 1) w #[] 0 (Nat.le_refl _) (by decide) rfl
theorem join_eq (l : List Tok) : Lib.join ((l.map fun t => (⟨(tokText t).toArray⟩ : ByteArray)).map (·.data.toList)) (ByteArray.mk #[32]).data.toList = joinT l := by
  unfold joinT
  rw [List.map_map]
  congr 1
set_option maxHeartbeats 2000000 in
theorem jointok_impl (l : List Tok) (a : Option Addr) (cap : Nat) (w : World) (N : Nat) (h : TkAt w N a cap l) (hN : N ≤ w.heap.size) (hl : wtS l ≤ 8388608) (hn : ∀ t ∈ l, NumIn t) (htab : Lib.TabIs Tryz.prog w "internal/strconv.uint64pow10" .u64 Lib.pow10Tab) :
    Calls Tryz.prog 65 #[.slice a l.length cap] w fun e w' => e = .returned (.string ⟨(joinT l).toArray⟩) ∧ Below w.heap.size w w' := by
  obtain ⟨i0, hi, hz0, hz1, hz2⟩ := info_parts strInfo
  have H := Lib.hid h
  have HNN := Lib.hid hN
  have HJL := Lib.hid (show (joinT l).length ≤ 503316480 by have h1 := joinT_len l hn; omega)
  have hlen : (l.length : Int) ≤ 8388608 := by have := wtS_len l; omega
  have HLN := Lib.hid hlen
  have CT := Lib.hid (fun (i : Nat) (hi : i < l.length) (W : World) (hb : Below w.heap.size w W) => toktext_impl l[i] W (by have := wtS_mem (List.getElem_mem hi); omega) (hn _ (List.getElem_mem hi)).n0 (hn _ (List.getElem_mem hi)).n1 (hn _ (List.getElem_mem hi)).x0 (hn _ (List.getElem_mem hi)).x1 (tab_blw hb htab))
  have HW0 := Lib.hid (ownX_made w)
  have HB0 := Lib.hid (vbox w (.cells #[] 9))
  clear h hN hl hn htab
  go_enter Tryz.func65, Tryz.ntmps65
  go_wp2
  generalize w.alloc (.cells #[] 9) = w1 at *
  go_loopw [3, 9] (fun s i wr => ∃ i' : Nat, i = .int .i64 i' ∧ i' ≤ l.length ∧ Hid (wr.ownsRow w.heap.size 9 1 s i' (txv (l.take i'))) ∧ Hid (s ≠ .slice none 0 0) ∧ Hid (Below w.heap.size w wr)) (fun _ i _ => l.length - (intOf i).toNat)
  case atStart => exact ⟨0, rfl, Nat.zero_le _, HW0, Lib.hid (by simp), HB0⟩
  case round =>
    obtain ⟨i', rfl, hi', HO, HNL, HB⟩ := hrel
    by_cases hlt : i' < l.length
    · obtain ⟨b, o, rfl, hbN, c0, c1, c2, c3⟩ := H.out.cell i' hlt
      replace c0 := (HB.out.cell (p := ⟨b, o + i' * 4, none⟩) (by have := HNN.out; show b < w.heap.size; omega)).trans c0
      replace c1 := (HB.out.cell (p := ⟨b, o + i' * 4 + 1, none⟩) (by have := HNN.out; show b < w.heap.size; omega)).trans c1
      replace c2 := (HB.out.cell (p := ⟨b, o + i' * 4 + 2, none⟩) (by have := HNN.out; show b < w.heap.size; omega)).trans c2
      replace c3 := (HB.out.cell (p := ⟨b, o + i' * 4 + 3, none⟩) (by have := HNN.out; show b < w.heap.size; omega)).trans c3
      have CT1 := Lib.hid (fun W hb => CT.out i' hlt W hb)
      have HS := Lib.hid (show txv (l.take (i' + 1)) = txv (l.take i') ++ [.string ⟨(tokText l[i']).toArray⟩] by rw [List.take_succ_eq_append_getElem hlt, txv_append]; rfl)
      have CT2 := CT1.out
      generalize l[i'] = t at *
      obtain ⟨k, st, n, x⟩ := t
      simp only [Tok.val] at CT2 c0 c1 c2 c3
      generalize tokText ⟨k, st, n, x⟩ = T at *
      have CT3 := Lib.hid CT2
      clear CT1 CT2
      have HB1 := Lib.hid (HB.out.trans ((vbox wr (.cells #[.int .i64 k, .string ⟨st.toArray⟩, .int .i64 n, .int .i64 x] 76)).mono HB.out.size))
      have HO1 := Lib.hid (own_heap HO.out (w' := wr.alloc (.cells #[.int .i64 k, .string ⟨st.toArray⟩, .int .i64 n, .int .i64 x] 76)) (fun q hq => (vbox wr _).block q (World.ownsRow.lt HO.out q hq).2))
      obtain ⟨d0, d1, d2, d3⟩ := tc_new wr ⟨k, st, n, x⟩ 76
      simp only at d0 d1 d2 d3
      (go_upto_region 5 with fail)
      generalize wr.alloc (.cells #[.int .i64 k, .string ⟨st.toArray⟩, .int .i64 n, .int .i64 x] 76) = w2 at *
      clear c0 c1 c2 c3 HO HB
      go_wp2_with fail
      refine (CT3.out w2 HB1.out).mono ?_
      rintro e w3 ⟨rfl, hb3⟩
      have HB3 := Lib.hid (HB1.out.trans (hb3.mono HB1.out.size))
      have HO3 := Lib.hid (own_heap HO1.out (w' := w3) (fun q hq => hb3.block q (World.ownsRow.lt HO1.out q hq).2))
      have HO4 := Lib.hid (own_heap HO3.out (w' := w3.alloc (.cells #[.string ⟨T.toArray⟩] 9)) (fun q hq => (vbox w3 _).block q (World.ownsRow.lt HO3.out q hq).2))
      clear hb3 HO1 HB1 CT3 d0 d1 d2 d3 HO3
      go_wp2_with (at_builtin; refine wpList_append_own _ rfl _ _ 120 rfl w.heap.size 9 i0 (.string ⟨#[]⟩) 1 16 Tryz.underlying120 hi hz0 hz1 hz2 rfl (by decide) _ _ _ rfl HO4.out ⟨w3.heap.size, 0, none⟩ 1 1 [.string ⟨T.toArray⟩] rfl rfl ?c1 ?c2 ?c3 ?c4 ?c5 ?_)
      case c1 =>
        intro j u hj
        match j, hj with
        | 0, hj => simp at hj; subst hj; simp [Addr.add]
        | (j + 1), hj => simp at hj
      case c2 => intro u hu; simp at hu; rcases hu with rfl; rfl
      case c3 => have := HLN.out; unfold maxLen; omega
      case c4 => have := HLN.out; omega
      case c5 => have := HB3.out.size; simp; omega
      intro v' w4 hown4 hgrow hnil
      have HB4 := Lib.hid ((HB3.out.trans ((vbox w3 (.cells #[.string ⟨T.toArray⟩] 9)).mono HB3.out.size)).trans (grown_belowN hgrow (HB3.out.trans ((vbox w3 (.cells #[.string ⟨T.toArray⟩] 9)).mono HB3.out.size)).size (fun q hq => (World.ownsRow.lt HO4.out q hq).1)))
      have HO5 := Lib.hid (show w4.ownsRow w.heap.size 9 1 v' (i' + 1) (txv (l.take (i' + 1))) by rw [HS.out]; exact hown4)
      have HN5 := Lib.hid (show v' ≠ .slice none 0 0 from hnil)
      clear hown4 hgrow hnil HO4
      go_wp2
      go_roundw
      case rel => exact ⟨i' + 1, by go_num, by omega, HO5, HN5, HB4⟩
      case measure => simp [intOf]; omega
    · obtain rfl : i' = l.length := by omega
      rw [List.take_length] at HO
      rcases HO.out.2 with ⟨hv, _⟩ | ⟨g, cp, cur, rfl, hbg, hg, hnc, hcm, hcs, htake⟩
      · exact absurd hv HNL.out
      have hgl := (World.ownsRow.lt HO.out g rfl).2
      have cj := Tryz.strings_Join g 0 cp (l.map fun t => (⟨(tokText t).toArray⟩ : ByteArray)) ⟨#[32]⟩ wr (fun j x hx => by
        have hj : j < l.length := by
          rcases Nat.lt_or_ge j l.length with h | h
          · exact h
          · rw [List.getElem?_eq_none (by simpa using h)] at hx; cases hx
        rw [Nat.zero_add, World.ownsRow.cellAt HO.out j (by omega)]
        have : (txv l)[j]? = some (.string x) := by
          unfold txv
          rw [List.getElem?_map] at hx ⊢
          cases hq : l[j]? with
          | none => rw [hq] at hx; cases hx
          | some t => rw [hq] at hx; simp at hx; subst hx; rfl
        exact this) hgl (by have := HLN.out; simp; omega) (by simpa using hnc) (by rw [join_eq]; have := HJL.out; omega)
      rw [join_eq, List.length_map] at cj
      have HBB := Lib.hid HB.out
      clear HO hbg hg hnc hcm hcs htake HNL
      obtain ⟨J, hJ⟩ : ∃ J, J = joinT l := ⟨_, rfl⟩
      rw [← hJ] at cj
      have HJ := Lib.hid hJ
      clear hJ
      go_wp2_with fail
      refine cj.mono ?_
      rintro e w5 ⟨rfl, hb5⟩
      have HB5 := Lib.hid (HBB.out.trans (hb5.mono HBB.out.size))
      clear cj hb5
      go_wp2
      go_ret
      exact ⟨by rw [← HJ.out]; rfl, HB5.out⟩
end Go.Proofs.YtnikcgmbkmbloaaGreatDoor
/- The tokens of a long text: their numbers are in range. No program. -/
namespace Go.Proofs.YtnikcgmbkmbloaaGreatDoor
open Go.RowKit
theorem readN_big {l : List UInt8} {i : Nat} (hl : l.length ≤ 1048576) : (readN l i).n.natAbs < 10 ^ 17 ∧ (readN l i).x.natAbs < 10 ^ 7 := by
  obtain ⟨d1, d2, _, d4, d5⟩ := parts_digs l i
  unfold readN numOf
  split
  · split
    · rename_i h17
      have h1 := val17 d1 h17.1
      have h2 := decVal_lt (parts l i).exp (fun c hc => by have := d2 c hc; unfold isD at this; unfold isDig; exact of_decide_eq_true this) 0
      have h3 : 10 ^ (parts l i).exp.length ≤ 10 ^ 3 := Nat.pow_le_pow_right (by decide) h17.2
      have h4 : decVal 0 (parts l i).exp < 1000 := by omega
      refine ⟨?_, ?_⟩
      · simp only; unfold sgnV; split <;> omega
      · simp only; unfold sgnV; split <;> omega
    · exact ⟨by simp, by simp⟩
  · exact ⟨by simp, by simp⟩
/-- what a token that is read takes of its text -/
theorem tok_num {l : List UInt8} {i : Nat} (hl : l.length ≤ 1048576) (hi : i ≤ l.length) (hc : (readTok l i).code = 0) (hk : (readTok l i).t.k ≠ 0) :
    (readTok l i).t.s.length + 1 + 5 * i ≤ 5 * (readTok l i).next ∧ NumIn (readTok l i).t := by
  have hs := skE_ge l i
  have he := skE_le hi
  unfold readTok at hc hk ⊢
  generalize skE l i = j at *
  unfold tokAt at hc hk ⊢
  rcases Nat.lt_or_ge j l.length with g | g
  · rw [List.getElem?_eq_getElem g] at hc hk ⊢
    simp only at hc hk ⊢
    generalize l[j] = c at *
    unfold charR at hc hk ⊢
    split
    · rename_i hsg
      refine ⟨by simp; omega, ⟨?_, ?_, ?_, ?_⟩⟩ <;> simp
    · rename_i hsg
      rw [if_neg hsg] at hc hk
      split
      · rename_i h34
        rw [if_pos h34] at hc hk
        unfold textR at hc hk ⊢
        cases hq : readQ l j with
        | none => rw [hq] at hc; cases hc
        | some p =>
          obtain ⟨rs, e⟩ := p
          simp only
          unfold readQ at hq
          split at hq
          · have hr := readAt_ok _ l _ e rs (Nat.le_refl _) hq
            have h2 := flat_len rs
            refine ⟨by omega, ⟨?_, ?_, ?_, ?_⟩⟩ <;> simp
          · cases hq
      · rename_i h34
        rw [if_neg h34] at hc hk
        split
        · rename_i hn
          rw [if_pos hn] at hc hk
          have hok := tnum_ok (by omega) hc
          unfold numR at hc hk hok ⊢
          by_cases hcc : (readN l j).code = 0
          · rw [if_pos hcc] at hok ⊢
            obtain ⟨b1, b2⟩ := readN_big (i := j) hl
            simp only at hok ⊢
            refine ⟨by simp; omega, ⟨?_, ?_, ?_, ?_⟩⟩
            all_goals (simp only; omega)
          · rw [if_neg hcc] at hc; exact absurd hc hcc
        · rename_i hn
          rw [if_neg hn] at hc hk
          have hw := word_ok hc
          unfold wordR at hc hk hw ⊢
          split
          · refine ⟨by simp [wNull]; omega, ⟨?_, ?_, ?_, ?_⟩⟩ <;> simp
          · rename_i h1
            rw [if_neg h1] at hc hk
            split
            · refine ⟨by simp [wTrue]; omega, ⟨?_, ?_, ?_, ?_⟩⟩ <;> simp
            · rename_i h2
              rw [if_neg h2] at hc hk
              split
              · refine ⟨by simp [wFalse]; omega, ⟨?_, ?_, ?_, ?_⟩⟩ <;> simp
              · rename_i h3
                rw [if_neg h3] at hc; cases hc
  · rw [List.getElem?_eq_none g] at hk; exact absurd rfl hk
theorem toks_num : ∀ (n : Nat) (l : List UInt8) (i : Nat), l.length - i ≤ n → l.length ≤ 1048576 → i ≤ l.length →
    wtS (toks l i).1 + 5 * i ≤ 5 * l.length ∧ (∀ t ∈ (toks l i).1, GoodTok t ∧ NumIn t)
  | n, l, i, hn, hl, hi => by
    by_cases hc : (readTok l i).code = 0
    rotate_left
    · rw [toks_bad hc]; exact ⟨by simp [wtS]; omega, by simp⟩
    by_cases hk : (readTok l i).t.k = 0
    · rw [toks_end hc hk]; exact ⟨by simp [wtS]; omega, by simp⟩
    rcases readTok_ok hi hc with e | ⟨hg, h1, h2⟩
    · rw [e] at hk; exact absurd rfl hk
    have hz := tok_num hl hi hc hk
    rw [toks_step hc hk ⟨h1, h2⟩]
    cases n with
    | zero => omega
    | succ n =>
      have ih := toks_num n l (readTok l i).next (by omega) hl h2
      split
      · refine ⟨?_, ?_⟩
        · simp only; rw [wtS_cons]; omega
        · intro t ht
          rcases List.mem_cons.1 ht with rfl | h
          · exact ⟨hg, hz.2⟩
          · exact ih.2 t h
      · exact ⟨by simp [wtS]; omega, by simp⟩
theorem toks_fail (l : List UInt8) : ∀ (n i : Nat), l.length - i ≤ n → i ≤ l.length → (toks l i).2 ≠ 0 → (toks l i).1 = []
  | n, i, hn, hi, h => by
    by_cases hc : (readTok l i).code = 0
    rotate_left
    · rw [toks_bad hc]
    by_cases hk : (readTok l i).t.k = 0
    · rw [toks_end hc hk]
    rcases readTok_ok hi hc with e | ⟨hg, h1, h2⟩
    · rw [e] at hk; exact absurd rfl hk
    rw [toks_step hc hk ⟨h1, h2⟩] at h ⊢
    split
    · rename_i h0
      rw [if_pos h0] at h
      exact absurd rfl h
    · rfl
end Go.Proofs.YtnikcgmbkmbloaaGreatDoor
/- Reformat of both sides. -/
namespace Go.Proofs.YtnikcgmbkmbloaaGreatDoor
open Go.RowKit
set_option maxRecDepth 100000
theorem toks_fit (l : List UInt8) (hl : l.length ≤ 1048576) : wtS (toks l 0).1 ≤ 8388608 ∧ (∀ t ∈ (toks l 0).1, NumIn t) ∧ ((toks l 0).2 ≠ 0 → (toks l 0).1 = []) := by
  have h := toks_num l.length l 0 (by omega) hl (Nat.zero_le _)
  exact ⟨by omega, fun t ht => (h.2 t ht).2, toks_fail l l.length 0 (by omega) (Nat.zero_le _)⟩
set_option maxHeartbeats 1000000 in
theorem reformat_spec (l : List UInt8) (w : World) (hl : l.length ≤ 1048576) : Calls Tryz.prog 27 #[.string ⟨l.toArray⟩] w fun e w' => e = .returned (.tuple #[.string ⟨(joinT (toks l 0).1).toArray⟩, .int .i64 (toks l 0).2]) ∧ Below w.heap.size w w' := by
  have CT := Lib.hid (tokens_spec l w hl)
  obtain ⟨hw, hn, hf⟩ := toks_fit l hl
  have CT' := CT.out
  unfold TokensPost at CT'
  generalize (toks l 0).1 = ts at *
  generalize (toks l 0).2 = cd at *
  have CJ := Lib.hid (fun (W : World) (a : Option Addr) (cap : Nat) (h : TkAt W W.heap.size a cap ts) => jointok_spec ts a cap W W.heap.size h (Nat.le_refl _) hw hn)
  have HF := Lib.hid hf
  have CT := Lib.hid CT'
  clear CT' hw hn hf hl
  generalize (ByteArray.mk l.toArray) = s at *
  by_cases hc : cd = 0
  · subst hc
    have CJ' := CJ.out
    generalize joinT ts = J at *
    have CJ := Lib.hid CJ'
    clear CJ' HF
    go_enter Tryz.func27, Tryz.ntmps27
    go_wp2_with fail
    refine CT.out.mono ?_
    rintro e w1 ⟨a1, p1, rfl, o1, b1⟩
    have B1 := Lib.hid b1
    have O1 := Lib.hid o1
    clear b1 o1
    go_wp2_with fail
    refine (CJ.out _ _ _ O1.out.tkat).mono ?_
    rintro e w2 ⟨rfl, b2⟩
    go_wp2
    exact bodyPost_ret (v := .tuple #[.string ⟨J.toArray⟩, .int .i64 0]) (by simp [results, Tryz.results27, go_sem]) rfl ⟨rfl, B1.out.trans (b2.mono B1.out.size)⟩
  · obtain rfl := HF.out hc
    have hc0 : ((cd : Int) != 0) = true := by simpa using hc
    have hj : joinT [] = [] := joinT_nil
    rw [hj]
    clear CJ HF hc hj
    go_enter Tryz.func27, Tryz.ntmps27
    go_wp2_with fail
    refine CT.out.mono ?_
    rintro e w1 ⟨a1, p1, rfl, o1, b1⟩
    go_wp2
    exact bodyPost_ret (v := .tuple #[.string ⟨#[]⟩, .int .i64 cd]) (by simp [results, Tryz.results27, go_sem]) rfl ⟨rfl, b1⟩
set_option maxHeartbeats 1000000 in
theorem reformat_impl (l : List UInt8) (w : World) (hl : l.length ≤ 1048576) (hE : Env w) (htab : Lib.TabIs Tryz.prog w "internal/strconv.uint64pow10" .u64 Lib.pow10Tab) : Calls Tryz.prog 26 #[.string ⟨l.toArray⟩] w fun e w' => e = .returned (.tuple #[.string ⟨(joinT (toks l 0).1).toArray⟩, .int .i64 (toks l 0).2]) ∧ Below w.heap.size w w' := by
  have CT := Lib.hid (tokens_impl l w hl hE)
  obtain ⟨hw, hn, _⟩ := toks_fit l hl
  have CT' := CT.out
  unfold TokensPost at CT'
  generalize (toks l 0).1 = ts at *
  generalize (toks l 0).2 = cd at *
  have CJ := Lib.hid (fun (W : World) (hb : Below w.heap.size w W) (a : Option Addr) (cap : Nat) (h : TkAt W W.heap.size a cap ts) => jointok_impl ts a cap W W.heap.size h (Nat.le_refl _) hw hn (tab_blw hb htab))
  have CT := Lib.hid CT'
  have CJ' := CJ.out
  generalize joinT ts = J at *
  have CJ := Lib.hid CJ'
  clear CT' CJ' hw hn hl hE htab
  generalize (ByteArray.mk l.toArray) = s at *
  go_enter Tryz.func26, Tryz.ntmps26
  go_wp2_with fail
  refine CT.out.mono ?_
  rintro e w1 ⟨a1, p1, rfl, o1, b1⟩
  have B1 := Lib.hid b1
  have O1 := Lib.hid o1
  clear b1 o1
  go_wp2_with fail
  refine (CJ.out _ B1.out _ _ O1.out.tkat).mono ?_
  rintro e w2 ⟨rfl, b2⟩
  go_wp2
  exact bodyPost_ret (v := .tuple #[.string ⟨J.toArray⟩, .int .i64 cd]) (by simp [results, Tryz.results26, go_sem]) rfl ⟨rfl, B1.out.trans (b2.mono B1.out.size)⟩
end Go.Proofs.YtnikcgmbkmbloaaGreatDoor
