/- append(b, s...): the bytes of a string behind a row of one's own, or behind a row that is full. -/
import Derived.Test.YtgfebmnlcihpnaaDoorMem
import Derived.Test.YtgfebmnlcihpnaaDoorFresh
import Derived.Deep.AppendSrc
import Derived.Lib.Hide
namespace Go.Proofs.YtgfebmnlcihpnaaDoor
open Go.RowKit
set_option maxRecDepth 100000
theorem byteCells_bv (t : List UInt8) : byteCells ⟨t.toArray⟩ = bv t := by simp [byteCells, bv]
section
variable {P : Program} (w : World)
theorem run_append_room_str (t tx ty e : TypeId) (i : TypeInfo) (ht : P.underlying t = some (.slice e)) (hk : P.underlying tx = some .string) (hi : P.info? e = some i) (h1 : i.size = 1)
    (g sLen sCap : Nat) (cur : Array Value) (hg : w.heap[g]? = some (.cells cur e (0, 0))) (s : ByteArray) (hroom : sLen + s.size ≤ sCap) (hfit : sLen + s.size ≤ cur.size) :
    (Builtin.append_ #[t, tx] ty #[.slice (some ⟨g, 0, none⟩) sLen sCap, .string s]).run P w =
      .ok (.slice (some ⟨g, 0, none⟩) (sLen + s.size) sCap) (w.setRow g (cur.toList.take sLen ++ byteCells s ++ cur.toList.drop (sLen + s.size)).toArray) := by
  have hs : Src P 1 tx (.string s) s.size (byteCells s) w := Src.ofString w hk s
  have hst := run_storeCells_at P g sLen e (byteCells s) 0 cur w hg (by rw [byteCells_length]; simpa using hfit) hs.one
  simp only [Nat.add_zero, byteCells_length] at hst
  simp [Builtin.append_, run_underlying ht, run_underlying hk, sizeOf, typeInfo, hi, h1, hs.len, hroom, hs.cells, Addr.add_lit, hst]
end
/-- a text under way: a row of one's own, or a row that is full and reads so -/
def Txt (w : World) (base : Nat) (v : Value) (xs : List UInt8) : Prop :=
  (∃ g cap, v = .slice (some ⟨g, 0, none⟩) xs.length cap ∧ w.ownsRow base 5 1 v xs.length (bv xs)) ∨
  (∃ g, v = .slice (some ⟨g, 0, none⟩) xs.length xs.length ∧ base ≤ g ∧ g < w.heap.size ∧ ∀ j u, (bv xs)[j]? = some u → w.cell? ⟨g, 0 + j, none⟩ = some u)
theorem Txt.kept {w w' : World} {base : Nat} {v : Value} {xs : List UInt8} (h : Txt w base v xs) (hb : ∀ k, base ≤ k → k < w.heap.size → w'.heap[k]? = w.heap[k]?) (hz : w.heap.size ≤ w'.heap.size) : Txt w' base v xs := by
  rcases h with ⟨g, cap, rfl, ho⟩ | ⟨g, rfl, hg, hl, hc⟩
  · refine .inl ⟨g, cap, rfl, ⟨ho.1, ?_⟩⟩
    rcases ho.2 with h | ⟨g', cap', cur, hv, hb', hh, rest⟩
    · exact .inl h
    · have hlt := (World.ownsRow.lt ho g rfl)
      injection hv with e1 e2 e3
      injection e1 with e1
      injection e1 with e1
      subst e1 e3
      exact .inr ⟨g, cap, cur, rfl, hb', (hb g hb' hlt.2).trans hh, rest⟩
  · exact .inr ⟨g, rfl, hg, by omega, fun j u hu => by rw [World.cell?_of_block (w := w) (hb g hg hl)]; exact hc j u hu⟩
theorem Txt.slc {w : World} {base : Nat} {v : Value} {xs : List UInt8} (h : Txt w base v xs) : Slc w v (bv xs) := by
  rcases h with ⟨g, cap, rfl, ho⟩ | ⟨g, rfl, hg, hl, hc⟩
  · exact own_slc ho
  · exact .inr ⟨g, 0, xs.length, by rw [bv_length], hc⟩
theorem byteInfo : (Tryd.prog.info? 5).map (fun i => (i.zero, i.size, i.bytes)) = some (some (.int .u8 0), 1, 1) := by kernel_rfl
theorem run_append_txt (w : World) (base : Nat) (ty : TypeId) (v : Value) (xs t : List UInt8) (h : Txt w base v xs) (ht : 0 < t.length) (hbig : xs.length + t.length ≤ 140737488355328) (hbase : base ≤ w.heap.size) :
    ∃ v' w', (Builtin.append_ #[22, 9] ty #[v, .string ⟨t.toArray⟩]).run Tryd.prog w = .ok v' w' ∧ Txt w' base v' (xs ++ t) ∧ Below base w w' := by
  obtain ⟨i0, hi, hz0, hz1, hz2⟩ := info_parts byteInfo
  have hsz : (ByteArray.mk t.toArray).size = t.length := by simp [ByteArray.size]
  have hbc := byteCells_bv t
  have hlen : (bv xs ++ bv t).length = (xs ++ t).length * 1 := by simp
  have grow : ∀ (g cap : Nat), (∀ j u, (bv xs)[j]? = some u → w.cell? ⟨g, 0 + j, none⟩ = some u) → cap < xs.length + t.length → xs.length ≤ cap →
      ∃ v' w', (Builtin.append_ #[22, 9] ty #[.slice (some ⟨g, 0, none⟩) xs.length cap, .string ⟨t.toArray⟩]).run Tryd.prog w = .ok v' w' ∧ Txt w' base v' (xs ++ t) ∧ Below base w w' := by
    intro g cap hc hlt hle
    have hold := run_firstCells_some (P := Tryd.prog) w.drew 1 xs.length ⟨g, 0, none⟩ xs.length cap (bv xs) (by simp) (fun j u hu => by
      have hadd : (⟨g, 0, none⟩ : Addr).add j = ⟨g, 0 + j, none⟩ := by unfold Addr.add; split <;> simp_all
      rw [hadd]; exact hc j u hu)
    have hs := Src.ofString (P := Tryd.prog) w Tryd.underlying9 ⟨t.toArray⟩
    rw [hsz, hbc] at hs
    have hr := run_append_grow_src (P := Tryd.prog) w 22 9 ty 5 i0 (.int .u8 0) Tryd.underlying22 hi hz0 (some ⟨g, 0, none⟩) xs.length cap (bv xs) (by rw [hz1]; exact hold) (.string ⟨t.toArray⟩) t.length (bv t) (by rw [hz1]; exact hs) hlt (by omega) (by
      have := growslice_fits (bytes := 1) hlt (by omega)
      rw [hz2]; exact this)
    have hge := grownCap_ge w (xs.length + t.length) cap 5
    have hcm := grownCap_le_maxLen w (xs.length + t.length) cap 5 (by unfold maxLen; omega)
    refine ⟨_, _, hr, .inl ⟨w.heap.size, _, by rw [List.length_append], ?_⟩, ⟨rfl, rfl, rfl, by simp, fun k hk => Below.heap_alloc w.drew _ k (by show k < w.heap.size; omega)⟩⟩
    rw [bv_append]
    refine ⟨hlen, .inr ⟨w.heap.size, _, _, by rw [List.length_append], hbase, heap_alloc_new w.drew _, by rw [List.length_append]; exact hge, hcm, ?_, ?_⟩⟩
    · simp only [Array.size_append, List.size_toArray, size_zeroCells, List.length_append, bv_length]
      show xs.length + t.length + (grownCap w (xs.length + t.length) cap 5 - (xs.length + t.length)) * 1 = _ * 1
      omega
    · simp only [Array.toList_append, List.append_assoc, List.length_append]
      rw [← List.append_assoc, Nat.mul_one]
      exact List.take_left' (by simp)
  rcases h with ⟨g, cap, rfl, ho⟩ | ⟨g, rfl, hg, hl, hc⟩
  · have hcap := own_capB ho
    by_cases hroom : xs.length + t.length ≤ cap
    · rcases ho.2 with ⟨hv, _⟩ | ⟨g', cap', cur, hv, hb', hh, hnc, hcm, hcs, htake⟩
      · cases hv
      · injection hv with e1 e2 e3
        injection e1 with e1
        injection e1 with e1
        subst e1 e3
        have hr := run_append_room_str (P := Tryd.prog) w 22 9 ty 5 i0 Tryd.underlying22 Tryd.underlying9 hi hz1 g xs.length cap cur hh ⟨t.toArray⟩ (by rw [hsz]; exact hroom) (by rw [hsz, hcs]; omega)
        rw [hsz, hbc] at hr
        refine ⟨_, _, hr, .inl ⟨g, cap, by rw [List.length_append], ?_⟩, ⟨rfl, rfl, rfl, by simp, fun k hk => setRow_other w g k _ (by omega)⟩⟩
        rw [bv_append]
        refine ⟨hlen, .inr ⟨g, cap, _, by rw [List.length_append], hb', setRow_heap w g cur _ 5 _ hh, by rw [List.length_append]; exact hroom, hcm, ?_, ?_⟩⟩
        · simp only [List.size_toArray, List.length_append, List.length_take, List.length_drop, Array.length_toList, bv_length]
          omega
        · rw [Nat.mul_one] at htake
          rw [htake, List.length_append, Nat.mul_one]
          exact List.take_left' (by simp)
    · exact grow g cap (fun j u hu => by
        rw [Nat.zero_add]
        rw [World.ownsRow.cellAt ho j (by have := (List.getElem?_eq_some_iff.1 hu).1; simp at this; omega)]; exact hu) (by omega) hcap
  · exact grow g xs.length hc (by omega) (Nat.le_refl _)
where
  own_capB {w : World} {base g cap : Nat} {xs : List UInt8} (ho : w.ownsRow base 5 1 (.slice (some ⟨g, 0, none⟩) xs.length cap) xs.length (bv xs)) : xs.length ≤ cap := by
    rcases ho.2 with ⟨hv, _⟩ | ⟨g', cap', cur, hv, hb', hh, hnc, _⟩
    · cases hv
    · injection hv with e1 e2 e3
      omega
theorem wpList_append_txt {ops : Array Oper} {rest : List Oper} {o : Oper} {a : Act} {Q : Exit → Act → World → Prop} (hgd : o.guard = none) (s x : Operand)
    (ho : o.op = .call { callee := .builtin .append, args := #[s, x], argTypes := #[22, 9] }) (w : World) (base : Nat) (v : Value) (xs t : List UInt8) (hv : a.eval s = v) (hx : a.eval x = .string ⟨t.toArray⟩)
    (h : Txt w base v xs) (ht : 0 < t.length) (hbig : xs.length + t.length ≤ 140737488355328) (hbase : base ≤ w.heap.size)
    (hK : ∀ v' w', Txt w' base v' (xs ++ t) → Below base w w' → wpList Tryd.prog ops Q rest (a.put o.dst v') w') : wpList Tryd.prog ops Q (o :: rest) a w := by
  refine wpList_plain hgd fun K hK' => ?_
  obtain ⟨v', w', hrun, r1, r2⟩ := run_append_txt w base o.type v xs t h ht hbig hbase
  unfold Oper.wp
  simp [execOp, ho, resolve, invoke, builtin, hv, hx, hrun, Result.andThen]
  exact hK' _ _ (hK v' w' r1 r2)
end Go.Proofs.YtgfebmnlcihpnaaDoor
