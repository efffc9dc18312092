import Derived.Test.YtilgncebhgplaaaDoorG0
import Derived.Maps.AppendAt
import Derived.Lib.AppendStr
import Derived.Deep.Upon
import Derived.Shelf.Strings.Prefix
import Derived.Test.YtilgncebhgplaaaDoorProg
import Derived.Test.YtilgncebhgplaaaDoorRows
import Derived.WalkKit
import Derived.Lib.RuneBytes
import Derived.Lib.Small
import Derived.Outline
import Derived.ProofKit
import Derived.Lib.Hide
import Derived.Lib.DecodeN
import Derived.Lib.MapLaws
/- append to a row of bytes of one's own, of bytes or of a string: what was written before stays where it lay. -/
namespace Go.Proofs.YtilgncebhgplaaaDoor
open Go.RowKit
set_option maxRecDepth 100000
theorem came_own {w : World} {B n : Nat} {v : Value} {xs : List Value} (h : w.ownsRow B 5 1 v n xs) : ∃ ao b cap, v = .slice ao n cap ∧ Came w 1 ao b 0 n cap xs ∧ ∀ g, v.ownBlock = some g → b = g := by
  have hl := h.1
  rcases h.2 with ⟨rfl, rfl⟩ | ⟨g, cap, cur, rfl, hb, hg, hnc, hcm, hcs, htake⟩
  · exact ⟨none, 0, 0, rfl, ⟨Nat.le_refl _, fun h => absurd h (Nat.lt_irrefl _), fun h => absurd h (Nat.lt_irrefl _), hl, fun j u hu => by
      have := (List.getElem?_eq_some_iff.1 hu).1; omega, fun j hj => by omega⟩, fun g hg => by cases hg⟩
  · have hlt : g < w.heap.size := by
      rcases Nat.lt_or_ge g w.heap.size with h1 | h1
      · exact h1
      · rw [Array.getElem?_eq_none h1] at hg; cases hg
    have hcell : ∀ j, w.cell? ⟨g, j, none⟩ = cur[j]? := fun j => cell_of_row w g j cur _ _ hg
    refine ⟨some ⟨g, 0, none⟩, g, cap, rfl, ⟨hnc, fun _ => rfl, fun _ => hlt, hl, fun j u hu => ?_, fun j hj => ⟨?_, ?_⟩⟩, fun g' hg' => by simpa [Value.ownBlock] using hg'⟩
    · have hj := (List.getElem?_eq_some_iff.1 hu).1
      rw [Nat.zero_add, hcell, ← Array.getElem?_toList, ← hu, ← htake, List.getElem?_take_of_lt (by omega)]
    · rw [hcell, Array.getElem?_eq_getElem (by omega)]; rfl
    · unfold World.frozen?
      rw [hg]
      simp
/-- v turned into v' by an append -/
structure Grew (w w' : World) (v v' : Value) (n : Nat) : Prop where
  grown : w.grownBy w' v.ownBlock
  old : ∀ g j, v.ownBlock = some g → j < n → w'.cell? ⟨g, j, none⟩ = w.cell? ⟨g, j, none⟩
  place : v'.ownBlock = v.ownBlock ∨ ∃ g, v'.ownBlock = some g ∧ w.heap.size ≤ g
section
variable {w w' : World} {B n m : Nat} {v v' x : Value} {xs news : List Value} {tx : TypeId} {i : TypeInfo}
theorem grew_of (hi : Tryd.prog.info? 5 = some i) (hz0 : i.zero = some (.int .u8 0)) (hz1 : i.size = 1) (hz2 : i.bytes = 1) (hown : w.ownsRow B 5 1 v n xs) (hs : Src Tryd.prog 1 tx x m news w) (ty : TypeId) (h63 : n + m ≤ 140737488355328)
    (hrun : (Builtin.append_ #[33, tx] ty #[v, x]).run Tryd.prog w = .ok v' w') (hg : w.grownBy w' v.ownBlock) : Grew w w' v v' n := by
  obtain ⟨ao, b, cap, hv, hc, hb⟩ := came_own hown
  subst hv
  obtain ⟨v2, w2, h2, hU⟩ := run_append_upon (P := Tryd.prog) hc 33 tx ty i (.int .u8 0) 1 Tryd.underlying33 hi hz0 hz1 hz2 rfl (Upon.start hc) x m news (by exact hs) (by unfold maxLen; omega) (by omega)
  have e : v' = v2 ∧ w' = w2 := by
    have h3 := hrun.symm.trans h2
    injection h3 with h3 h4
    exact ⟨h3, h4⟩
  obtain ⟨rfl, rfl⟩ := e
  refine ⟨hg, fun g j hgb hj => ?_, ?_⟩
  · have hgb' := hb g hgb
    subst hgb'
    by_cases hlt : b < w.heap.size
    · exact hU.old hlt (fun j' _ ⟨_, e⟩ => by omega)
    · have := hc.lt (by have := hc.le; omega); omega
  · rcases hU.val with ⟨_, rfl, _⟩ | ⟨_, g, c', rfl, ho⟩
    · left
      cases ao <;> rfl
    · exact .inr ⟨g, rfl, ho.new⟩
end
/-- .. of the bytes of a slice -/
theorem append_slc (w : World) (B : Nat) (v u : Value) (l t : List UInt8) (ty : TypeId) (hown : w.ownsRow B 5 1 v l.length (bv l)) (hu : Slc w u (bv t)) (h63 : l.length + t.length ≤ 1099511627776) (hB : B ≤ w.heap.size) :
    ∃ v' w', (Builtin.append_ #[33, 33] ty #[v, u]).run Tryd.prog w = .ok v' w' ∧ w'.ownsRow B 5 1 v' (l ++ t).length (bv (l ++ t)) ∧ Grew w w' v v' l.length := by
  obtain ⟨i0, hi, hz0, hz1, hz2⟩ := info_parts byteInfo'
  rcases hu with ⟨rfl, h0⟩ | ⟨b, o, cap, rfl, hc⟩
  · have ht : t = [] := by simpa [bv] using h0
    subst ht
    have hs := Src.ofNil (P := Tryd.prog) (w := w) (size := 1) Tryd.underlying33 0
    obtain ⟨ao, b, cap, rfl, hca, _⟩ := came_own hown
    have hr := run_append_nothing (P := Tryd.prog) w 33 33 ty 5 i0 Tryd.underlying33 hi ao l.length cap hca.le (.slice none 0 0) (by rw [hz1]; exact hs)
    exact ⟨_, _, hr, by simpa using hown, grew_of hi hz0 hz1 hz2 hown hs ty (by simp at h63 ⊢; omega) hr (World.grownBy.refl _ _)⟩
  · rw [bv_length] at *
    have hnews : ∀ j y, (bv t)[j]? = some y → w.cell? ((⟨b, o, none⟩ : Addr).add j) = some y := fun j y hy => by rw [addr_add]; exact hc j y hy
    have hs := Src.ofSlice (P := Tryd.prog) (w := w) (size := 1) Tryd.underlying33 ⟨b, o, none⟩ t.length cap (bv t) (by simp) hnews (bv_cell t)
    obtain ⟨v', w', hr, h2, h3, _⟩ := run_append_own_at (P := Tryd.prog) w B 33 ty 5 i0 (.int .u8 0) 1 1 Tryd.underlying33 hi hz0 hz1 hz2 rfl (by omega) v l.length (bv l) hown ⟨b, o, none⟩ t.length cap (bv t) (by simp) hnews (bv_cell t) (by unfold maxLen; omega) (by omega) hB
    exact ⟨v', w', hr, by rw [List.length_append, bv_append]; exact h2, grew_of hi hz0 hz1 hz2 hown hs ty (by omega) hr h3⟩
theorem strCells_bv (t : List UInt8) : Lib.strCells ⟨t.toArray⟩ = bv t := by simp [Lib.strCells, bv]
/-- .. of the bytes of a string -/
theorem append_str (w : World) (B : Nat) (v : Value) (l t : List UInt8) (ty : TypeId) (hown : w.ownsRow B 5 1 v l.length (bv l)) (h63 : l.length + t.length ≤ 1099511627776) (hB : B ≤ w.heap.size) :
    ∃ v' w', (Builtin.append_ #[33, 9] ty #[v, .string ⟨t.toArray⟩]).run Tryd.prog w = .ok v' w' ∧ w'.ownsRow B 5 1 v' (l ++ t).length (bv (l ++ t)) ∧ Grew w w' v v' l.length := by
  obtain ⟨i0, hi, hz0, hz1, hz2⟩ := info_parts byteInfo'
  have hsz : (ByteArray.mk t.toArray).size = t.length := by simp [ByteArray.size]
  obtain ⟨v', w', hr, h2, h3, _⟩ := Lib.run_append_own_string (P := Tryd.prog) w B 33 9 ty 5 i0 Tryd.underlying33 Tryd.underlying9 hi hz0 hz1 hz2 v l.length (bv l) hown ⟨t.toArray⟩ (by rw [hsz]; unfold maxLen; omega) (by rw [hsz]; omega) hB
  have hs := Src.ofString (P := Tryd.prog) (w := w) Tryd.underlying9 ⟨t.toArray⟩
  rw [hsz] at h2 hs
  rw [strCells_bv] at h2
  exact ⟨v', w', hr, by rw [List.length_append, bv_append]; exact h2, grew_of hi hz0 hz1 hz2 hown hs ty (by omega) hr h3⟩
/-- a builtin append as one step of a region that draws -/
theorem step_append_run {w w' : World} {ops : Array Oper} {o : Oper} {a : Act} {K : Act → World → Prop} {Q : Exit → Act → World → Prop} {E : Prop} (hgd : o.guard = none) (s x : Operand) (t u : TypeId)
    (ho : o.op = .call { callee := .builtin .append, args := #[s, x], argTypes := #[t, u] }) {v' : Value}
    (hrun : (Builtin.append_ #[t, u] o.type #[a.eval s, a.eval x]).run Tryd.prog w = .ok v' w') (h : K (a.put o.dst v') w') :
    if Region.wanted o (yielded ops a.tmps) = true then Oper.wp Tryd.prog o a w K Q else E := by
  have hw : Region.wanted o (yielded ops a.tmps) = true := by simp [Region.wanted, hgd]
  rw [if_pos hw]
  unfold Oper.wp execOp
  simp only [ho, resolve, invoke, builtin, Sem.run_bind, Sem.run_pure, Result.andThen_ok, List.map_toArray, List.map_cons, List.map_nil, hrun]
  exact h
/-- .. as one of a plain region -/
theorem wpList_append_run {w w' : World} {ops : Array Oper} {rest : List Oper} {o : Oper} {a : Act} {Q : Exit → Act → World → Prop} (hgd : o.guard = none) (s x : Operand) (t u : TypeId)
    (ho : o.op = .call { callee := .builtin .append, args := #[s, x], argTypes := #[t, u] }) {v' : Value}
    (hrun : (Builtin.append_ #[t, u] o.type #[a.eval s, a.eval x]).run Tryd.prog w = .ok v' w') (h : wpList Tryd.prog ops Q rest (a.put o.dst v') w') : wpList Tryd.prog ops Q (o :: rest) a w := by
  refine wpList_plain hgd fun K hK => ?_
  unfold Oper.wp execOp
  simp only [ho, resolve, invoke, builtin, Sem.run_bind, Sem.run_pure, Result.andThen_ok, List.map_toArray, List.map_cons, List.map_nil, hrun]
  exact hK _ _ h
end Go.Proofs.YtilgncebhgplaaaDoor
/- Rows of bytes of one's own: append as a step. -/
namespace Go.Proofs.YtilgncebhgplaaaDoor
open Go.RowKit
set_option maxRecDepth 100000
/-- a row of bytes that is not nil -/
def Row (w : World) (B : Nat) (v : Value) (l : List UInt8) : Prop := v ≠ .slice none 0 0 ∧ w.ownsRow B 5 1 v l.length (bv l)
theorem Row.shape {w : World} {B : Nat} {v : Value} {l : List UInt8} (h : Row w B v l) : ∃ g cap, v = .slice (some ⟨g, 0, none⟩) l.length cap ∧ B ≤ g ∧ g < w.heap.size := by
  obtain ⟨g, cap, rfl, hb, _⟩ := own_shape h.2 h.1
  exact ⟨g, cap, rfl, hb, (h.2.lt g rfl).2⟩
theorem Row.sl {w : World} {B : Nat} {v : Value} {l : List UInt8} (h : Row w B v l) : Sl w v (bv l) := own_sl h.2 h.1
theorem Row.drew {w : World} {B : Nat} {v : Value} {l : List UInt8} (h : Row w B v l) : Row w.drew B v l := ⟨h.1, World.ownsRow.drew h.2⟩
theorem Row.base {w : World} {B B' : Nat} {v : Value} {l : List UInt8} (h : Row w B v l) (hB : B' ≤ B) : Row w B' v l := ⟨h.1, own_base h.2 hB⟩
theorem Row.blw {w w' : World} {B : Nat} {v : Value} {l : List UInt8} (h : Row w B v l) (hb : Below w.heap.size w w') : Row w' B v l := ⟨h.1, own_below h.2 hb⟩
theorem Grew.row {w w' : World} {B n : Nat} {v v' : Value} {l : List UInt8} (h : Grew w w' v v' n) (hv : v ≠ .slice none 0 0) {xs : List Value} {m : Nat} (ho : w.ownsRow B 5 1 v m xs) (h2 : w'.ownsRow B 5 1 v' l.length (bv l)) : Row w' B v' l := by
  refine ⟨fun e => ?_, h2⟩
  subst e
  obtain ⟨g, cap, rfl, _⟩ := own_shape ho hv
  rcases h.place with h | ⟨g, h, _⟩ <;> cases h
theorem Grew.blw {w w' : World} {B n : Nat} {v v' : Value} (h : Grew w w' v v' n) (hB : B ≤ w.heap.size) {xs : List Value} {m : Nat} (ho : w.ownsRow B 5 1 v m xs) : Below B w w' :=
  grown_belowN h.grown hB (fun k hk => (ho.lt k hk).1)
theorem fresh_row {w w' : World} {l : List UInt8} {e : Ending} (h : Fresh w l e w') : ∃ v, e = .returned v ∧ Row w' w.heap.size v l ∧ Below w.heap.size w w' := by
  obtain ⟨v, h1, h2, h3, h4⟩ := h
  exact ⟨v, h1, ⟨h2, h3⟩, h4⟩
/-- append of a string, as one step of a region that draws -/
theorem step_append_strR {w : World} {ops : Array Oper} {o : Oper} {a : Act} {K : Act → World → Prop} {Q : Exit → Act → World → Prop} {E : Prop} (hgd : o.guard = none) (s x : Operand)
    (ho : o.op = .call { callee := .builtin .append, args := #[s, x], argTypes := #[33, 9] }) (B : Nat) (v : Value) (l t : List UInt8) (hs : a.eval s = v) (hx : a.eval x = .string ⟨t.toArray⟩) (hv : Row w B v l)
    (h63 : l.length + t.length ≤ 1099511627776) (hB : B ≤ w.heap.size) (n : Nat) (hn : n = (l ++ t).length)
    (h : ∀ g c w', Row w' B (.slice (some ⟨g, 0, none⟩) n c) (l ++ t) → Below B w w' → Grew w w' v (.slice (some ⟨g, 0, none⟩) n c) l.length → K (a.put o.dst (.slice (some ⟨g, 0, none⟩) n c)) w') :
    if Region.wanted o (yielded ops a.tmps) = true then Oper.wp Tryd.prog o a w K Q else E := by
  subst hs
  obtain ⟨v', w', hrun, h2, h3⟩ := append_str w B (a.eval s) l t o.type hv.2 h63 hB
  have hr := h3.row hv.1 hv.2 h2
  obtain ⟨g, c, rfl, _⟩ := hr.shape
  rw [← hn] at hr h3 hrun
  rw [← hx] at hrun
  exact step_append_run hgd s x _ _ ho hrun (h g c w' hr (h3.blw hB hv.2) h3)
/-- .. of the bytes of a slice -/
theorem step_append_slcR {w : World} {ops : Array Oper} {o : Oper} {a : Act} {K : Act → World → Prop} {Q : Exit → Act → World → Prop} {E : Prop} (hgd : o.guard = none) (s x : Operand)
    (ho : o.op = .call { callee := .builtin .append, args := #[s, x], argTypes := #[33, 33] }) (B : Nat) (v u : Value) (l t : List UInt8) (hs : a.eval s = v) (hx : a.eval x = u) (hv : w.ownsRow B 5 1 v l.length (bv l)) (hu : Slc w u (bv t))
    (h63 : l.length + t.length ≤ 1099511627776) (hB : B ≤ w.heap.size)
    (h : ∀ v' w', w'.ownsRow B 5 1 v' (l ++ t).length (bv (l ++ t)) → Below B w w' → Grew w w' v v' l.length → K (a.put o.dst v') w') :
    if Region.wanted o (yielded ops a.tmps) = true then Oper.wp Tryd.prog o a w K Q else E := by
  subst hs hx
  obtain ⟨v', w', hrun, h2, h3⟩ := append_slc w B (a.eval s) (a.eval x) l t o.type hv hu h63 hB
  exact step_append_run hgd s x _ _ ho hrun (h v' w' h2 (h3.blw hB hv) h3)
end Go.Proofs.YtilgncebhgplaaaDoor
/-
  DERIVED: THE SHELF's CONTRACTS AT THIS DUMP, IN PLAIN WORDS (tools/lay-plain.mjs out of 'TrydShelf.lean', which tools/lay-shelf.mjs wrote): THE SAME DECLARATIONS UNDER THE SAME NAMES: 'import', 'namespace', 'open', 'def', 'theorem' AND NOTHING ELSE: no command of the shelf's: FOR A HAND-IN. Each laying: the table of numbers ('.._ren') and one theorem, a field a fact of the dump's own or the kernel's comparison; each contract: ONE APPLICATION.
-/
namespace Go.Proofs
open Go.Shelf
def Tryd.lays99_ren : Go.Shelf.Ren := ⟨fun | 99 => 81 | 206 => 94 | n => n, fun | 9 => 9 | 4 => 4 | 3 => 3 | n => n, fun | n => n⟩
theorem Tryd.lays99 : Go.Proofs.Lays.n99 Tryd.prog Tryd.lays99_ren := {
  mixed := by kernel_rfl
  f99 := Tryd.func81.trans (congrArg some (by kernel_rfl))
  f206 := Tryd.func94.trans (congrArg some (by kernel_rfl))
  t3 := Tryd.underlying3
  a3 := Tryd.isAgg3
  z3 := Tryd.sizeOf3
  v3 := Tryd.zeroValue3
  t4 := Tryd.underlying4
  a4 := Tryd.isAgg4
  z4 := Tryd.sizeOf4
  v4 := Tryd.zeroValue4
  t9 := Tryd.underlying9
  a9 := Tryd.isAgg9
  z9 := Tryd.sizeOf9
  v9 := Tryd.zeroValue9 }
open Go.RowKit Go.Lib in
/-- strings.HasPrefix: "HasPrefix reports whether the string s begins with prefix.": IT RETURNS 'Lib.hasPrefix s prefix'; the world is as it was. (LAID: no walk: one application.) -/
theorem Tryd.strings_HasPrefix (s p : ByteArray) (w : World) :
    Calls Tryd.prog 81 #[.string s, .string p] w fun e w' => e = .returned (.bool (Lib.hasPrefix s.data.toList p.data.toList)) ∧ w' = w := Any.strings_HasPrefix Tryd.lays99 s p w
end Go.Proofs
/- Which numbers are characters, and how many bytes they have: the program's and the model's answers. -/
namespace Go.Proofs.YtilgncebhgplaaaDoor
open Go.RowKit
def okR (n : Int) : Prop := (0 ≤ n ∧ n < 55296) ∨ (57343 < n ∧ n ≤ 1114111)
instance (n : Int) : Decidable (okR n) := by unfold okR; exact inferInstance
theorem okR_mk {n : Int} (h : (0 ≤ n ∧ n < 55296) ∨ (57343 < n ∧ n ≤ 1114111)) : okR n := h
theorem okR_un {n : Int} (h : okR n) : (0 ≤ n ∧ n < 55296) ∨ (57343 < n ∧ n ≤ 1114111) := h
def wideR (n : Int) : Nat := if okR n then (if n < 128 then 1 else if n < 2048 then 2 else if n < 65536 then 3 else 4) else 0
def encR (n : Int) : List UInt8 := if okR n then Lib.encodeRune n else []
theorem wideR_one {n : Int} (h : 0 ≤ n) (k : n < 128) : wideR n = 1 := by unfold wideR; rw [if_pos (okR_mk (by omega)), if_pos k]
theorem wideR_two {n : Int} (h : 128 ≤ n) (k : n < 2048) : wideR n = 2 := by unfold wideR; rw [if_pos (okR_mk (by omega)), if_neg (by omega), if_pos k]
theorem wideR_three {n : Int} (h : 2048 ≤ n) (k : n < 65536) (g : n < 55296 ∨ 57343 < n) : wideR n = 3 := by unfold wideR; rw [if_pos (okR_mk (by omega)), if_neg (by omega), if_neg (by omega), if_pos k]
theorem wideR_four {n : Int} (h : 65536 ≤ n) (k : n ≤ 1114111) : wideR n = 4 := by unfold wideR; rw [if_pos (okR_mk (by omega)), if_neg (by omega), if_neg (by omega), if_neg (by omega)]
theorem wideR_bad {n : Int} (h : ¬ okR n) : wideR n = 0 := by unfold wideR; rw [if_neg h]
theorem enc_bad' {n : Int} (h : ¬ okR n) : encR n = [] := by unfold encR; rw [if_neg h]
theorem encR_len (n : Int) : (encR n).length = wideR n := by
  unfold encR wideR
  split
  · rename_i h
    have h := okR_un h
    simp only [Lib.encodeRune, List.length_map]
    split
    · rw [Lib.encodeRuneZ_one (by omega) (by omega)]; rfl
    · split
      · rw [Lib.encodeRuneZ_two (by omega) (by omega)]; rfl
      · split
        · rw [Lib.encodeRuneZ_three (by omega)]; rfl
        · rw [Lib.encodeRuneZ_four (by omega) (by omega)]; rfl
  · rfl
theorem wideR_cases (n : Int) : (0 ≤ n ∧ n < 128 ∧ wideR n = 1) ∨ (128 ≤ n ∧ n < 2048 ∧ wideR n = 2) ∨ (2048 ≤ n ∧ n < 65536 ∧ (n < 55296 ∨ 57343 < n) ∧ wideR n = 3) ∨ (65536 ≤ n ∧ n ≤ 1114111 ∧ wideR n = 4) ∨ (¬ okR n ∧ wideR n = 0) := by
  by_cases h : okR n
  · have h2 := h
    unfold okR at h2
    by_cases h128 : n < 128
    · exact .inl ⟨by omega, h128, wideR_one (by omega) h128⟩
    · by_cases h20 : n < 2048
      · exact .inr (.inl ⟨by omega, h20, wideR_two (by omega) h20⟩)
      · by_cases h65 : n < 65536
        · exact .inr (.inr (.inl ⟨by omega, h65, by omega, wideR_three (by omega) h65 (by omega)⟩))
        · exact .inr (.inr (.inr (.inl ⟨by omega, by omega, wideR_four (by omega) (by omega)⟩)))
  · exact .inr (.inr (.inr (.inr ⟨h, wideR_bad h⟩)))
theorem runeLen_ok {n : Int} (h : okR n) : Lib.runeLen n = wideR n := by
  rcases wideR_cases n with ⟨h0, h1, e⟩ | ⟨h0, h1, e⟩ | ⟨h0, h1, h2, e⟩ | ⟨h0, h1, e⟩ | ⟨h0, e⟩
  · rw [e]; unfold Lib.runeLen; rw [if_neg (by omega), if_pos (by omega)]; rfl
  · rw [e]; unfold Lib.runeLen; rw [if_neg (by omega), if_neg (by omega), if_pos (by omega)]; rfl
  · rw [e]; unfold Lib.runeLen; rw [if_neg (by omega), if_neg (by omega), if_neg (by omega), if_neg (by omega), if_pos (by omega)]; rfl
  · rw [e]; unfold Lib.runeLen; rw [if_neg (by omega), if_neg (by omega), if_neg (by omega), if_neg (by omega), if_neg (by omega), if_pos (by omega)]; rfl
  · exact absurd h h0
theorem bool_eq {p q : Prop} [Decidable p] [Decidable q] (h : p ↔ q) : Ending.returned (.bool (decide p)) = .returned (.bool (decide q)) := by rw [decide_eq_decide.2 h]
theorem okR_true {n : Int} (h : (0 ≤ n ∧ n < 55296) ∨ (57343 < n ∧ n ≤ 1114111)) : decide (okR n) = true := decide_eq_true h
theorem okR_false {n : Int} (h : ¬ ((0 ≤ n ∧ n < 55296) ∨ (57343 < n ∧ n ≤ 1114111))) : decide (okR n) = false := decide_eq_false h
theorem runeok_spec (n : Int) (w : World) : Calls Tryd.prog 93 #[.int .i64 n] w fun e w' => e = .returned (.bool (decide (okR n))) ∧ w = w' := by
  by_cases h : 0 ≤ n ∧ n ≤ 1114111
  · have c1 := in_yes n 0 1114111 w h.1 h.2
    by_cases k : 55296 ≤ n ∧ n ≤ 57343
    · have c2 := in_yes n 55296 57343 w k.1 k.2
      rw [okR_false (by omega)]
      clear h k
      go_enter Tryd.func93, Tryd.ntmps93
      go_wp2_with fail
      refine c1.mono ?_
      rintro e w' ⟨rfl, rfl⟩
      go_wp2_with fail
      refine c2.mono ?_
      rintro e w' ⟨rfl, rfl⟩
      go_wp2
      go_ret
      exact ⟨rfl, rfl⟩
    · have c2 := in_no n 55296 57343 w (by omega)
      rw [okR_true (by omega)]
      clear h k
      go_enter Tryd.func93, Tryd.ntmps93
      go_wp2_with fail
      refine c1.mono ?_
      rintro e w' ⟨rfl, rfl⟩
      go_wp2_with fail
      refine c2.mono ?_
      rintro e w' ⟨rfl, rfl⟩
      go_wp2
      go_ret
      exact ⟨rfl, rfl⟩
  · have c1 := in_no n 0 1114111 w (by omega)
    rw [okR_false (by omega)]
    clear h
    go_enter Tryd.func93, Tryd.ntmps93
    go_wp2_with fail
    refine c1.mono ?_
    rintro e w' ⟨rfl, rfl⟩
    go_wp2
    go_ret
    exact ⟨rfl, rfl⟩
theorem runeok_spec_yes {n : Int} (h : okR n) (w : World) : Calls Tryd.prog 93 #[.int .i64 n] w fun e w' => e = .returned (.bool true) ∧ w = w' := by
  have := runeok_spec n w; rw [decide_eq_true h] at this; exact this
theorem runeok_spec_no {n : Int} (h : ¬ okR n) (w : World) : Calls Tryd.prog 93 #[.int .i64 n] w fun e w' => e = .returned (.bool false) ∧ w = w' := by
  have := runeok_spec n w; rw [decide_eq_false h] at this; exact this
theorem wide_spec (n : Int) (w : World) : Calls Tryd.prog 79 #[.int .i64 n] w fun e w' => e = .returned (.int .i64 (wideR n)) ∧ w = w' := by
  by_cases h : okR n
  · have c := runeok_spec_yes h w
    have hw := wideR_cases n
    rcases hw with ⟨h0, h1, e⟩ | ⟨h0, h1, e⟩ | ⟨h0, h1, h2, e⟩ | ⟨h0, h1, e⟩ | ⟨h0, e⟩
    · rw [e]
      go_enter Tryd.func79, Tryd.ntmps79
      go_wp2_with fail
      refine c.mono ?_
      rintro e w' ⟨rfl, rfl⟩
      go_wp2
      go_ret
      exact ⟨rfl, rfl⟩
    · rw [e]
      have k1 : ¬ n < 128 := by omega
      go_enter Tryd.func79, Tryd.ntmps79
      go_wp2_with fail
      refine c.mono ?_
      rintro e w' ⟨rfl, rfl⟩
      go_wp2
      go_ret
      exact ⟨rfl, rfl⟩
    · rw [e]
      have k1 : ¬ n < 128 := by omega
      have k2 : ¬ n < 2048 := by omega
      go_enter Tryd.func79, Tryd.ntmps79
      go_wp2_with fail
      refine c.mono ?_
      rintro e w' ⟨rfl, rfl⟩
      go_wp2
      go_ret
      exact ⟨rfl, rfl⟩
    · rw [e]
      have k1 : ¬ n < 128 := by omega
      have k2 : ¬ n < 2048 := by omega
      have k3 : ¬ n < 65536 := by omega
      go_enter Tryd.func79, Tryd.ntmps79
      go_wp2_with fail
      refine c.mono ?_
      rintro e w' ⟨rfl, rfl⟩
      go_wp2
      go_ret
      exact ⟨rfl, rfl⟩
    · exact absurd h h0
  · have c := runeok_spec_no h w
    rw [wideR_bad h]
    go_enter Tryd.func79, Tryd.ntmps79
    go_wp2_with fail
    refine c.mono ?_
    rintro e w' ⟨rfl, rfl⟩
    go_wp2
    go_ret
    exact ⟨rfl, rfl⟩
end Go.Proofs.YtilgncebhgplaaaDoor
/- The character at a place of given bytes: what the model answers, by the model's own decoder of strings. -/
namespace Go.Proofs.YtilgncebhgplaaaDoor
open Go.RowKit
def accB (x0 : Int) (y : Nat → Int) : Nat → Int
  | 0 => x0
  | k + 1 => 64 * accB x0 y k + y (k + 1) - 128
theorem accB_bound (x0 : Int) (y : Nat → Int) (k : Nat) (h0 : 0 ≤ x0) (h1 : x0 ≤ 31) (hk : k ≤ 3) (hok : ∀ j, 1 ≤ j → j ≤ k → 128 ≤ y j ∧ y j ≤ 191) : 0 ≤ accB x0 y k ∧ accB x0 y k ≤ 8388607 := by
  match k, hk, hok with
  | 0, _, _ => exact ⟨h0, by simp only [accB, Nat.zero_add, Nat.reduceAdd]; omega⟩
  | 1, _, hok => have a := hok 1 (by omega) (by omega); simp only [accB, Nat.zero_add, Nat.reduceAdd]; omega
  | 2, _, hok => have a := hok 1 (by omega) (by omega); have b := hok 2 (by omega) (by omega); simp only [accB, Nat.zero_add, Nat.reduceAdd]; omega
  | 3, _, hok => have a := hok 1 (by omega) (by omega); have b := hok 2 (by omega) (by omega); have c := hok 3 (by omega) (by omega); simp only [accB, Nat.zero_add, Nat.reduceAdd]; omega
def badG : Value := .tuple #[.int .i64 0, .int .i64 0, .bool false]
theorem ret_bad {R : Value} (h : R = badG) : Ending.returned (.tuple #[.int .i64 0, .int .i64 0, .bool false]) = .returned R := by rw [h]; rfl
theorem ret_good {R : Value} {q a : Int} (h : R = .tuple #[.int .i64 q, .int .i64 a, .bool true]) : Ending.returned (.tuple #[.int .i64 q, .int .i64 a, .bool true]) = .returned R := by rw [h]
theorem get_spec_2 (w : World) (b o len cap at_ : Nat) (x : Int) (y : Nat → Int) (R : Value) (hat : at_ < len) (hlen : len ≤ 1099511627776) (hx : w.cell? ⟨b, o + at_, none⟩ = some (.int .u8 x)) (hx0 : 192 ≤ x) (hx1 : x ≤ 223)
    (hy : ∀ j : Nat, 1 ≤ j → j < 2 → at_ + j < len → w.cell? ⟨b, o + (at_ + j), none⟩ = some (.int .u8 (y j)) ∧ 0 ≤ y j ∧ y j ≤ 255)
    (hshort : len < at_ + 2 → R = badG)
    (hbad : at_ + 2 ≤ len → ∀ j, 1 ≤ j → j < 2 → ¬ (128 ≤ y j ∧ y j ≤ 191) → R = badG)
    (hend : at_ + 2 ≤ len → (∀ j, 1 ≤ j → j < 2 → 128 ≤ y j ∧ y j ≤ 191) → (wideR (accB (x - 192) y 1) = 2 → R = .tuple #[.int .i64 (accB (x - 192) y 1), .int .i64 (at_ + 2), .bool true]) ∧ (wideR (accB (x - 192) y 1) ≠ 2 → R = badG)) :
    Calls Tryd.prog 71 #[.slice (some ⟨b, o, none⟩) len cap, .int .i64 at_] w fun e w' => e = .returned R ∧ w = w' := by
  have HY := Lib.hid hy
  have HB := Lib.hid hbad
  have HE := Lib.hid hend
  have HS := Lib.hid hshort
  have HR := Lib.hid (trivial : True)
  clear hy hbad hend hshort
  have i1 := in_yes x 192 223 w hx0 hx1
  have ca : ¬ ((at_ : Int) < 0) := by omega
  have cl : ¬ ((len : Int) ≤ (at_ : Int)) := by omega
  have ca2 : (at_ : Int) ≤ 1099511627776 := by omega
  have cb : (len : Int) ≤ 1099511627776 := by omega
  have c128 : ¬ x < 128 := by omega
  have hW0 : (0 : Int) ≤ x - 192 ∧ x - 192 ≤ 31 := by omega
  by_cases hs : len < at_ + 2
  · have hs' : (len : Int) - at_ < 2 := by omega
    have cw := Lib.hid (HS.out hs)
    clear hs
    go_enter Tryd.func71, Tryd.ntmps71
    go_wp2_with (go_at_call 38; (first | (with_reducible refine i1.mono ?_)); rintro e w' ⟨rfl, rfl⟩)
    go_ret3
    exact ⟨ret_bad cw.out, rfl⟩
  · have hs' : ¬ ((len : Int) - at_ < 2) := by omega
    have hle : at_ + 2 ≤ len := by omega
    have HL := Lib.hid hle
    clear hs hle
    go_enter Tryd.func71, Tryd.ntmps71
    go_wp2_with (go_at_call 38; (first | (with_reducible refine i1.mono ?_)); rintro e w' ⟨rfl, rfl⟩)
    go_loop [9, 10] (fun n i => ∃ k : Nat, k < 2 ∧ i = .int .i64 ((k : Int) + 1) ∧ n = .int .i64 (accB (x - 192) y k) ∧ ∀ j, 1 ≤ j → j ≤ k → 128 ≤ y j ∧ y j ≤ 191) (fun _ i => 2 - (intOf i).toNat)
    case atStart => exact ⟨0, by omega, rfl, rfl, fun j h1 h2 => by omega⟩
    case round =>
      obtain ⟨k, hk, rfl, rfl, hok⟩ := hrel
      have HO := Lib.hid hok
      have hbd := accB_bound (x - 192) y k hW0.1 hW0.2 (by omega) hok
      clear hok
      generalize hq : accB (x - 192) y k = q at *
      have HQ := Lib.hid hq
      clear hq
      by_cases hkw : k + 1 < 2
      · have hkw' : (k : Int) + 1 < 2 := by omega
        have hlt : at_ + (k + 1) < len := by have := HL.out; omega
        obtain ⟨hc, hy0, hy1⟩ := HY.out (k + 1) (by omega) hkw hlt
        have HYY := Lib.hid (rfl : y (k + 1) = y (k + 1))
        generalize hz : y (k + 1) = z at hc hy0 hy1
        have HZ := Lib.hid hz
        clear hz HYY
        by_cases hz2 : 128 ≤ z ∧ z ≤ 191
        · have iy := in_yes z 128 191 w hz2.1 hz2.2
          go_wp2_with (go_at_call 38; refine iy.mono ?_; rintro e w' ⟨rfl, rfl⟩)
          go_round
          case rel =>
            refine ⟨k + 1, hkw, by go_num, ?_, fun j h1 h2 => ?_⟩
            · simp only [accB]; rw [HQ.out, HZ.out]
            · by_cases hj : j ≤ k
              · exact HO.out j h1 hj
              · obtain rfl : j = k + 1 := by omega
                rw [HZ.out]; exact hz2
          case measure => simp [intOf]; omega
        · have iy := in_no z 128 191 w (by omega)
          have hR := Lib.hid (HB.out HL.out (k + 1) (by omega) hkw (by rw [HZ.out]; exact hz2))
          clear hz2
          go_wp2_with (go_at_call 38; refine iy.mono ?_; rintro e w' ⟨rfl, rfl⟩)
          go_ret3
          exact ⟨ret_bad hR.out, rfl⟩
      · obtain rfl : k = 1 := by omega
        have hE := HE.out HL.out (fun j h1 h2 => HO.out j h1 (by omega))
        rw [HQ.out] at hE
        have cw := wide_spec q w
        by_cases hw : wideR q = 2
        · have hR := Lib.hid (hE.1 hw)
          rw [hw] at cw
          clear hE hw
          go_wp2_with (go_at_call 79; refine cw.mono ?_; rintro e w' ⟨rfl, rfl⟩)
          go_ret3
          exact ⟨ret_good hR.out, rfl⟩
        · have hR := Lib.hid (hE.2 hw)
          have hw' : (((wideR q : Nat) : Int) != 2) = true := by simp; omega
          clear hE hw
          go_wp2_with (go_at_call 79; refine cw.mono ?_; rintro e w' ⟨rfl, rfl⟩)
          go_ret3
          exact ⟨ret_bad hR.out, rfl⟩
theorem get_spec_3 (w : World) (b o len cap at_ : Nat) (x : Int) (y : Nat → Int) (R : Value) (hat : at_ < len) (hlen : len ≤ 1099511627776) (hx : w.cell? ⟨b, o + at_, none⟩ = some (.int .u8 x)) (hx0 : 224 ≤ x) (hx1 : x ≤ 239)
    (hy : ∀ j : Nat, 1 ≤ j → j < 3 → at_ + j < len → w.cell? ⟨b, o + (at_ + j), none⟩ = some (.int .u8 (y j)) ∧ 0 ≤ y j ∧ y j ≤ 255)
    (hshort : len < at_ + 3 → R = badG)
    (hbad : at_ + 3 ≤ len → ∀ j, 1 ≤ j → j < 3 → ¬ (128 ≤ y j ∧ y j ≤ 191) → R = badG)
    (hend : at_ + 3 ≤ len → (∀ j, 1 ≤ j → j < 3 → 128 ≤ y j ∧ y j ≤ 191) → (wideR (accB (x - 224) y 2) = 3 → R = .tuple #[.int .i64 (accB (x - 224) y 2), .int .i64 (at_ + 3), .bool true]) ∧ (wideR (accB (x - 224) y 2) ≠ 3 → R = badG)) :
    Calls Tryd.prog 71 #[.slice (some ⟨b, o, none⟩) len cap, .int .i64 at_] w fun e w' => e = .returned R ∧ w = w' := by
  have HY := Lib.hid hy
  have HB := Lib.hid hbad
  have HE := Lib.hid hend
  have HS := Lib.hid hshort
  have HR := Lib.hid (trivial : True)
  clear hy hbad hend hshort
  have i1 := in_no x 192 223 w (by omega)
  have i2 := in_yes x 224 239 w hx0 hx1
  have ca : ¬ ((at_ : Int) < 0) := by omega
  have cl : ¬ ((len : Int) ≤ (at_ : Int)) := by omega
  have ca2 : (at_ : Int) ≤ 1099511627776 := by omega
  have cb : (len : Int) ≤ 1099511627776 := by omega
  have c128 : ¬ x < 128 := by omega
  have hW0 : (0 : Int) ≤ x - 224 ∧ x - 224 ≤ 31 := by omega
  by_cases hs : len < at_ + 3
  · have hs' : (len : Int) - at_ < 3 := by omega
    have cw := Lib.hid (HS.out hs)
    clear hs
    go_enter Tryd.func71, Tryd.ntmps71
    go_wp2_with (go_at_call 38; (first | (with_reducible refine i1.mono ?_) | (with_reducible refine i2.mono ?_)); rintro e w' ⟨rfl, rfl⟩)
    go_ret3
    exact ⟨ret_bad cw.out, rfl⟩
  · have hs' : ¬ ((len : Int) - at_ < 3) := by omega
    have hle : at_ + 3 ≤ len := by omega
    have HL := Lib.hid hle
    clear hs hle
    go_enter Tryd.func71, Tryd.ntmps71
    go_wp2_with (go_at_call 38; (first | (with_reducible refine i1.mono ?_) | (with_reducible refine i2.mono ?_)); rintro e w' ⟨rfl, rfl⟩)
    go_loop [9, 10] (fun n i => ∃ k : Nat, k < 3 ∧ i = .int .i64 ((k : Int) + 1) ∧ n = .int .i64 (accB (x - 224) y k) ∧ ∀ j, 1 ≤ j → j ≤ k → 128 ≤ y j ∧ y j ≤ 191) (fun _ i => 3 - (intOf i).toNat)
    case atStart => exact ⟨0, by omega, rfl, rfl, fun j h1 h2 => by omega⟩
    case round =>
      obtain ⟨k, hk, rfl, rfl, hok⟩ := hrel
      have HO := Lib.hid hok
      have hbd := accB_bound (x - 224) y k hW0.1 hW0.2 (by omega) hok
      clear hok
      generalize hq : accB (x - 224) y k = q at *
      have HQ := Lib.hid hq
      clear hq
      by_cases hkw : k + 1 < 3
      · have hkw' : (k : Int) + 1 < 3 := by omega
        have hlt : at_ + (k + 1) < len := by have := HL.out; omega
        obtain ⟨hc, hy0, hy1⟩ := HY.out (k + 1) (by omega) hkw hlt
        have HYY := Lib.hid (rfl : y (k + 1) = y (k + 1))
        generalize hz : y (k + 1) = z at hc hy0 hy1
        have HZ := Lib.hid hz
        clear hz HYY
        by_cases hz2 : 128 ≤ z ∧ z ≤ 191
        · have iy := in_yes z 128 191 w hz2.1 hz2.2
          go_wp2_with (go_at_call 38; refine iy.mono ?_; rintro e w' ⟨rfl, rfl⟩)
          go_round
          case rel =>
            refine ⟨k + 1, hkw, by go_num, ?_, fun j h1 h2 => ?_⟩
            · simp only [accB]; rw [HQ.out, HZ.out]
            · by_cases hj : j ≤ k
              · exact HO.out j h1 hj
              · obtain rfl : j = k + 1 := by omega
                rw [HZ.out]; exact hz2
          case measure => simp [intOf]; omega
        · have iy := in_no z 128 191 w (by omega)
          have hR := Lib.hid (HB.out HL.out (k + 1) (by omega) hkw (by rw [HZ.out]; exact hz2))
          clear hz2
          go_wp2_with (go_at_call 38; refine iy.mono ?_; rintro e w' ⟨rfl, rfl⟩)
          go_ret3
          exact ⟨ret_bad hR.out, rfl⟩
      · obtain rfl : k = 2 := by omega
        have hE := HE.out HL.out (fun j h1 h2 => HO.out j h1 (by omega))
        rw [HQ.out] at hE
        have cw := wide_spec q w
        by_cases hw : wideR q = 3
        · have hR := Lib.hid (hE.1 hw)
          rw [hw] at cw
          clear hE hw
          go_wp2_with (go_at_call 79; refine cw.mono ?_; rintro e w' ⟨rfl, rfl⟩)
          go_ret3
          exact ⟨ret_good hR.out, rfl⟩
        · have hR := Lib.hid (hE.2 hw)
          have hw' : (((wideR q : Nat) : Int) != 3) = true := by simp; omega
          clear hE hw
          go_wp2_with (go_at_call 79; refine cw.mono ?_; rintro e w' ⟨rfl, rfl⟩)
          go_ret3
          exact ⟨ret_bad hR.out, rfl⟩
theorem get_spec_4 (w : World) (b o len cap at_ : Nat) (x : Int) (y : Nat → Int) (R : Value) (hat : at_ < len) (hlen : len ≤ 1099511627776) (hx : w.cell? ⟨b, o + at_, none⟩ = some (.int .u8 x)) (hx0 : 240 ≤ x) (hx1 : x ≤ 247)
    (hy : ∀ j : Nat, 1 ≤ j → j < 4 → at_ + j < len → w.cell? ⟨b, o + (at_ + j), none⟩ = some (.int .u8 (y j)) ∧ 0 ≤ y j ∧ y j ≤ 255)
    (hshort : len < at_ + 4 → R = badG)
    (hbad : at_ + 4 ≤ len → ∀ j, 1 ≤ j → j < 4 → ¬ (128 ≤ y j ∧ y j ≤ 191) → R = badG)
    (hend : at_ + 4 ≤ len → (∀ j, 1 ≤ j → j < 4 → 128 ≤ y j ∧ y j ≤ 191) → (wideR (accB (x - 240) y 3) = 4 → R = .tuple #[.int .i64 (accB (x - 240) y 3), .int .i64 (at_ + 4), .bool true]) ∧ (wideR (accB (x - 240) y 3) ≠ 4 → R = badG)) :
    Calls Tryd.prog 71 #[.slice (some ⟨b, o, none⟩) len cap, .int .i64 at_] w fun e w' => e = .returned R ∧ w = w' := by
  have HY := Lib.hid hy
  have HB := Lib.hid hbad
  have HE := Lib.hid hend
  have HS := Lib.hid hshort
  have HR := Lib.hid (trivial : True)
  clear hy hbad hend hshort
  have i1 := in_no x 192 223 w (by omega)
  have i2 := in_no x 224 239 w (by omega)
  have i3 := in_yes x 240 247 w hx0 hx1
  have ca : ¬ ((at_ : Int) < 0) := by omega
  have cl : ¬ ((len : Int) ≤ (at_ : Int)) := by omega
  have ca2 : (at_ : Int) ≤ 1099511627776 := by omega
  have cb : (len : Int) ≤ 1099511627776 := by omega
  have c128 : ¬ x < 128 := by omega
  have hW0 : (0 : Int) ≤ x - 240 ∧ x - 240 ≤ 31 := by omega
  by_cases hs : len < at_ + 4
  · have hs' : (len : Int) - at_ < 4 := by omega
    have cw := Lib.hid (HS.out hs)
    clear hs
    go_enter Tryd.func71, Tryd.ntmps71
    go_wp2_with (go_at_call 38; (first | (with_reducible refine i1.mono ?_) | (with_reducible refine i2.mono ?_) | (with_reducible refine i3.mono ?_)); rintro e w' ⟨rfl, rfl⟩)
    go_ret3
    exact ⟨ret_bad cw.out, rfl⟩
  · have hs' : ¬ ((len : Int) - at_ < 4) := by omega
    have hle : at_ + 4 ≤ len := by omega
    have HL := Lib.hid hle
    clear hs hle
    go_enter Tryd.func71, Tryd.ntmps71
    go_wp2_with (go_at_call 38; (first | (with_reducible refine i1.mono ?_) | (with_reducible refine i2.mono ?_) | (with_reducible refine i3.mono ?_)); rintro e w' ⟨rfl, rfl⟩)
    go_loop [9, 10] (fun n i => ∃ k : Nat, k < 4 ∧ i = .int .i64 ((k : Int) + 1) ∧ n = .int .i64 (accB (x - 240) y k) ∧ ∀ j, 1 ≤ j → j ≤ k → 128 ≤ y j ∧ y j ≤ 191) (fun _ i => 4 - (intOf i).toNat)
    case atStart => exact ⟨0, by omega, rfl, rfl, fun j h1 h2 => by omega⟩
    case round =>
      obtain ⟨k, hk, rfl, rfl, hok⟩ := hrel
      have HO := Lib.hid hok
      have hbd := accB_bound (x - 240) y k hW0.1 hW0.2 (by omega) hok
      clear hok
      generalize hq : accB (x - 240) y k = q at *
      have HQ := Lib.hid hq
      clear hq
      by_cases hkw : k + 1 < 4
      · have hkw' : (k : Int) + 1 < 4 := by omega
        have hlt : at_ + (k + 1) < len := by have := HL.out; omega
        obtain ⟨hc, hy0, hy1⟩ := HY.out (k + 1) (by omega) hkw hlt
        have HYY := Lib.hid (rfl : y (k + 1) = y (k + 1))
        generalize hz : y (k + 1) = z at hc hy0 hy1
        have HZ := Lib.hid hz
        clear hz HYY
        by_cases hz2 : 128 ≤ z ∧ z ≤ 191
        · have iy := in_yes z 128 191 w hz2.1 hz2.2
          go_wp2_with (go_at_call 38; refine iy.mono ?_; rintro e w' ⟨rfl, rfl⟩)
          go_round
          case rel =>
            refine ⟨k + 1, hkw, by go_num, ?_, fun j h1 h2 => ?_⟩
            · simp only [accB]; rw [HQ.out, HZ.out]
            · by_cases hj : j ≤ k
              · exact HO.out j h1 hj
              · obtain rfl : j = k + 1 := by omega
                rw [HZ.out]; exact hz2
          case measure => simp [intOf]; omega
        · have iy := in_no z 128 191 w (by omega)
          have hR := Lib.hid (HB.out HL.out (k + 1) (by omega) hkw (by rw [HZ.out]; exact hz2))
          clear hz2
          go_wp2_with (go_at_call 38; refine iy.mono ?_; rintro e w' ⟨rfl, rfl⟩)
          go_ret3
          exact ⟨ret_bad hR.out, rfl⟩
      · obtain rfl : k = 3 := by omega
        have hE := HE.out HL.out (fun j h1 h2 => HO.out j h1 (by omega))
        rw [HQ.out] at hE
        have cw := wide_spec q w
        by_cases hw : wideR q = 4
        · have hR := Lib.hid (hE.1 hw)
          rw [hw] at cw
          clear hE hw
          go_wp2_with (go_at_call 79; refine cw.mono ?_; rintro e w' ⟨rfl, rfl⟩)
          go_ret3
          exact ⟨ret_good hR.out, rfl⟩
        · have hR := Lib.hid (hE.2 hw)
          have hw' : (((wideR q : Nat) : Int) != 4) = true := by simp; omega
          clear hE hw
          go_wp2_with (go_at_call 79; refine cw.mono ?_; rintro e w' ⟨rfl, rfl⟩)
          go_ret3
          exact ⟨ret_bad hR.out, rfl⟩
/-- the decoder of strings, at place i of the bytes l -/
def dec (l : List UInt8) (i : Nat) : Nat × Nat := Utf8.decode ⟨l.toArray⟩ i
def byteN (l : List UInt8) (i : Nat) : Nat := ((ByteArray.mk l.toArray).get! i).toNat
theorem byteN_lt (l : List UInt8) (i : Nat) : byteN l i < 256 := UInt8.toNat_lt _
theorem byteN_at (l : List UInt8) (i : Nat) (h : i < l.length) : byteN l i = (l[i]).toNat := by
  have : (ByteArray.mk l.toArray).get! i = l[i] := (getElem!_pos l.toArray i (by simpa using h)).trans (by simp)
  unfold byteN
  rw [this]
theorem dec_eq (l : List UInt8) (i : Nat) : dec l i = Lib.decodeN (l.length - i) (byteN l i) (byteN l (i + 1)) (byteN l (i + 2)) (byteN l (i + 3)) := by
  unfold dec byteN
  rw [Lib.decode_at]
  rfl
theorem byteN_out (m : List UInt8) (k : Nat) (hk : ¬ k < m.length) : byteN m k = 0 := by
  have : (ByteArray.mk m.toArray).get! k = 0 := getElem!_neg m.toArray k (by simpa using hk)
  unfold byteN; rw [this]; rfl
theorem byteN_drop (l : List UInt8) (i j : Nat) : byteN (l.drop i) j = byteN l (i + j) := by
  by_cases h : i + j < l.length
  · rw [byteN_at _ _ h, byteN_at _ _ (by simp; omega), List.getElem_drop]
  · rw [byteN_out _ _ h, byteN_out _ _ (by simp; omega)]
theorem dec_shape (l : List UInt8) (i : Nat) (h : i < l.length) : (dec l i).1 ≤ 1114111 ∧ 1 ≤ (dec l i).2 ∧ i + (dec l i).2 ≤ l.length := by
  have b0 := byteN_lt l i
  have b1 := byteN_lt l (i + 1)
  have b2 := byteN_lt l (i + 2)
  have b3 := byteN_lt l (i + 3)
  rw [dec_eq]
  rcases Lib.decodeN_shape (l.length - i) (byteN l i) (byteN l (i + 1)) (byteN l (i + 2)) (byteN l (i + 3)) with ⟨h1, h2⟩ | ⟨h1, h3, h4, h5, h2⟩ | ⟨h1, h3, h4, h5, h6, h7, h2⟩ | ⟨h1, h3, h4, h5, h6, h7, h8, h2⟩ | h2
  all_goals rw [h2]; simp only; omega
/-- what GetRune answers at place a of the bytes l -/
def getV (l : List UInt8) (a : Int) : Value :=
  if 0 ≤ a ∧ a < l.length then (if dec l a.toNat = (65533, 1) then badG else .tuple #[.int .i64 (dec l a.toNat).1, .int .i64 (a + (dec l a.toNat).2), .bool true]) else badG
theorem getV_out {l : List UInt8} {a : Int} (h : ¬ (0 ≤ a ∧ a < l.length)) : getV l a = badG := by unfold getV; rw [if_neg h]
theorem getV_bad {l : List UInt8} {i : Nat} (h : dec l i = (65533, 1)) : getV l i = badG := by
  unfold getV; split
  · rw [Int.toNat_natCast, if_pos h]
  · rfl
theorem getV_good {l : List UInt8} {i : Nat} {r k : Nat} (hi : i < l.length) (h : dec l i = (r, k)) (hne : ¬ (r = 65533 ∧ k = 1)) : getV l i = .tuple #[.int .i64 r, .int .i64 (i + k), .bool true] := by
  unfold getV
  rw [if_pos (by omega), Int.toNat_natCast, if_neg (by rw [h]; simpa using hne), h]
theorem wide2 {q : Int} : wideR q = 2 ↔ 128 ≤ q ∧ q < 2048 := by rcases wideR_cases q with h | h | h | h | ⟨h, e⟩ <;> first | omega | (have : ¬ (128 ≤ q ∧ q < 2048) := fun g => h (okR_mk (by omega)); omega)
theorem wide3 {q : Int} : wideR q = 3 ↔ 2048 ≤ q ∧ q < 65536 ∧ (q < 55296 ∨ 57343 < q) := by rcases wideR_cases q with h | h | h | h | ⟨h, e⟩ <;> first | omega | (have : ¬ (2048 ≤ q ∧ q < 65536 ∧ (q < 55296 ∨ 57343 < q)) := fun g => h (okR_mk (by omega)); omega)
theorem wide4 {q : Int} : wideR q = 4 ↔ 65536 ≤ q ∧ q ≤ 1114111 := by rcases wideR_cases q with h | h | h | h | ⟨h, e⟩ <;> first | omega | (have : ¬ (65536 ≤ q ∧ q ≤ 1114111) := fun g => h (okR_mk (by omega)); omega)
theorem decN_two {n b0 b1 b2 b3 : Nat} (h : 192 ≤ b0 ∧ b0 ≤ 223) (h1 : b1 < 256) : (2 ≤ n ∧ 128 ≤ b1 ∧ b1 ≤ 191 ∧ 128 ≤ 64 * (b0 - 192) + (b1 - 128) ∧ Lib.decodeN n b0 b1 b2 b3 = (64 * (b0 - 192) + (b1 - 128), 2)) ∨ (¬ (2 ≤ n ∧ 128 ≤ b1 ∧ b1 ≤ 191 ∧ 128 ≤ 64 * (b0 - 192) + (b1 - 128)) ∧ Lib.decodeN n b0 b1 b2 b3 = (65533, 1)) := by
  unfold Lib.decodeN
  repeat' split
  all_goals first
    | (exfalso; omega)
    | (left; exact ⟨by omega, by omega, by omega, by omega, by apply Prod.ext <;> simp only <;> omega⟩)
    | (right; exact ⟨by omega, rfl⟩)
theorem decN_three {n b0 b1 b2 b3 : Nat} (h : 224 ≤ b0 ∧ b0 ≤ 239) (h1 : b1 < 256) (h2 : b2 < 256) :
    (3 ≤ n ∧ 128 ≤ b1 ∧ b1 ≤ 191 ∧ 128 ≤ b2 ∧ b2 ≤ 191 ∧ (2048 ≤ 64 * (64 * (b0 - 224) + (b1 - 128)) + (b2 - 128) ∧ (64 * (64 * (b0 - 224) + (b1 - 128)) + (b2 - 128) < 55296 ∨ 57343 < 64 * (64 * (b0 - 224) + (b1 - 128)) + (b2 - 128))) ∧ Lib.decodeN n b0 b1 b2 b3 = (64 * (64 * (b0 - 224) + (b1 - 128)) + (b2 - 128), 3)) ∨
    (¬ (3 ≤ n ∧ 128 ≤ b1 ∧ b1 ≤ 191 ∧ 128 ≤ b2 ∧ b2 ≤ 191 ∧ (2048 ≤ 64 * (64 * (b0 - 224) + (b1 - 128)) + (b2 - 128) ∧ (64 * (64 * (b0 - 224) + (b1 - 128)) + (b2 - 128) < 55296 ∨ 57343 < 64 * (64 * (b0 - 224) + (b1 - 128)) + (b2 - 128)))) ∧ Lib.decodeN n b0 b1 b2 b3 = (65533, 1)) := by
  unfold Lib.decodeN
  repeat' split
  all_goals first
    | (exfalso; omega)
    | (left; exact ⟨by omega, by omega, by omega, by omega, by omega, by omega, by apply Prod.ext <;> simp only <;> omega⟩)
    | (right; exact ⟨by omega, rfl⟩)
theorem decN_four {n b0 b1 b2 b3 : Nat} (h : 240 ≤ b0 ∧ b0 ≤ 247) (h1 : b1 < 256) (h2 : b2 < 256) (h3 : b3 < 256) :
    (4 ≤ n ∧ 128 ≤ b1 ∧ b1 ≤ 191 ∧ 128 ≤ b2 ∧ b2 ≤ 191 ∧ 128 ≤ b3 ∧ b3 ≤ 191 ∧ (65536 ≤ 64 * (64 * (64 * (b0 - 240) + (b1 - 128)) + (b2 - 128)) + (b3 - 128) ∧ 64 * (64 * (64 * (b0 - 240) + (b1 - 128)) + (b2 - 128)) + (b3 - 128) ≤ 1114111) ∧ Lib.decodeN n b0 b1 b2 b3 = (64 * (64 * (64 * (b0 - 240) + (b1 - 128)) + (b2 - 128)) + (b3 - 128), 4)) ∨
    (¬ (4 ≤ n ∧ 128 ≤ b1 ∧ b1 ≤ 191 ∧ 128 ≤ b2 ∧ b2 ≤ 191 ∧ 128 ≤ b3 ∧ b3 ≤ 191 ∧ (65536 ≤ 64 * (64 * (64 * (b0 - 240) + (b1 - 128)) + (b2 - 128)) + (b3 - 128) ∧ 64 * (64 * (64 * (b0 - 240) + (b1 - 128)) + (b2 - 128)) + (b3 - 128) ≤ 1114111)) ∧ Lib.decodeN n b0 b1 b2 b3 = (65533, 1)) := by
  unfold Lib.decodeN
  repeat' split
  all_goals first
    | (exfalso; omega)
    | (left; exact ⟨by omega, by omega, by omega, by omega, by omega, by omega, by omega, by omega, by apply Prod.ext <;> simp only <;> omega⟩)
    | (right; exact ⟨by omega, rfl⟩)
theorem decN_bad {n b0 b1 b2 b3 : Nat} (h : (128 ≤ b0 ∧ b0 < 192) ∨ 248 ≤ b0) (h0 : b0 < 256) : Lib.decodeN n b0 b1 b2 b3 = (65533, 1) := by
  unfold Lib.decodeN
  repeat' split
  all_goals first | (exfalso; omega) | rfl
theorem decN_one {n b0 b1 b2 b3 : Nat} (h : b0 < 128) : Lib.decodeN n b0 b1 b2 b3 = (b0, 1) := by unfold Lib.decodeN; rw [if_pos h]
end Go.Proofs.YtilgncebhgplaaaDoor
