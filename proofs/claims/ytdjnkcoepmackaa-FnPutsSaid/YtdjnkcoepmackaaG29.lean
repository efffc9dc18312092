import Derived.Test.YtdjnkcoepmackaaG24
import Derived.Test.YtdjnkcoepmackaaG20
import Derived.Test.YtdjnkcoepmackaaG8
import Derived.Deep.AppendLies
import Derived.Deep.RegionLaw
import Derived.Laws.AppendOwn
/- The paths of all values in a tree, plain. -/
namespace Go.Proofs.Ytdjnkcoepmackaa
open Go.RowKit
/-- the step to the element at place i of a value of kind k -/
def stepAt (k : Int) (i : Nat) : St := if k = 10 then (((i / 2 : Nat) : Int), i % 2 == 0) else ((i : Int), false)
mutual
def PT.paths : PT → List St → List (List St)
  | .mk k _ _ _ l, p => p :: PT.pathsL k 0 l p
def PT.pathsL : Int → Nat → List PT → List St → List (List St)
  | _, _, [], _ => []
  | k, i, t :: l, p => t.paths (p ++ [stepAt k i]) ++ PT.pathsL k (i + 1) l p
end
theorem paths_len (T : PT) : ∀ p, (T.paths p).length = T.cnt := by
  induction T using PT.ind with
  | h k n x s l ih =>
    intro p
    have : ∀ i, (PT.pathsL k i l p).length = PT.cntL l := by
      induction l with
      | nil => intro i; rfl
      | cons t l ih2 =>
        intro i
        simp only [PT.pathsL, PT.cntL, List.length_append]
        rw [ih t (by simp), ih2 (fun u hu => ih u (by simp [hu]))]
    simp only [PT.paths, PT.cnt, List.length_cons, this]
theorem pathsL_len (k : Int) (l : List PT) (p : List St) : ∀ i, (PT.pathsL k i l p).length = PT.cntL l := by
  induction l with
  | nil => intro i; rfl
  | cons t l ih => intro i; simp only [PT.pathsL, PT.cntL, List.length_append, paths_len, ih]
theorem pathsL_take (k : Int) (p : List St) : ∀ (l : List PT) (i j : Nat) (h : i < l.length), PT.pathsL k j (l.take (i + 1)) p = PT.pathsL k j (l.take i) p ++ (l[i]).paths (p ++ [stepAt k (j + i)])
  | t :: l, 0, j, _ => by simp [PT.pathsL]
  | t :: l, i + 1, j, h => by
    have h2 : i < l.length := by simpa using h
    have := pathsL_take k p l i (j + 1) h2
    simp only [List.take_succ_cons, PT.pathsL, List.getElem_cons_succ]
    rw [this, List.append_assoc, show j + 1 + i = j + (i + 1) by omega]
theorem paths_bound (T : PT) : ∀ p, ∀ q ∈ T.paths p, q.length + 1 ≤ p.length + T.deep := by
  induction T using PT.ind with
  | h k n x s l ih =>
    intro p q hq
    have hL : ∀ i, ∀ q ∈ PT.pathsL k i l p, q.length + 1 ≤ p.length + 1 + PT.deepL l := by
      clear hq q
      induction l with
      | nil => intro i q hq; simp [PT.pathsL] at hq
      | cons t l ih2 =>
        intro i q hq
        simp only [PT.pathsL, List.mem_append] at hq
        simp only [PT.deepL]
        rcases hq with hq | hq
        · have := ih t (by simp) _ q hq
          simp at this; omega
        · have := ih2 (fun u hu => ih u (by simp [hu])) (i + 1) q hq
          omega
    simp only [PT.paths, List.mem_cons] at hq
    simp only [PT.deep]
    rcases hq with rfl | hq
    · omega
    · have := hL 0 q hq; omega
theorem paths_ne (T : PT) (p : List St) : 0 < (T.paths p).length := by obtain ⟨k, n, x, s, l⟩ := T; simp [PT.paths]
end Go.Proofs.Ytdjnkcoepmackaa
/- Rows of steps of one's own, as what a law keeps track of; their marks. -/
namespace Go.Proofs.Ytdjnkcoepmackaa
open Go.RowKit
set_option maxRecDepth 100000
/-- a row of steps -/
structure SR where
  a : Option Addr
  cap : Nat
  l : List St
@[reducible] def SR.val (P : SR) : Value := .slice P.a P.l.length P.cap
def SR.blks (P : SR) : List Nat := (P.a.map (·.block)).toList
def SR.Own (P : SR) (w : World) (B : Nat) : Prop := OwnS w B P.a P.cap P.l
theorem SR.Own.lt {w : World} {B : Nat} {P : SR} (h : P.Own w B) : ∀ k ∈ P.blks, B ≤ k ∧ k < w.heap.size := fun k hk => OwnS.lt h k (by simpa [SR.blks] using hk)
theorem SR.Own.kept {w w' : World} {B : Nat} {P : SR} (h : P.Own w B) (hk : ∀ k ∈ P.blks, w'.heap[k]? = w.heap[k]?) : P.Own w' B :=
  own_heap h fun g hg => hk g (by
    cases ha : P.a with
    | none => rw [ha] at hg; simp [Value.ownBlock] at hg
    | some a => rw [ha] at hg; simp [Value.ownBlock] at hg; simp [SR.blks, ha, hg])
theorem SR.Own.blw {w w' : World} {B : Nat} {P : SR} (h : P.Own w B) (hb : Below w.heap.size w w') : P.Own w' B := h.kept fun k hk => hb.block k (h.lt k hk).2
theorem SR.Own.base {w : World} {B B' : Nat} {P : SR} (h : P.Own w B) (hB : B' ≤ B) : P.Own w B' := OwnS.base h hB
theorem SR.Own.drew {w : World} {B : Nat} {P : SR} (h : P.Own w B) : P.Own w.drew B := h.kept (w' := w.drew) (fun _ _ => rfl)
theorem SR.Own.onlyBs {w w' : World} {B : Nat} {P : SR} {bs : List Nat} (h : P.Own w B) (ho : OnlyBs bs w w') (hd : ∀ k ∈ P.blks, k ∉ bs) : P.Own w' B := h.kept fun k hk => ho.block k (h.lt k hk).2 (hd k hk)
theorem SR.Own.sat {w : World} {B : Nat} {P : SR} (h : P.Own w B) : SAt w w.heap.size P.a P.cap P.l := OwnS.sat h
theorem sown_blw {w w' : World} {B : Nat} {P : SR} (hb : Below w.heap.size w w') (h : P.Own w B) : P.Own w' B := h.blw hb
theorem sown_alloc {w : World} {o : Obj} {B : Nat} {P : SR} (h : P.Own w B) : P.Own (w.alloc o) B := h.blw (vbox w o)
theorem mark_steps (P : SR) (w : World) (B c : Nat) (h : P.Own w B) (hl : P.l.length ≤ 1048576) (hc : c ≤ 100000000) :
    Calls Try.prog 105 #[P.val, .int .i64 (c : Nat)] w fun e w' => (e = .returned (.int .i64 (c + 2 * P.l.length : Nat)) ∧ True) ∧ OnlyBs P.blks w w' := by
  obtain ⟨a, cap, l⟩ := P
  have H0 := Lib.hid (show w.ownsRow B 105 2 (.slice a l.length cap) l.length (stv l) from h)
  have hw : ∀ i : Nat, i < l.length → IntKind.i64.wrap ((c : Int) + 2 * i + 1) = (c : Int) + 2 * i + 1 ∧ IntKind.i64.wrap ((c : Int) + 2 * i + 1 + 1) = (c : Int) + 2 * i + 1 + 1 := fun i hi => by
    replace hl : l.length ≤ 1048576 := hl
    exact ⟨IntWalk.i64_in _ (by omega), IntWalk.i64_in _ (by omega)⟩
  replace hl : l.length ≤ 1048576 := hl
  show Calls Try.prog 105 #[.slice a l.length cap, .int .i64 (c : Nat)] w fun e w' => (e = .returned (.int .i64 (c + 2 * l.length : Nat)) ∧ True) ∧ OnlyBs ((a.map (·.block)).toList) w w'
  rcases h.2 with ⟨hn, h0⟩ | ⟨g, cap', cur, hv, hb, hg, hnc, hcm, hcs, htake⟩
  · replace h0 : l.length = 0 := h0
    obtain rfl : l = [] := List.eq_nil_of_length_eq_zero h0
    clear hn h0 h hw
    go_enter Try.func105, Try.ntmps105
    go_wp2
    go_loopw [1, 5] (fun k i wr => k = .int .i64 c ∧ i = .int .i64 0 ∧ wr = w) (fun _ _ _ => 0)
    case atStart => exact ⟨rfl, rfl, rfl⟩
    case round =>
      obtain ⟨rfl, rfl, rfl⟩ := hrel
      go_wp2
      go_ret
      exact ⟨⟨by simp, trivial⟩, OnlyBs.refl _ _⟩
  · injection hv with h1 h2 h3
    replace h1 : a = some ⟨g, 0, none⟩ := h1
    subst h1
    clear hb hg hnc hcm hcs htake h h2 h3
    have HW := Lib.hid hw
    clear hw
    go_enter Try.func105, Try.ntmps105
    go_wp2
    go_loopw [1, 5] (fun k i wr => ∃ (i' : Nat) (xs : List Value), k = .int .i64 ((c : Int) + 2 * i') ∧ i = .int .i64 i' ∧ i' ≤ l.length ∧ Hid (wr.ownsRow B 105 2 (.slice (some ⟨g, 0, none⟩) l.length cap) l.length xs) ∧ Hid (OnlyBs [g] w wr)) (fun _ i _ => l.length - (intOf i).toNat)
    case atStart => exact ⟨0, stv l, by simp, rfl, Nat.zero_le _, H0, Lib.hid (OnlyBs.refl _ _)⟩
    case round =>
      obtain ⟨i', xs, rfl, rfl, hi', HO, HB⟩ := hrel
      by_cases hlt : i' < l.length
      · obtain ⟨hw1, hw2⟩ := HW.out i' hlt
        have hfr := HO.out.frozenAt
        have hcell : ∀ c, c < 2 → ∃ u, wr.cell? ⟨g, i' * 2 + c, none⟩ = some u := fun c hc => by
          have h1 : i' * 2 + c < l.length * 2 := by omega
          exact ⟨_, (HO.out.cellAt (i' * 2 + c) h1).trans (List.getElem?_eq_getElem (by rw [HO.out.1]; exact h1))⟩
        obtain ⟨u0, k0⟩ := hcell 0 (by omega)
        obtain ⟨u1, k1⟩ := hcell 1 (by omega)
        rw [Nat.add_zero] at k0
        clear hcell
        go_wp2
        refine ⟨⟨i' + 1, _, by first | (congr 1; omega) | congr 1, by go_num, by omega, Lib.hid ((HO.out.stored (i' * 2) _).1.stored (i' * 2 + 1) _).1, Lib.hid ((HB.out.set (by simp)).set (by simp))⟩, ?_⟩
        simp [intOf]; omega
      · obtain heq : i' = l.length := by omega
        go_wp2
        go_ret
        exact ⟨⟨ret_int (by rw [heq]; omega), trivial⟩, HB.out⟩
end Go.Proofs.Ytdjnkcoepmackaa
/- Rows of paths of one's own, each path in a row of its own; l8Steps of the model. -/
namespace Go
variable {P : Program} {w : World}
theorem Ytdjnkcoepmackaastep_append_own {ops : Array Oper} {o : Oper} {a : Act} {K : Act → World → Prop} {Q : Exit → Act → World → Prop} {E : Prop} (hgd : o.guard = none) (s x : Operand) (t : TypeId)
    (ho : o.op = .call { callee := .builtin .append, args := #[s, x], argTypes := #[t, t] })
    (base : Nat) (e : TypeId) (i : TypeInfo) (z : Value) (size bytes : Nat) (ht : P.underlying t = some (.slice e)) (hi : P.info? e = some i) (hz : i.zero = some z)
    (hsize : i.size = size) (hby : i.bytes = bytes) (hzs : z.cells.size = size) (hsz : 0 < size)
    (v : Value) (n : Nat) (xs : List Value) (hs : a.eval s = v) (hown : w.ownsRow base e size v n xs)
    (ad : Addr) (m c : Nat) (news : List Value) (hx : a.eval x = .slice (some ad) m c) (hl : news.length = m * size) (hnews : ∀ j u, news[j]? = some u → w.cell? (ad.add j) = some u) (h1 : ∀ u ∈ news, u.oneCell' = true)
    (h63 : n + m ≤ maxLen) (hbytes : (n + m) * bytes ≤ 140737488355328) (hbase : base ≤ w.heap.size)
    (h : ∀ v' w', w'.ownsRow base e size v' (n + m) (xs ++ news) → w.grownBy w' v.ownBlock → K (a.put o.dst v') w') :
    if Region.wanted o (yielded ops a.tmps) = true then Oper.wp P o a w K Q else E := by
  have hw : Region.wanted o (yielded ops a.tmps) = true := by simp [Region.wanted, hgd]
  rw [if_pos hw]
  exact wp_append_own w s x t ho base e i z size bytes ht hi hz hsize hby hzs hsz v n xs hs hown ad m c news hx hl hnews h1 h63 hbytes hbase fun v' w' h2 h3 _ => h v' w' h2 h3
end Go
namespace Go.Proofs.Ytdjnkcoepmackaa
open Go.RowKit
set_option maxRecDepth 100000
theorem pathInfo : (Try.prog.info? 99).map (fun i => (i.zero, i.size, i.bytes)) = some (some (.agg #[.slice none 0 0]), 1, 24) := by kernel_rfl
def cellsP (l : List SR) : List Value := l.map SR.val
def blksP (l : List SR) : List Nat := l.flatMap SR.blks
@[simp] theorem cellsP_length (l : List SR) : (cellsP l).length = l.length := by simp [cellsP]
theorem cellsP_append (l m : List SR) : cellsP (l ++ m) = cellsP l ++ cellsP m := by simp [cellsP]
theorem blksP_append (l m : List SR) : blksP (l ++ m) = blksP l ++ blksP m := by simp [blksP]
theorem mem_blksP {l : List SR} {k : Nat} : k ∈ blksP l ↔ ∃ P ∈ l, k ∈ P.blks := by simp [blksP]
theorem cellsP_one (l : List SR) : ∀ u ∈ cellsP l, u.oneCell' = true := by
  intro u hu
  obtain ⟨s, _, rfl⟩ := List.mem_map.1 hu
  rfl
/-- a row of paths -/
structure OwnP (w : World) (B : Nat) (a : Option Addr) (cap : Nat) (l : List SR) : Prop where
  row : w.ownsRow B 99 1 (.slice a l.length cap) l.length (cellsP l)
  sub : ∀ P ∈ l, P.Own w B
theorem OwnP.blw {w w' : World} {B : Nat} {a : Option Addr} {cap : Nat} {l : List SR} (h : OwnP w B a cap l) (hb : Below w.heap.size w w') : OwnP w' B a cap l :=
  ⟨own_heap h.row fun g hg => hb.block g (h.row.lt g hg).2, fun P hP => (h.sub P hP).blw hb⟩
theorem OwnP.base {w : World} {B B' : Nat} {a : Option Addr} {cap : Nat} {l : List SR} (h : OwnP w B a cap l) (hB : B' ≤ B) : OwnP w B' a cap l :=
  ⟨own_base' h.row hB, fun P hP => (h.sub P hP).base hB⟩
theorem OwnP.lt {w : World} {B : Nat} {a : Option Addr} {cap : Nat} {l : List SR} (h : OwnP w B a cap l) : ∀ k ∈ (a.map (·.block)).toList ++ blksP l, B ≤ k ∧ k < w.heap.size := fun k hk => by
  rcases List.mem_append.1 hk with hk | hk
  · exact h.row.lt k (by rw [ownBlock_slice]; simpa using hk)
  · obtain ⟨P, hP, hk⟩ := mem_blksP.1 hk
    exact (h.sub P hP).lt k hk
/-- more paths at the end -/
theorem paths_push {W w' : World} {K gg cap cap' : Nat} {a : Option Addr} {lr l2 : List SR} (h0 : OwnP W K a cap lr) (hnd : ((a.map (·.block)).toList ++ blksP lr).Nodup) (h2 : ∀ P ∈ l2, P.Own W K) (hnd2 : (blksP l2).Nodup) (hdis : ∀ k ∈ blksP l2, k ∉ (a.map (·.block)).toList ++ blksP lr)
    (hown : w'.ownsRow K 99 1 (.slice (some ⟨gg, 0, none⟩) (lr.length + l2.length) cap') (lr.length + l2.length) (cellsP lr ++ cellsP l2)) (hgrow : W.grownBy w' (Value.slice a lr.length cap).ownBlock) (hat : (Value.slice a lr.length cap).ownBlock = some gg ∨ gg = W.heap.size) :
    OwnP w' K (some ⟨gg, 0, none⟩) cap' (lr ++ l2) ∧ (gg :: blksP (lr ++ l2)).Nodup := by
  rw [ownBlock_slice] at hgrow hat
  have hlt2 : ∀ k ∈ blksP l2, k < W.heap.size := fun k hk => by
    obtain ⟨P, hP, hk⟩ := mem_blksP.1 hk
    exact ((h2 P hP).lt k hk).2
  rw [List.nodup_append] at hnd
  have hsub : ∀ P : SR, P.Own W K → (∀ k ∈ P.blks, k ∉ (a.map (·.block)).toList) → P.Own w' K := fun P hP hd => hP.kept fun k hk => hgrow.block k (hP.lt k hk).2 (fun e => hd k hk (by rw [← e]; simp))
  refine ⟨⟨by rw [cellsP_append, List.length_append]; exact hown, fun P hP => ?_⟩, ?_⟩
  · rcases List.mem_append.1 hP with hP | hP
    · exact hsub P (h0.sub P hP) (fun k hk hk2 => hnd.2.2 k hk2 k (mem_blksP.2 ⟨P, hP, hk⟩) rfl)
    · exact hsub P (h2 P hP) (fun k hk hk2 => hdis k (mem_blksP.2 ⟨P, hP, hk⟩) (by simp only [List.mem_append]; exact .inl hk2))
  · rw [blksP_append, List.nodup_cons, List.nodup_append]
    refine ⟨fun hm => ?_, hnd.2.1, hnd2, fun x hx y hy e => hdis y hy (by rw [← e, List.mem_append]; exact .inr hx)⟩
    rcases hat with hat | hat
    · have hga : gg ∈ (a.map (·.block)).toList := by rw [hat]; simp
      rcases List.mem_append.1 hm with hm | hm
      · exact hnd.2.2 gg hga gg hm rfl
      · exact hdis gg hm (by simp only [List.mem_append]; exact .inl hga)
    · rcases List.mem_append.1 hm with hm | hm
      · have := (h0.lt gg (by simp only [List.mem_append]; exact .inr hm)).2; omega
      · have := hlt2 gg hm; omega
/-- paths in rows of their own are handed on -/
def FreshP (w : World) (L : List (List St)) (e : Ending) (w' : World) : Prop := ∃ (a' : Option Addr) (cap' : Nat) (lr : List SR), lr.map SR.l = L ∧ e = .returned (.slice a' lr.length cap') ∧ OwnP w' w.heap.size a' cap' lr ∧ ((a'.map (·.block)).toList ++ blksP lr).Nodup ∧ Below w.heap.size w w'
theorem SAt.news {w : World} {N b o cap : Nat} {l : List St} (h : SAt w N (some ⟨b, o, none⟩) cap l) : ∀ j u, (stv l)[j]? = some u → w.cell? ((⟨b, o, none⟩ : Addr).add j) = some u := fun j u hu => by
  have hadd : (⟨b, o, none⟩ : Addr).add j = ⟨b, o + j, none⟩ := by simp [Addr.add]
  rw [hadd]
  have hj : j < l.length * 2 := by
    rcases Nat.lt_or_ge j (l.length * 2) with h | h
    · exact h
    · rw [List.getElem?_eq_none (by rw [sv_length]; exact h)] at hu; cases hu
  have hi : j / 2 < l.length := by omega
  obtain ⟨b', o', ha, _, h0, h1⟩ := h.cell (j / 2) hi
  injection ha with ha
  injection ha with e1 e2
  subst e1 e2
  rcases Nat.mod_two_eq_zero_or_one j with hm | hm
  · have e : j = j / 2 * 2 := by omega
    rw [e, sv_get0 l _ hi] at hu
    rw [e, ← hu]; exact h0
  · have e : j = j / 2 * 2 + 1 := by omega
    rw [e, sv_get1 l _ hi] at hu
    rw [e, ← hu, ← Nat.add_assoc]; exact h1
theorem own_drew' {w : World} {B E c n : Nat} {v : Value} {xs : List Value} (h : w.ownsRow B E c v n xs) : w.drew.ownsRow B E c v n xs := own_heap h fun _ _ => rfl
theorem own_alloc' {w : World} {o : Obj} {B E c n : Nat} {v : Value} {xs : List Value} (h : w.ownsRow B E c v n xs) : (w.alloc o).ownsRow B E c v n xs := own_heap h fun g hg => (vbox w o).block g (h.lt g hg).2
theorem emp_at {w0 : World} {B base c : Nat} {t : TypeId} (hB : B = w0.heap.size) (hb : base ≤ B) : (w0.alloc (.cells #[] t)).ownsRow base t c (.slice (some ⟨B, 0, none⟩) 0 0) 0 [] := by
  subst hB
  exact ⟨by simp, .inr ⟨w0.heap.size, 0, #[], rfl, hb, heap_alloc_new w0 _, Nat.le_refl _, by unfold maxLen; omega, by simp, by simp⟩⟩
/-- a block is what it was made -/
def Blk (W : World) (B : Nat) (cs : Array Value) (t : TypeId) : Prop := W.heap[B]? = some (.cells cs t (0, 0))
theorem blk_new {W : World} {B : Nat} {cs : Array Value} {t : TypeId} (hB : B = W.heap.size) : Blk (W.alloc (.cells cs t)) B cs t := by subst hB; exact heap_alloc_new W _
theorem Blk.lt {W : World} {B : Nat} {cs : Array Value} {t : TypeId} (h : Blk W B cs t) : B < W.heap.size := by
  rcases Nat.lt_or_ge B W.heap.size with h2 | h2
  · exact h2
  · unfold Blk at h; rw [Array.getElem?_eq_none h2] at h; cases h
theorem blk_alloc {W : World} {o : Obj} {B : Nat} {cs : Array Value} {t : TypeId} (h : Blk W B cs t) : Blk (W.alloc o) B cs t := ((vbox W o).block B h.lt).trans h
theorem blk_drew {W : World} {B : Nat} {cs : Array Value} {t : TypeId} (h : Blk W B cs t) : Blk W.drew B cs t := h
theorem blk_grow {W w' : World} {row : Option Nat} {B : Nat} {cs : Array Value} {t : TypeId} (h : Blk W B cs t) (hg : W.grownBy w' row) (hn : some B ≠ row) : Blk w' B cs t := (hg.block B h.lt hn).trans h
theorem Blk.news {W : World} {B : Nat} {cs : Array Value} {t : TypeId} (h : Blk W B cs t) : ∀ j u, cs.toList[j]? = some u → W.cell? ((⟨B, 0, none⟩ : Addr).add j) = some u := World.news_of_block h
theorem Rl.grow {W0 W w' : World} {row : Option Nat} (h : Rl W0 W) (hg : W.grownBy w' row) (hr : ∀ k, row = some k → W0.heap.size ≤ k) : Rl W0 w' :=
  ⟨h.b.trans (grown_belowN hg h.z hr), Nat.le_trans h.z hg.size⟩
theorem grow_cell {W w' : World} {row : Option Nat} {p : Addr} {v : Value} (h : W.cell? p = some v) (hg : W.grownBy w' row) (hn : some p.block ≠ row) : w'.cell? p = some v := by
  rw [World.cell?_of_block (hg.block p.block (cell_lt h) hn)]; exact h
end Go.Proofs.Ytdjnkcoepmackaa
/- l8Steps of the model: the steps and one more in a row of their own. -/
namespace Go.Proofs.Ytdjnkcoepmackaa
open Go.RowKit
set_option maxRecDepth 100000
theorem steps_any (b o cap : Nat) (l : List St) (n : Int) (q : Bool) (w : World) (N : Nat) (h : SAt w N (some ⟨b, o, none⟩) cap l) (hN : N ≤ w.heap.size) (hl : l.length ≤ 2000000) :
    Calls Try.prog 148 #[.slice (some ⟨b, o, none⟩) l.length cap, .agg #[.int .i64 n, .bool q]] w fun e w' => ∃ g cap', e = .returned (.slice (some ⟨g, 0, none⟩) (l.length + 1) cap') ∧ OwnS w' w.heap.size (some ⟨g, 0, none⟩) cap' (l ++ [(n, q)]) ∧ Below w.heap.size w w' := by
  obtain ⟨i0, hi, hz0, hz1, hz2⟩ := info_parts stepInfo
  have HN : Hid (∀ W, Rl w W → ∀ j u, (stv l)[j]? = some u → W.cell? ((⟨b, o, none⟩ : Addr).add j) = some u) := Lib.hid (fun W hW => (h.below (hW.b) hN).news)
  have HL : Hid (l.length ≤ 2000000) := Lib.hid hl
  have hR0 := Rl.refl w
  clear h hl
  go_enter Try.func148, Try.ntmps148
  go_wp2_with fail
  go_region_law ((first
    | (refine step_append_lies _ (by rfl) _ _ _ (by rfl) w.heap.size 105 i0 _ 2 16 Try.underlying48 hi hz0 hz1 hz2 rfl (by omega) v7 (0 + l.length) ([] ++ stv l) (by rfl) (by (repeat (first | with_reducible exact hown7 | with_reducible refine own_drew' ?_ | with_reducible refine own_alloc' ?_))) _ 1 1 [.int .i64 n, .bool q] (by rfl) (by rfl) (Blk.news (cs := #[.int .i64 n, .bool q]) (t := 105) (by (repeat (first | with_reducible exact blk_new (by simp; done) | with_reducible refine blk_drew ?_ | with_reducible refine blk_alloc ?_ | with_reducible refine blk_grow ?_ hgrow7 (by simp [Value.ownBlock] <;> omega))))) (by simp [Value.oneCell']) (by omega) (by have := HL.out; unfold maxLen; omega) (by have := HL.out; omega) (Rl.z (by (repeat (first | with_reducible exact hR7 | with_reducible refine Rl.drew ?_ | with_reducible refine Rl.alloc ?_ _)))) _ (by rfl) ?_; intro gg cap2 w10 hown10 hgrow10 hat10 hlt10; have hR10 : Rl w w10 := Rl.grow (by (repeat (first | with_reducible exact hR7 | with_reducible refine Rl.drew ?_ | with_reducible refine Rl.alloc ?_ _))) hgrow10 (fun k hk => (hown7.lt k hk).1))
    | (refine Ytdjnkcoepmackaastep_append_own (by rfl) _ _ _ (by rfl) w.heap.size 105 i0 _ 2 16 Try.underlying48 hi hz0 hz1 hz2 rfl (by omega) (.slice (some ⟨w.heap.size + 1, 0, none⟩) 0 0) 0 [] (by rfl) (by (repeat (first | with_reducible exact emp_at (by simp) (by omega) | with_reducible refine own_drew' ?_ | with_reducible refine own_alloc' ?_))) ⟨b, o, none⟩ l.length cap (stv l) (by rfl) (by simp) (HN.out _ (by (repeat (first | with_reducible exact hR0 | with_reducible refine Rl.drew ?_ | with_reducible refine Rl.alloc ?_ _)))) (sv_one' l) (by have := HL.out; unfold maxLen; omega) (by have := HL.out; omega) (Rl.z (by (repeat (first | with_reducible exact hR0 | with_reducible refine Rl.drew ?_ | with_reducible refine Rl.alloc ?_ _)))) ?_; intro v7 w7 hown7 hgrow7; have hR7 : Rl w w7 := Rl.grow (by (repeat (first | with_reducible exact hR0 | with_reducible refine Rl.drew ?_ | with_reducible refine Rl.alloc ?_ _))) hgrow7 (by intro k hk; simp [Value.ownBlock] at hk; omega); have k0 : w7.cell? ⟨w.heap.size, 0, none⟩ = some (.int .i64 n) := grow_cell (by simp [go_sem]) hgrow7 (by simp [Value.ownBlock] <;> omega); have k1 : w7.cell? ⟨w.heap.size, 1, none⟩ = some (.bool q) := grow_cell (by simp [go_sem]) hgrow7 (by simp [Value.ownBlock] <;> omega))
    | (refine Ytdjnkcoepmackaastep_append_own (by rfl) _ _ _ (by rfl) w.heap.size 105 i0 _ 2 16 Try.underlying48 hi hz0 hz1 hz2 rfl (by omega) (.slice (some ⟨w.heap.size + 1 + 1, 0, none⟩) 0 0) 0 [] (by rfl) (by (repeat (first | with_reducible exact emp_at (by simp) (by omega) | with_reducible refine own_drew' ?_ | with_reducible refine own_alloc' ?_))) ⟨b, o, none⟩ l.length cap (stv l) (by rfl) (by simp) (HN.out _ (by (repeat (first | with_reducible exact hR0 | with_reducible refine Rl.drew ?_ | with_reducible refine Rl.alloc ?_ _)))) (sv_one' l) (by have := HL.out; unfold maxLen; omega) (by have := HL.out; omega) (Rl.z (by (repeat (first | with_reducible exact hR0 | with_reducible refine Rl.drew ?_ | with_reducible refine Rl.alloc ?_ _)))) ?_; intro v7 w7 hown7 hgrow7; have hR7 : Rl w w7 := Rl.grow (by (repeat (first | with_reducible exact hR0 | with_reducible refine Rl.drew ?_ | with_reducible refine Rl.alloc ?_ _))) hgrow7 (by intro k hk; simp [Value.ownBlock] at hk; omega); have k0 : w7.cell? ⟨w.heap.size, 0, none⟩ = some (.int .i64 n) := grow_cell (by simp [go_sem]) hgrow7 (by simp [Value.ownBlock] <;> omega); have k1 : w7.cell? ⟨w.heap.size, 1, none⟩ = some (.bool q) := grow_cell (by simp [go_sem]) hgrow7 (by simp [Value.ownBlock] <;> omega))))
  all_goals
    have HO := Lib.hid (show OwnS w10 w.heap.size (some ⟨gg, 0, none⟩) cap2 (l ++ [(n, q)]) by unfold OwnS; rw [sv_append, List.length_append, List.length_singleton]; simpa [sv_cons] using hown10)
    have HR := Lib.hid hR10
    clear hown10 hgrow10 hR10 hat10 hlt10 hown7 hgrow7 hR7 k0 k1
    go_wp2
    go_ret
    exact ⟨gg, cap2, rfl, HO.out, HR.out.b⟩
end Go.Proofs.Ytdjnkcoepmackaa
