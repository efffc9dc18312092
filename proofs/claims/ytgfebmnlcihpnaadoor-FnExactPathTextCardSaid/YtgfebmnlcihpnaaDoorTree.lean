/- Trees (plain), and trees with the addresses at which their elements lie. -/
import Derived.Test.YtgfebmnlcihpnaaDoorMem
import Derived.WalkKit
import Derived.Lib.Hide
import Derived.ProofKit
namespace Go.Proofs.YtgfebmnlcihpnaaDoor
open Go.RowKit
theorem size_b (l : List UInt8) : (ByteArray.mk l.toArray).size = l.length := by simp [ByteArray.size]
/-- a plain tree: kind, N, X, bytes, elements -/
inductive PT where
  | mk (k n x : Int) (s : List UInt8) (l : List PT)
theorem PT.ind {P : PT → Prop} (h : ∀ k n x s l, (∀ t ∈ l, P t) → P (.mk k n x s l)) (T : PT) : P T :=
  PT.rec (motive_1 := P) (motive_2 := fun l => ∀ t ∈ l, P t) (fun k n x s l hl => h k n x s l hl) (by simp) (fun t l ht hl => by
    intro u hu
    rcases List.mem_cons.1 hu with rfl | hu
    · exact ht
    · exact hl u hu) T
mutual
def PT.cnt : PT → Nat
  | .mk _ _ _ _ l => PT.cntL l + 1
def PT.cntL : List PT → Nat
  | [] => 0
  | t :: l => t.cnt + PT.cntL l
end
mutual
def PT.deep : PT → Nat
  | .mk _ _ _ _ l => PT.deepL l + 1
def PT.deepL : List PT → Nat
  | [] => 0
  | t :: l => max t.deep (PT.deepL l)
end
mutual
def PT.sz : PT → Nat
  | .mk _ _ _ s l => s.length + (l.length + PT.szL l)
def PT.szL : List PT → Nat
  | [] => 0
  | t :: l => t.sz + PT.szL l
end
/-- the numbers and lengths are in range -/
inductive PT.Wf : PT → Prop
  | mk {k n x : Int} {s : List UInt8} {l : List PT} (hk : -9223372036854775808 ≤ k ∧ k ≤ 9223372036854775807) (hn : -9223372036854775808 ≤ n ∧ n ≤ 9223372036854775807) (hx : -9223372036854775808 ≤ x ∧ x ≤ 9223372036854775807)
      (hs : s.length ≤ 9223372036854775807) (hl : l.length ≤ 9223372036854775807) (sub : ∀ t ∈ l, t.Wf) : PT.Wf (.mk k n x s l)
theorem PT.Wf.sub' {k n x : Int} {s : List UInt8} {l : List PT} (h : PT.Wf (.mk k n x s l)) : ∀ t ∈ l, t.Wf := by cases h; assumption
/-- a tree with the address and the capacity of its elements' slice -/
inductive AT where
  | mk (k n x : Int) (s : List UInt8) (a : Option Addr) (cap : Nat) (l : List AT)
theorem AT.ind {P : AT → Prop} (h : ∀ k n x s a cap l, (∀ t ∈ l, P t) → P (.mk k n x s a cap l)) (T : AT) : P T :=
  AT.rec (motive_1 := P) (motive_2 := fun l => ∀ t ∈ l, P t) (fun k n x s a cap l hl => h k n x s a cap l hl) (by simp) (fun t l ht hl => by
    intro u hu
    rcases List.mem_cons.1 hu with rfl | hu
    · exact ht
    · exact hl u hu) T
mutual
def AT.pt : AT → PT
  | .mk k n x s _ _ l => .mk k n x s (AT.ptL l)
def AT.ptL : List AT → List PT
  | [] => []
  | t :: l => t.pt :: AT.ptL l
end
theorem AT.ptL_eq (l : List AT) : AT.ptL l = l.map AT.pt := by
  induction l with
  | nil => rfl
  | cons t l ih => simp [AT.ptL, ih]
@[simp] theorem AT.ptL_length (l : List AT) : (AT.ptL l).length = l.length := by simp [AT.ptL_eq]
def AT.k : AT → Int | .mk k _ _ _ _ _ _ => k
def AT.n : AT → Int | .mk _ n _ _ _ _ _ => n
def AT.x : AT → Int | .mk _ _ x _ _ _ _ => x
def AT.s : AT → List UInt8 | .mk _ _ _ s _ _ _ => s
def AT.a : AT → Option Addr | .mk _ _ _ _ a _ _ => a
def AT.cap : AT → Nat | .mk _ _ _ _ _ cap _ => cap
def AT.l : AT → List AT | .mk _ _ _ _ _ _ l => l
theorem AT.eta (T : AT) : AT.mk T.k T.n T.x T.s T.a T.cap T.l = T := by cases T; rfl
/-- the root as a value -/
@[reducible] def AT.val (T : AT) : Value := .agg #[.int .i64 T.k, .int .i64 T.n, .int .i64 T.x, .string ⟨T.s.toArray⟩, .slice T.a T.l.length T.cap]
/-- the five cells of a tree's root -/
def AT.cells (T : AT) : List Value := [.int .i64 T.k, .int .i64 T.n, .int .i64 T.x, .string ⟨T.s.toArray⟩, .slice T.a T.l.length T.cap]
theorem AT.cells_length (T : AT) : T.cells.length = 5 := rfl
theorem AT.pt_eq (T : AT) : T.pt = .mk T.k T.n T.x T.s (T.l.map AT.pt) := by cases T; simp [AT.pt, AT.ptL_eq, AT.k, AT.n, AT.x, AT.s, AT.l]
structure CellsAt (w : World) (b o : Nat) (T : AT) : Prop where
  c0 : w.cell? ⟨b, o, none⟩ = some (.int .i64 T.k)
  c1 : w.cell? ⟨b, o + 1, none⟩ = some (.int .i64 T.n)
  c2 : w.cell? ⟨b, o + 2, none⟩ = some (.int .i64 T.x)
  c3 : w.cell? ⟨b, o + 3, none⟩ = some (.string ⟨T.s.toArray⟩)
  c4 : w.cell? ⟨b, o + 4, none⟩ = some (.slice T.a T.l.length T.cap)
/-- the tree's elements lie at its address, in blocks below N, at all depths -/
inductive AT.In (w : World) (N : Nat) : AT → Prop
  | mk {k n x : Int} {s : List UInt8} {a : Option Addr} {cap : Nat} {l : List AT} (hc : l.length ≤ cap) (hcell : ∀ j (h : j < l.length), ∃ b o, a = some ⟨b, o, none⟩ ∧ b < N ∧ CellsAt w b (o + j * 5) l[j]) (hsub : ∀ t ∈ l, AT.In w N t) : AT.In w N (.mk k n x s a cap l)
/-- the same of a slice of trees -/
structure Lv (w : World) (N : Nat) (a : Option Addr) (cap : Nat) (l : List AT) : Prop where
  hc : l.length ≤ cap
  cell : ∀ j (h : j < l.length), ∃ b o, a = some ⟨b, o, none⟩ ∧ b < N ∧ CellsAt w b (o + j * 5) l[j]
  sub : ∀ t ∈ l, t.In w N
theorem AT.In.lv {w : World} {N : Nat} {k n x : Int} {s : List UInt8} {a : Option Addr} {cap : Nat} {l : List AT} (h : AT.In w N (.mk k n x s a cap l)) : Lv w N a cap l := by
  cases h with
  | mk hc hcell hsub => exact ⟨hc, hcell, hsub⟩
theorem Lv.in {w : World} {N : Nat} {k n x : Int} {s : List UInt8} {a : Option Addr} {cap : Nat} {l : List AT} (h : Lv w N a cap l) : AT.In w N (.mk k n x s a cap l) := .mk h.hc h.cell h.sub
theorem AT.In.lv' {w : World} {N : Nat} {T : AT} (h : T.In w N) : Lv w N T.a T.cap T.l := by cases T; exact h.lv
theorem CellsAt.keep {w w' : World} {b o : Nat} {T : AT} (h : CellsAt w b o T) (k : w'.heap[b]? = w.heap[b]?) : CellsAt w' b o T := by
  have e : ∀ q, w'.cell? ⟨b, q, none⟩ = w.cell? ⟨b, q, none⟩ := fun q => World.cell?_of_block (w := w) (w' := w') k
  exact ⟨(e _).trans h.c0, (e _).trans h.c1, (e _).trans h.c2, (e _).trans h.c3, (e _).trans h.c4⟩
theorem AT.In.blw {w w' : World} {N M : Nat} {T : AT} (h : T.In w N) (hb : Below M w w') (hN : N ≤ M) : T.In w' N := by
  induction T using AT.ind with
  | h k n x s a cap l ih =>
    cases h with
    | mk hc hcell hsub =>
      refine .mk hc (fun j hj => ?_) (fun t ht => ih t ht (hsub t ht))
      obtain ⟨b, o, ha, hbN, hC⟩ := hcell j hj
      exact ⟨b, o, ha, hbN, hC.keep (hb.block b (by omega))⟩
theorem AT.In.mono {w : World} {N M : Nat} {T : AT} (h : T.In w N) (hN : N ≤ M) : T.In w M := by
  induction T using AT.ind with
  | h k n x s a cap l ih =>
    cases h with
    | mk hc hcell hsub =>
      refine .mk hc (fun j hj => ?_) (fun t ht => ih t ht (hsub t ht))
      obtain ⟨b, o, ha, hbN, hC⟩ := hcell j hj
      exact ⟨b, o, ha, by omega, hC⟩
theorem Lv.below {w w' : World} {N M : Nat} {a : Option Addr} {cap : Nat} {l : List AT} (h : Lv w N a cap l) (hb : Below M w w') (hN : N ≤ M) : Lv w' N a cap l :=
  (AT.In.blw (T := .mk 0 0 0 [] a cap l) h.in hb hN).lv
theorem Lv.mono {w : World} {N M : Nat} {a : Option Addr} {cap : Nat} {l : List AT} (h : Lv w N a cap l) (hN : N ≤ M) : Lv w M a cap l :=
  (AT.In.mono (T := .mk 0 0 0 [] a cap l) h.in hN).lv
/-- a box of one value -/
theorem vbox (w : World) (o : Obj) : Below w.heap.size w (w.alloc o) := (Below.refl w.heap.size w).alloc (Nat.le_refl _) o
theorem szL_take (l : List PT) (i : Nat) (h : i < l.length) : PT.szL (l.take (i + 1)) = PT.szL (l.take i) + l[i].sz := by
  induction l generalizing i with
  | nil => simp at h
  | cons t l ih =>
    cases i with
    | zero => simp [PT.szL]
    | succ i =>
      simp only [List.take_succ_cons, PT.szL, List.getElem_cons_succ]
      rw [ih i (by simpa using h)]
      omega
theorem szL_take_le (l : List PT) (i : Nat) : PT.szL (l.take i) ≤ PT.szL l := by
  induction l generalizing i with
  | nil => simp
  | cons t l ih =>
    cases i with
    | zero => simp [PT.szL]
    | succ i => simp only [List.take_succ_cons, PT.szL]; have := ih i; omega
theorem cntL_take (l : List PT) (i : Nat) (h : i < l.length) : PT.cntL (l.take (i + 1)) = PT.cntL (l.take i) + l[i].cnt := by
  induction l generalizing i with
  | nil => simp at h
  | cons t l ih =>
    cases i with
    | zero => simp [PT.cntL]
    | succ i =>
      simp only [List.take_succ_cons, PT.cntL, List.getElem_cons_succ]
      rw [ih i (by simpa using h)]
      omega
theorem cntL_take_le (l : List PT) (i : Nat) : PT.cntL (l.take i) ≤ PT.cntL l := by
  induction l generalizing i with
  | nil => simp
  | cons t l ih =>
    cases i with
    | zero => simp [PT.cntL]
    | succ i => simp only [List.take_succ_cons, PT.cntL]; have := ih i; omega
theorem deepL_take (l : List PT) (i : Nat) (h : i < l.length) : PT.deepL (l.take (i + 1)) = max (PT.deepL (l.take i)) l[i].deep := by
  induction l generalizing i with
  | nil => simp at h
  | cons t l ih =>
    cases i with
    | zero => simp [PT.deepL]
    | succ i =>
      simp only [List.take_succ_cons, PT.deepL, List.getElem_cons_succ]
      rw [ih i (by simpa using h)]
      omega
/-- the number of values is at most the size, and one more -/
theorem cnt_le_sz (T : PT) : T.cnt ≤ T.sz + 1 := by
  induction T using PT.ind with
  | h k n x s l ih =>
    have : PT.cntL l ≤ l.length + PT.szL l := by
      induction l with
      | nil => simp [PT.cntL]
      | cons t l ihl =>
        have h1 := ih t (by simp)
        have h2 := ihl (fun u hu => ih u (by simp [hu]))
        simp only [PT.cntL, PT.szL, List.length_cons]
        omega
    simp only [PT.cnt, PT.sz]
    omega
theorem deep_le_cnt (T : PT) : T.deep ≤ T.cnt := by
  induction T using PT.ind with
  | h k n x s l ih =>
    have : PT.deepL l ≤ PT.cntL l := by
      induction l with
      | nil => simp [PT.deepL]
      | cons t l ihl =>
        have h1 := ih t (by simp)
        have h2 := ihl (fun u hu => ih u (by simp [hu]))
        simp only [PT.cntL, PT.deepL]
        omega
    simp only [PT.cnt, PT.deep]
    omega
theorem sz_mem {l : List PT} {t : PT} (h : t ∈ l) : t.sz ≤ PT.szL l := by
  induction l with
  | nil => simp at h
  | cons u l ih =>
    simp only [PT.szL]
    rcases List.mem_cons.1 h with rfl | h
    · omega
    · have := ih h; omega
end Go.Proofs.YtgfebmnlcihpnaaDoor
