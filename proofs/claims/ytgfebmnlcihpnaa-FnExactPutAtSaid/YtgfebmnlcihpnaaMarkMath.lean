/- A tree with marks in place of its contents. -/
import Derived.Test.YtgfebmnlcihpnaaOwn
import Derived.Test.YtgfebmnlcihpnaaCount
import Derived.Test.YtgfebmnlcihpnaaMarkText
namespace Go.Proofs.Ytgfebmnlcihpnaa
open Go.RowKit
mutual
def AT.mark : Nat → AT → AT
  | c, .mk _ _ _ _ a cap l => .mk c (c + 1 : Nat) (c + 2 : Nat) (mtx (c + 3)) a cap (AT.markL (c + 4) l)
def AT.markL : Nat → List AT → List AT
  | _, [] => []
  | c, t :: l => t.mark c :: AT.markL (c + 4 * t.pt.cnt) l
end
theorem mark_eq (c : Nat) (t : AT) : t.mark c = .mk c (c + 1 : Nat) (c + 2 : Nat) (mtx (c + 3)) t.a t.cap (AT.markL (c + 4) t.l) := by cases t; rfl
theorem markL_append (l m : List AT) (c : Nat) : AT.markL c (l ++ m) = AT.markL c l ++ AT.markL (c + 4 * PT.cntL (AT.ptL l)) m := by
  induction l generalizing c with
  | nil => simp [AT.markL, AT.ptL, PT.cntL]
  | cons t l ih =>
    simp only [List.cons_append, AT.markL, AT.ptL, PT.cntL, ih]
    rw [show c + 4 * t.pt.cnt + 4 * PT.cntL (AT.ptL l) = c + 4 * (t.pt.cnt + PT.cntL (AT.ptL l)) by omega]
@[simp] theorem markL_length (l : List AT) (c : Nat) : (AT.markL c l).length = l.length := by
  induction l generalizing c with
  | nil => rfl
  | cons t l ih => simp [AT.markL, ih]
theorem blks_mark (t : AT) : ∀ c, (t.mark c).blks = t.blks := by
  induction t using AT.ind with
  | h k n x s a cap l ih =>
    intro c
    have : ∀ c, AT.blksL (AT.markL c l) = AT.blksL l := by
      induction l with
      | nil => intro c; rfl
      | cons t l ihl =>
        intro c
        simp only [AT.markL, AT.blksL, ih t (by simp), ihl (fun u hu => ih u (by simp [hu]))]
    simp only [AT.mark, AT.blks, this]
theorem blksL_mark (l : List AT) (c : Nat) : AT.blksL (AT.markL c l) = AT.blksL l := by
  induction l generalizing c with
  | nil => rfl
  | cons t l ih => simp only [AT.markL, AT.blksL, blks_mark, ih]
/-- of the elder blocks at most those of bs turned -/
structure OnlyBs (bs : List Nat) (w w' : World) : Prop where
  os : w'.os = w.os
  tape : w'.tape = w.tape
  output : w'.output = w.output
  size : w.heap.size ≤ w'.heap.size
  block : ∀ k, k < w.heap.size → k ∉ bs → w'.heap[k]? = w.heap[k]?
theorem OnlyBs.refl (bs : List Nat) (w : World) : OnlyBs bs w w := ⟨rfl, rfl, rfl, Nat.le_refl _, fun _ _ _ => rfl⟩
theorem OnlyBs.trans {bs : List Nat} {a b c : World} (h : OnlyBs bs a b) (k : OnlyBs bs b c) : OnlyBs bs a c :=
  ⟨k.os.trans h.os, k.tape.trans h.tape, k.output.trans h.output, Nat.le_trans h.size k.size, fun i hi h1 => (k.block i (Nat.lt_of_lt_of_le hi h.size) h1).trans (h.block i hi h1)⟩
theorem OnlyBs.of_below {bs : List Nat} {w w' : World} (h : Below w.heap.size w w') : OnlyBs bs w w' := ⟨h.os, h.tape, h.output, h.size, fun k hk _ => h.block k hk⟩
theorem OnlyBs.mono {bs bs' : List Nat} {w w' : World} (h : OnlyBs bs w w') (hb : ∀ k ∈ bs, k ∈ bs') : OnlyBs bs' w w' := ⟨h.os, h.tape, h.output, h.size, fun k hk hn => h.block k hk (fun hm => hn (hb k hm))⟩
theorem OnlyBs.set {bs : List Nat} {a w : World} {g o : Nat} {u : Value} (h : OnlyBs bs a w) (hg : g ∈ bs) : OnlyBs bs a (w.setCell ⟨g, o, none⟩ u) :=
  h.trans ⟨rfl, rfl, rfl, by simp [World.setCell], fun k _ hk => Below.heap_setCell _ _ _ _ (fun e => hk (by have : k = g := e; rw [this]; exact hg))⟩
theorem OnlyBs.below {bs : List Nat} {w w' : World} {N : Nat} (h : OnlyBs bs w w') (hb : ∀ k ∈ bs, N ≤ k) (hN : N ≤ w.heap.size) : Below N w w' :=
  ⟨h.os, h.tape, h.output, h.size, fun k hk => h.block k (by omega) (fun hm => by have := hb k hm; omega)⟩
theorem OnlyBs.cell {bs : List Nat} {w w' : World} (h : OnlyBs bs w w') {p : Addr} {v : Value} (hp : p.block ∉ bs) (hc : w.cell? p = some v) : w'.cell? p = some v := by
  rw [World.cell?_of_block (h.block p.block (cell_lt hc) hp)]; exact hc
theorem AT.Own.onlyBs {w w' : World} {B : Nat} {T : AT} {bs : List Nat} (h : T.Own w B) (ho : OnlyBs bs w w') (hd : ∀ k ∈ T.blks, k ∉ bs) : T.Own w' B := h.kept fun k hk => ho.block k (h.lt k hk).2 (hd k hk)
theorem set_four (xs : List Value) (v0 v1 v2 v3 v4 u0 u1 u2 u3 : Value) (ys : List Value) (p : Nat) (hx : xs.length = p) :
    ((((xs ++ [v0, v1, v2, v3, v4] ++ ys).set p u0).set (p + 1) u1).set (p + 2) u2).set (p + 3) u3 = xs ++ [u0, u1, u2, u3, v4] ++ ys := by
  subst hx
  simp [List.set_append]
theorem cellsL_mid (L1 L2 : List AT) (t : AT) : cellsL (L1 ++ t :: L2) = cellsL L1 ++ [.int .i64 t.k, .int .i64 t.n, .int .i64 t.x, .string ⟨t.s.toArray⟩, .slice t.a t.l.length t.cap] ++ cellsL L2 := by
  rw [cellsL_append, List.append_assoc]
  rfl
theorem mark_cells (c : Nat) (t : AT) : (t.mark c).cells = [.int .i64 (c : Nat), .int .i64 (c + 1 : Nat), .int .i64 (c + 2 : Nat), .string ⟨(mtx (c + 3)).toArray⟩, .slice t.a t.l.length t.cap] := by
  rw [mark_eq]; simp [AT.cells, AT.k, AT.n, AT.x, AT.s, AT.a, AT.cap, AT.l]
theorem cntL_app (l m : List PT) : PT.cntL (l ++ m) = PT.cntL l + PT.cntL m := by
  induction l with
  | nil => simp [PT.cntL]
  | cons t l ih => simp only [List.cons_append, PT.cntL, ih]; omega
theorem cnt_eq' (t : AT) : t.pt.cnt = PT.cntL (AT.ptL t.l) + 1 := by cases t; simp [AT.pt, PT.cnt, AT.l]
theorem len_le_cnt (l : List AT) : l.length ≤ PT.cntL (AT.ptL l) := by
  induction l with
  | nil => exact Nat.zero_le _
  | cons t l ih => simp only [List.length_cons, AT.ptL, PT.cntL, cnt_eq']; omega
end Go.Proofs.Ytgfebmnlcihpnaa
