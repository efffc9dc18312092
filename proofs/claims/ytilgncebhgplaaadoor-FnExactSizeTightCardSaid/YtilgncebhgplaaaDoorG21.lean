import Derived.Test.YtilgncebhgplaaaDoorG20
import Derived.Test.YtilgncebhgplaaaDoorG1
/- SameVal of the program: two walks side by side. -/
namespace Go.Proofs.YtilgncebhgplaaaDoor
open Go.RowKit
/-- the second walk: not begun (its one level lies in block b), or begun (its levels lie below N0) -/
def RightAt (w : World) (N0 B P g b : Nat) (T2 : AT) (R : List Lev) : Prop :=
  (∃ cap d, WalkAt w N0 B P g cap R d) ∨ (∃ d, R = [Lev.mk (some ⟨b, 0, none⟩) 1 [T2]] ∧ WalkAt w B B P g 1 R d ∧ T2.In w N0 ∧ N0 ≤ B)
theorem RightAt.lt {w : World} {N0 B P g b : Nat} {T2 : AT} {R : List Lev} (h : RightAt w N0 B P g b T2 R) : P < w.heap.size ∧ g < w.heap.size ∧ B ≤ P ∧ B ≤ g ∧ N0 ≤ B := by
  rcases h with ⟨cap, d, h⟩ | ⟨d, _, h, _, hN⟩
  · exact ⟨h.lt.1, h.lt.2.2, h.pB, h.lt.2.1, h.pN⟩
  · exact ⟨h.lt.1, h.lt.2.2, h.pB, h.lt.2.1, hN⟩
theorem RightAt.kept {w w' : World} {N0 B P g b : Nat} {T2 : AT} {R : List Lev} (h : RightAt w N0 B P g b T2 R) (hk : ∀ k, k = P ∨ k = g ∨ k = b ∨ k < N0 → w'.heap[k]? = w.heap[k]?) : RightAt w' N0 B P g b T2 R := by
  rcases h with ⟨cap, d, h⟩ | ⟨d, hR, h, hin, hN⟩
  · exact .inl ⟨cap, d, h.kept fun k hk' => hk k (by rcases hk' with h | h | h; exact .inl h; exact .inr (.inl h); exact .inr (.inr (.inr h)))⟩
  · have hin' : T2.In w' N0 := hin.kept fun k hk' => hk k (.inr (.inr (.inr hk')))
    refine .inr ⟨d, hR, ?_, hin', hN⟩
    have hP := hk P (.inl rfl)
    exact {
      rest := by rw [World.cell?_of_block (w := w) (w' := w') hP]; exact h.rest
      deep := by rw [World.cell?_of_block (w := w) (w' := w') hP]; exact h.deep
      fr := fun o => by rw [frozen_blk hP]; exact h.fr o
      row := own_heap h.row (fun k hg => hk k (.inr (.inl (by simp [Value.ownBlock] at hg; exact hg.symm))))
      pB := h.pB
      pN := h.pN
      ne := h.ne
      lv := fun L hL => by
        have h0 := h.lv L hL
        subst hR
        obtain rfl : L = Lev.mk (some ⟨b, 0, none⟩) 1 [T2] := by simpa using hL
        refine ⟨h0.hc, fun j hj => ?_, fun t ht => ?_⟩
        · obtain ⟨b', o', e, hb, hC⟩ := h0.cell j hj
          injection e with e
          injection e with e1 e2
          subst e1 e2
          exact ⟨b, 0, rfl, hb, hC.keep (hk b (.inr (.inr (.inl rfl))))⟩
        · obtain rfl : t = T2 := by simpa using ht
          exact hin'.mono hN }
structure TwoAt (w0 wr : World) (N0 B1 P1 g1 B2 P2 g2 b : Nat) (T2 : AT) (S R : List Lev) : Prop where
  left : ∃ cap d, WalkAt wr B1 B1 P1 g1 cap S d
  right : RightAt wr N0 B2 P2 g2 b T2 R
  n0 : N0 ≤ B1
  bne : b ≠ P1 ∧ b ≠ g1 ∧ b < wr.heap.size
  ne : P1 ≠ P2 ∧ P1 ≠ g2 ∧ g1 ≠ P2 ∧ g1 ≠ g2
  lo : B1 ≤ P2 ∧ B1 ≤ g2
  w0B : w0.heap.size ≤ B1
  below : Below w0.heap.size w0 wr
theorem TwoAt.lt {w0 wr : World} {N0 B1 P1 g1 B2 P2 g2 b : Nat} {T2 : AT} {S R : List Lev} (h : TwoAt w0 wr N0 B1 P1 g1 B2 P2 g2 b T2 S R) : P1 < wr.heap.size ∧ g1 < wr.heap.size ∧ P2 < wr.heap.size ∧ g2 < wr.heap.size ∧ B1 ≤ P1 ∧ B1 ≤ g1 ∧ N0 ≤ B2 := by
  obtain ⟨cap, d, hw⟩ := h.left
  have h2 := h.right.lt
  exact ⟨hw.lt.1, hw.lt.2.2, h2.1, h2.2.1, hw.pB, hw.lt.2.1, h2.2.2.2.2⟩
/-- nothing of the two walks turned -/
theorem TwoAt.kept {w0 wr w' : World} {N0 B1 P1 g1 B2 P2 g2 b : Nat} {T2 : AT} {S R : List Lev} (h : TwoAt w0 wr N0 B1 P1 g1 B2 P2 g2 b T2 S R) (hk : ∀ k, k = P1 ∨ k = g1 ∨ k = P2 ∨ k = g2 ∨ k = b ∨ k < B1 → w'.heap[k]? = wr.heap[k]?) (hs : wr.heap.size ≤ w'.heap.size) (hb : Below w0.heap.size w0 w') : TwoAt w0 w' N0 B1 P1 g1 B2 P2 g2 b T2 S R where
  left := by
    obtain ⟨cap, d, hw⟩ := h.left
    exact ⟨cap, d, hw.kept fun k hk' => hk k (by rcases hk' with h | h | h <;> simp [h])⟩
  right := h.right.kept fun k hk' => hk k (by
    have := h.n0
    rcases hk' with h | h | h | h
    · simp [h]
    · simp [h]
    · simp [h]
    · exact .inr (.inr (.inr (.inr (.inr (by omega))))))
  n0 := h.n0
  bne := ⟨h.bne.1, h.bne.2.1, by have := h.bne.2.2; omega⟩
  ne := h.ne
  lo := h.lo
  w0B := h.w0B
  below := hb
theorem TwoAt.blw {w0 wr w' : World} {N0 B1 P1 g1 B2 P2 g2 b : Nat} {T2 : AT} {S R : List Lev} (h : TwoAt w0 wr N0 B1 P1 g1 B2 P2 g2 b T2 S R) (hb : Below wr.heap.size wr w') : TwoAt w0 w' N0 B1 P1 g1 B2 P2 g2 b T2 S R := by
  have hl := h.lt
  have hb2 := h.bne.2.2
  exact h.kept (fun k hk => hb.block k (by rcases hk with rfl | rfl | rfl | rfl | rfl | hk <;> omega)) hb.size (h.below.trans (hb.mono h.below.size))
theorem TwoAt.setX {w0 wr : World} {N0 B1 P1 g1 B2 P2 g2 b X o : Nat} {u : Value} {T2 : AT} {S R : List Lev} (h : TwoAt w0 wr N0 B1 P1 g1 B2 P2 g2 b T2 S R) (hX : X ≠ P1 ∧ X ≠ g1 ∧ X ≠ P2 ∧ X ≠ g2 ∧ X ≠ b ∧ B1 ≤ X) : TwoAt w0 (wr.setCell ⟨X, o, none⟩ u) N0 B1 P1 g1 B2 P2 g2 b T2 S R := by
  refine h.kept (fun k hk => Below.heap_setCell _ _ _ _ ?_) (by simp [World.setCell]) (bset h.below (by have := h.w0B; omega))
  show k ≠ X
  rcases hk with rfl | rfl | rfl | rfl | rfl | hk <;> omega
theorem left_next {w0 wr : World} {N0 B1 P1 g1 B2 P2 g2 b : Nat} {T2 : AT} {S R : List Lev} (h : TwoAt w0 wr N0 B1 P1 g1 B2 P2 g2 b T2 S R) (hS : S.length ≤ 4194304) :
    Calls Tryd.prog 58 #[.pointer (some ⟨P1, 0, none⟩)] wr fun e w' =>
      (∃ (S1 E : List Lev) (L : Lev) (t : AT) (tl : List AT) (a' : Option Addr) (c' g1' : Nat), S = S1 ++ L :: E ∧ (∀ L' ∈ E, L'.l = []) ∧ L.l = t :: tl ∧ e = .returned (.tuple #[t.val, .bool true]) ∧
        TwoAt w0 w' N0 B1 P1 g1' B2 P2 g2 b T2 (S1 ++ [⟨a', c', tl⟩, ⟨t.a, t.cap, t.l⟩]) R ∧ (g1' = g1 ∨ wr.heap.size ≤ g1') ∧ Only2 P1 g1 wr w') ∨
      ((∀ L' ∈ S, L'.l = []) ∧ e = .returned (.tuple #[(AT.leaf 0 0 0 []).val, .bool false]) ∧ Only2 P1 g1 wr w' ∧ Below w0.heap.size w0 w') := by
  obtain ⟨cap, d, hw⟩ := h.left
  have hl := h.lt
  have hb2 := h.bne
  have hlo := h.lo
  have hn0 := h.n0
  have hne := h.ne
  have hw0 := h.w0B
  have hsz := h.below.size
  refine (next_any wr B1 B1 P1 g1 cap S d hw hS).mono fun e w' hpost => ?_
  rcases hpost with ⟨S1, E, L, t, tl, a', c', g', cap', h1, h2, h3, h4, h5, h6, h7⟩ | ⟨h1, h2, h3⟩
  · refine .inl ⟨S1, E, L, t, tl, a', c', g', h1, h2, h3, h4, ?_, h6, h7⟩
    exact {
      left := ⟨cap', _, h5⟩
      right := h.right.kept fun k hk => h7.block k (by rcases hk with rfl | rfl | rfl | hk <;> omega) (by rcases hk with rfl | rfl | rfl | hk <;> omega) (by rcases hk with rfl | rfl | rfl | hk <;> omega)
      n0 := hn0
      bne := ⟨hb2.1, by omega, by have := h7.size; omega⟩
      ne := ⟨hne.1, hne.2.1, by omega, by omega⟩
      lo := hlo
      w0B := hw0
      below := h.below.trans (h7.below (by omega) (by omega) hsz) }
  · exact .inr ⟨h1, h2, h3, h.below.trans (h3.below (by omega) (by omega) hsz)⟩
theorem right_next {w0 wr : World} {N0 B1 P1 g1 B2 P2 g2 b : Nat} {T2 : AT} {S R : List Lev} (h : TwoAt w0 wr N0 B1 P1 g1 B2 P2 g2 b T2 S R) (hR : R.length ≤ 4194304) :
    Calls Tryd.prog 58 #[.pointer (some ⟨P2, 0, none⟩)] wr fun e w' =>
      (∃ (R1 F : List Lev) (M : Lev) (u : AT) (ul : List AT) (a' : Option Addr) (c' g2' : Nat), R = R1 ++ M :: F ∧ (∀ L' ∈ F, L'.l = []) ∧ M.l = u :: ul ∧ e = .returned (.tuple #[u.val, .bool true]) ∧
        TwoAt w0 w' N0 B1 P1 g1 B2 P2 g2' b T2 S (R1 ++ [⟨a', c', ul⟩, ⟨u.a, u.cap, u.l⟩]) ∧ (g2' = g2 ∨ wr.heap.size ≤ g2') ∧ Only2 P2 g2 wr w') ∨ (∀ L' ∈ R, L'.l = []) := by
  have hl := h.lt
  have hb2 := h.bne
  have hlo := h.lo
  have hn0 := h.n0
  have hne := h.ne
  have hw0 := h.w0B
  have hsz := h.below.size
  have hlr := h.right.lt
  have fin : ∀ (w' : World) (R' : List Lev) (g2' cap' : Nat) (d' : Int), Only2 P2 g2 wr w' → (g2' = g2 ∨ wr.heap.size ≤ g2') → WalkAt w' N0 B2 P2 g2' cap' R' d' → TwoAt w0 w' N0 B1 P1 g1 B2 P2 g2' b T2 S R' := by
    intro w' R' g2' cap' d' h7 h6 h5
    obtain ⟨cap, d, hw⟩ := h.left
    exact {
      left := ⟨cap, d, hw.kept fun k hk => h7.block k (by rcases hk with rfl | rfl | hk <;> omega) (by rcases hk with rfl | rfl | hk <;> omega) (by rcases hk with rfl | rfl | hk <;> omega)⟩
      right := .inl ⟨cap', d', h5⟩
      n0 := hn0
      bne := ⟨hb2.1, hb2.2.1, by have := h7.size; omega⟩
      ne := ⟨hne.1, by omega, hne.2.2.1, by omega⟩
      lo := ⟨hlo.1, by omega⟩
      w0B := hw0
      below := h.below.trans (h7.below (by omega) (by omega) hsz) }
  rcases h.right with ⟨cap, d, hw⟩ | ⟨d, hRe, hw, hin, hN⟩
  · refine (next_any wr N0 B2 P2 g2 cap R d hw hR).mono fun e w' hpost => ?_
    rcases hpost with ⟨S1, E, L, t, tl, a', c', g', cap', h1, h2, h3, h4, h5, h6, h7⟩ | ⟨h1, h2, h3⟩
    · exact .inl ⟨S1, E, L, t, tl, a', c', g', h1, h2, h3, h4, fin _ _ _ _ _ h7 h6 h5, h6, h7⟩
    · exact .inr h1
  · refine (next_any wr B2 B2 P2 g2 1 R d hw hR).mono fun e w' hpost => ?_
    rcases hpost with ⟨S1, E, L, t, tl, a', c', g', cap', h1, h2, h3, h4, h5, h6, h7⟩ | ⟨h1, h2, h3⟩
    · refine .inl ⟨S1, E, L, t, tl, a', c', g', h1, h2, h3, h4, ?_, h6, h7⟩
      rw [hRe] at h1
      have e1 : S1 = [] ∧ L = Lev.mk (some ⟨b, 0, none⟩) 1 [T2] ∧ E = [] := by
        cases S1 with
        | nil => simp only [List.nil_append, List.cons.injEq] at h1; exact ⟨rfl, h1.1.symm, h1.2.symm⟩
        | cons x S1 => simp at h1
      obtain ⟨rfl, rfl, rfl⟩ := e1
      simp only [List.cons.injEq] at h3
      obtain ⟨rfl, rfl⟩ := h3
      have hin' : T2.In w' N0 := hin.kept fun k hk => h7.block k (by omega) (by omega) (by omega)
      refine fin _ _ _ _ _ h7 h6 { h5 with pN := hN, lv := fun L hL => ?_ }
      simp only [List.nil_append, List.mem_cons, List.not_mem_nil, or_false] at hL
      rcases hL with rfl | rfl
      · exact ⟨Nat.zero_le _, fun j hj => absurd hj (by simp), by simp⟩
      · exact hin'.lv'
    · exact .inr h1
end Go.Proofs.YtilgncebhgplaaaDoor
/- SameVal of the program. -/
namespace Go.Proofs.YtilgncebhgplaaaDoor
open Go.RowKit
theorem walkof_two (T : AT) (w : World) (N : Nat) (hin : T.In w N) (hN : N ≤ w.heap.size) (w1 : World) (hb1 : Below w.heap.size w w1) :
    Calls Tryd.prog 57 #[T.val] w1 fun e w' => ∃ P g b B, e = .returned (.pointer (some ⟨P, 0, none⟩)) ∧ (WalkAt w' B B P g 1 [⟨some ⟨b, 0, none⟩, 1, [T]⟩] 0 ∧ w1.heap.size ≤ B ∧ w1.heap.size ≤ b ∧ b < w'.heap.size) ∧ Below w1.heap.size w1 w' := by
  refine (walkof_any T w1 N (hin.blw hb1 hN) (Nat.le_trans hN hb1.size)).mono fun e w' h => ?_
  exact ⟨_, _, _, _, h.1, ⟨h.2.1, by omega, by omega, by have := h.2.2.2; omega⟩, h.2.2.1⟩
theorem vold {w w' : World} {k n x : Int} {s : ByteArray} {a : Option Addr} {len cap : Nat} (h : w'.heap[w.heap.size]? = (w.alloc (.cells #[.int .i64 k, .int .i64 n, .int .i64 x, .string s, .slice a len cap] 29)).heap[w.heap.size]?) :
    w'.cell? ⟨w.heap.size, 0, none⟩ = some (.int .i64 k) ∧ w'.cell? ⟨w.heap.size, 1, none⟩ = some (.int .i64 n) ∧ w'.cell? ⟨w.heap.size, 2, none⟩ = some (.int .i64 x) ∧ w'.cell? ⟨w.heap.size, 3, none⟩ = some (.string s) ∧ w'.cell? ⟨w.heap.size, 4, none⟩ = some (.slice a len cap) ∧ ∀ o, w'.frozen? ⟨w.heap.size, o, none⟩ = false := by
  refine ⟨?_, ?_, ?_, ?_, ?_, fun o => ?_⟩
  · rw [World.cell?_of_block h]; simp [go_sem]
  · rw [World.cell?_of_block h]; simp [go_sem]
  · rw [World.cell?_of_block h]; simp [go_sem]
  · rw [World.cell?_of_block h]; simp [go_sem]
  · rw [World.cell?_of_block h]; simp [go_sem]
  · rw [frozen_blk h]; simp [go_sem]
def lr (S : List Lev) : Nat := S.length + remN S
theorem lr_step (S1 E : List Lev) (L : Lev) (t : AT) (tl : List AT) (a c) (hE : ∀ L ∈ E, L.l = []) (hl : L.l = t :: tl) : lr (S1 ++ [Lev.mk a c tl, Lev.mk t.a t.cap t.l]) ≤ lr (S1 ++ L :: E) := by
  have := remN_step S1 E L t tl a c hE hl
  simp only [lr, List.length_append, List.length_cons, List.length_nil] at *
  omega
theorem lr_one (b : Nat) (T : AT) : lr [Lev.mk (some ⟨b, 0, none⟩) 1 [T]] = 1 + T.pt.cnt := by simp [lr, remN, AT.ptL, PT.cntL]
/-- the head of the loop: the step of the first walk is done (its value lies in box X), the second's is not -/
def HeadS (w wr : World) (N B1 P1 B2 P2 b : Nat) (U : AT) (tot : Bool) (X : Nat) : Prop :=
  ∃ (g1 g2 : Nat) (S1 E R : List Lev) (L : Lev) (t : AT) (tl : List AT) (a : Option Addr) (c : Nat),
    TwoAt w wr N B1 P1 g1 B2 P2 g2 b U (S1 ++ [Lev.mk a c tl, Lev.mk t.a t.cap t.l]) R ∧ CellsAt wr X 0 t ∧ (X ≠ P1 ∧ X ≠ g1 ∧ X ≠ P2 ∧ X ≠ g2 ∧ X ≠ b ∧ B1 ≤ X) ∧
    ((∀ L' ∈ E, L'.l = []) ∧ L.l = t :: tl ∧ lens (S1 ++ L :: E) = lens R ∧ sameS (S1 ++ L :: E) R = tot) ∧ lr (S1 ++ [Lev.mk a c tl, Lev.mk t.a t.cap t.l]) ≤ 4194304 ∧ lr R ≤ 4194304
end Go.Proofs.YtilgncebhgplaaaDoor
/- ValOk of the program. -/
namespace Go.Proofs.YtilgncebhgplaaaDoor
open Go.RowKit
def GoodT (t : AT) : Prop := t.pt.Wf ∧ t.pt.sz ≤ 1048576
theorem GoodT.sub {t u : AT} (h : GoodT t) (hu : u ∈ t.l) : GoodT u := by
  obtain ⟨k, n, x, s, a, cap, l⟩ := t
  have e1 : (AT.mk k n x s a cap l).pt.sz = s.length + (l.length + PT.szL (AT.ptL l)) := by simp [AT.pt, PT.sz]
  have h2 := szL_ge (l := l) hu
  exact ⟨h.1.sub' u.pt (by rw [AT.ptL_eq]; exact List.mem_map_of_mem hu), by have := h.2; omega⟩
theorem GoodT.nums {t : AT} (h : GoodT t) : -9223372036854775808 ≤ t.n ∧ t.n ≤ 9223372036854775807 ∧ -9223372036854775808 ≤ t.x ∧ t.x ≤ 9223372036854775807 ∧ t.s.length ≤ 1099511627776 ∧ t.l.length ≤ 9223372036854775807 := by
  obtain ⟨k, n, x, s, a, cap, l⟩ := t
  have e1 : (AT.mk k n x s a cap l).pt.sz = s.length + (l.length + PT.szL (AT.ptL l)) := by simp [AT.pt, PT.sz]
  have h2 := h.2
  cases h.1 with
  | mk hk hn hx hs hl sub => exact ⟨hn.1, hn.2, hx.1, hx.2, by show s.length ≤ _; omega, by show l.length ≤ _; omega⟩
theorem cof_any (t : AT) (w : World) : Calls Tryd.prog 59 #[t.val] w fun e w' => e = .returned (conOf t) ∧ Below w.heap.size w w' := by
  rcases con_kind t with ⟨hk, hc, _⟩ | ⟨hk, hc, _⟩ | ⟨hk, hc, _⟩ | ⟨hk, hc, _⟩ | ⟨hk, hc, _⟩ | ⟨hk, hc, _⟩ | ⟨hk, hc, _⟩ | ⟨hk, hc, _⟩ | ⟨hk, hc, _⟩ | ⟨hk, hc, _⟩ | ⟨hk, hc, _⟩ | ⟨hk, hc, _⟩
  all_goals rw [hc]
  · exact cof_none w t.k t.n t.x ⟨t.s.toArray⟩ t.a t.l.length t.cap hk
  · have := cof_null w t.n t.x ⟨t.s.toArray⟩ t.a t.l.length t.cap
    rw [← hk] at this; exact this
  · have := cof_bool w t.n t.x ⟨t.s.toArray⟩ t.a t.l.length t.cap
    rw [← hk] at this; exact this
  · have := cof_int w t.n t.x ⟨t.s.toArray⟩ t.a t.l.length t.cap
    rw [← hk] at this; exact this
  · have := cof_flt w t.n t.x ⟨t.s.toArray⟩ t.a t.l.length t.cap
    rw [← hk] at this; exact this
  · have := cof_odd w t.n t.x ⟨t.s.toArray⟩ t.a t.l.length t.cap
    rw [← hk] at this; exact this
  · have := cof_dec w t.n t.x ⟨t.s.toArray⟩ t.a t.l.length t.cap
    rw [← hk] at this; exact this
  · have := cof_text w t.n t.x ⟨t.s.toArray⟩ t.a t.l.length t.cap
    rw [← hk] at this; exact this
  · have := cof_bytes w t.n t.x ⟨t.s.toArray⟩ t.a t.l.length t.cap
    rw [← hk] at this; exact this
  · have := cof_list w t.n t.x ⟨t.s.toArray⟩ t.a t.l.length t.cap
    rw [← hk] at this; exact this
  · have := cof_map w t.n t.x ⟨t.s.toArray⟩ t.a t.l.length t.cap
    rw [← hk] at this; exact this
  · have := cof_tag w t.n t.x ⟨t.s.toArray⟩ t.a t.l.length t.cap
    rw [← hk] at this; exact this
theorem cok_any (t : AT) (hg : GoodT t) (w : World) : Calls Tryd.prog 60 #[conOf t] w fun e w' => e = .returned (.bool (okF t.k t.n t.x t.s t.l.length)) ∧ Below w.heap.size w w' := by
  obtain ⟨h0, h1, k0, k1, hs, hl⟩ := hg.nums
  rcases con_kind t with ⟨hk, hc, ho⟩ | ⟨hk, hc, _⟩ | ⟨hk, hc, _⟩ | ⟨hk, hc, _⟩ | ⟨hk, hc, _⟩ | ⟨hk, hc, _⟩ | ⟨hk, hc, _⟩ | ⟨hk, hc, _⟩ | ⟨hk, hc, _⟩ | ⟨hk, hc, _⟩ | ⟨hk, hc, _⟩ | ⟨hk, hc, _⟩
  all_goals rw [hc]
  · rw [ho]; exact cok_nil w
  all_goals rw [hk]
  · exact cok_null w t.n t.x ⟨t.s.toArray⟩ t.a t.l.length t.cap
  · exact cok_bool w t.n
  · exact cok_int w t.n
  · exact cok_flt w t.n t.x h0 h1 k0 k1
  · exact cok_odd w t.n
  · exact cok_dec w t.n t.x h0 h1
  · exact cok_text w t.s hs
  · exact cok_bytes w t.n t.x ⟨t.s.toArray⟩ t.a t.l.length t.cap
  · exact cok_list w t.n t.x ⟨t.s.toArray⟩ t.a t.l.length t.cap
  · exact cok_map w t.a t.l.length t.cap hl
  · exact cok_tag w t.n t.a t.l.length t.cap
/-- every level's trees are in range -/
def GoodS (S : List Lev) : Prop := ∀ L ∈ S, ∀ u ∈ L.l, GoodT u
def okS (S : List Lev) : Bool := S.all fun L => PT.okL (AT.ptL L.l)
theorem okS_append (S R : List Lev) : okS (S ++ R) = (okS S && okS R) := by simp [okS, List.all_append]
theorem okS_empty (S : List Lev) (h : ∀ L ∈ S, L.l = []) : okS S = true := by
  rw [okS, List.all_eq_true]
  intro L hL
  rw [h L hL]; rfl
theorem okS_step (S1 E : List Lev) (L : Lev) (t : AT) (tl : List AT) (a c) (hE : ∀ L ∈ E, L.l = []) (hl : L.l = t :: tl) : okS (S1 ++ L :: E) = (t.node && okS (S1 ++ [Lev.mk a c tl, Lev.mk t.a t.cap t.l])) := by
  rw [okS_append, okS_append]
  have h1 : okS (L :: E) = (PT.okL (AT.ptL L.l) && okS E) := rfl
  have h2 : okS [Lev.mk a c tl, Lev.mk t.a t.cap t.l] = (PT.okL (AT.ptL tl) && (PT.okL (AT.ptL t.l) && true)) := rfl
  rw [h1, h2, okS_empty E hE, hl]
  simp only [AT.ptL, PT.okL, ok_eq, Bool.and_true]
  cases okS S1 <;> cases t.node <;> cases PT.okL (AT.ptL t.l) <;> cases PT.okL (AT.ptL tl) <;> rfl
theorem GoodS.step {S1 E : List Lev} {L : Lev} {t : AT} {tl : List AT} (a c) (h : GoodS (S1 ++ L :: E)) (hl : L.l = t :: tl) : GoodT t ∧ GoodS (S1 ++ [Lev.mk a c tl, Lev.mk t.a t.cap t.l]) := by
  have ht : GoodT t := h L (by simp) t (by rw [hl]; simp)
  refine ⟨ht, fun M hM u hu => ?_⟩
  simp only [List.mem_append, List.mem_cons, List.not_mem_nil, or_false] at hM
  rcases hM with hM | rfl | rfl
  · exact h M (by simp [hM]) u hu
  · exact h L (by simp) u (by rw [hl]; simp [hu])
  · exact ht.sub hu
end Go.Proofs.YtilgncebhgplaaaDoor
