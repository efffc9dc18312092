import Derived.Test.YtnikcgmbkmbloaaG18
import Derived.Test.YtnikcgmbkmbloaaG1
/- SameVal of the program: two walks side by side. -/
namespace Go.Proofs.Ytnikcgmbkmbloaa
open Go.RowKit
/-- the second walk: not begun (its one level lies in block b), or begun (its levels lie below N0) -/
def RightAt (w : World) (N0 B P g b : Nat) (T2 : AT) (R : List Lev) : Prop :=
  (∃ cap d, WalkAt w N0 B P g cap R d) ∨ (∃ d, R = [Lev.mk (some ⟨b, 0, none⟩) 1 [T2]] ∧ WalkAt w B B P g 1 R d ∧ T2.In w N0 ∧ N0 ≤ B)
theorem RightAt.lt {w : World} {N0 B P g b : Nat} {T2 : AT} {R : List Lev} (h : RightAt w N0 B P g b T2 R) : P < w.heap.size ∧ g < w.heap.size ∧ B ≤ P ∧ B ≤ g ∧ N0 ≤ B := by
  rcases h with ⟨cap, d, h⟩ | ⟨d, _, h, _, hN⟩
  · exact ⟨h.lt.1, h.lt.2.2, h.pB, h.lt.2.1, h.pN⟩
  · exact ⟨h.lt.1, h.lt.2.2, h.pB, h.lt.2.1, hN⟩
theorem RightAt.kept {w w' : World} {N0 B P g b : Nat} {T2 : AT} {R : List Lev} (h : RightAt w N0 B P g b T2 R) (hk : ∀ k, k = P ∨ k = g ∨ k = b ∨ k < N0 → w'.heap[k]? = w.heap[k]?) : RightAt w' N0 B P g b T2 R := by
  rcases h with ⟨cap, d, h⟩ | ⟨d, hR, h, hin, hN⟩
  · exact .inl ⟨cap, d, h.kept fun k hk' => hk k (by rcases hk' with h | h | h; exact .inl h; exact .inr (.inl h); exact .inr (.inr (.inr h)))⟩
  · have hin' : T2.In w' N0 := hin.kept fun k hk' => hk k (.inr (.inr (.inr hk')))
    refine .inr ⟨d, hR, ?_, hin', hN⟩
    have hP := hk P (.inl rfl)
    exact {
      rest := by rw [World.cell?_of_block (w := w) (w' := w') hP]; exact h.rest
      deep := by rw [World.cell?_of_block (w := w) (w' := w') hP]; exact h.deep
      fr := fun o => by rw [frozen_blk hP]; exact h.fr o
      row := own_heap h.row (fun k hg => hk k (.inr (.inl (by simp [Value.ownBlock] at hg; exact hg.symm))))
      pB := h.pB
      pN := h.pN
      ne := h.ne
      lv := fun L hL => by
        have h0 := h.lv L hL
        subst hR
        obtain rfl : L = Lev.mk (some ⟨b, 0, none⟩) 1 [T2] := by simpa using hL
        refine ⟨h0.hc, fun j hj => ?_, fun t ht => ?_⟩
        · obtain ⟨b', o', e, hb, hC⟩ := h0.cell j hj
          injection e with e
          injection e with e1 e2
          subst e1 e2
          exact ⟨b, 0, rfl, hb, hC.keep (hk b (.inr (.inr (.inl rfl))))⟩
        · obtain rfl : t = T2 := by simpa using ht
          exact hin'.mono hN }
structure TwoAt (w0 wr : World) (N0 B1 P1 g1 B2 P2 g2 b : Nat) (T2 : AT) (S R : List Lev) : Prop where
  left : ∃ cap d, WalkAt wr B1 B1 P1 g1 cap S d
  right : RightAt wr N0 B2 P2 g2 b T2 R
  n0 : N0 ≤ B1
  bne : b ≠ P1 ∧ b ≠ g1 ∧ b < wr.heap.size
  ne : P1 ≠ P2 ∧ P1 ≠ g2 ∧ g1 ≠ P2 ∧ g1 ≠ g2
  lo : B1 ≤ P2 ∧ B1 ≤ g2
  w0B : w0.heap.size ≤ B1
  below : Below w0.heap.size w0 wr
theorem TwoAt.lt {w0 wr : World} {N0 B1 P1 g1 B2 P2 g2 b : Nat} {T2 : AT} {S R : List Lev} (h : TwoAt w0 wr N0 B1 P1 g1 B2 P2 g2 b T2 S R) : P1 < wr.heap.size ∧ g1 < wr.heap.size ∧ P2 < wr.heap.size ∧ g2 < wr.heap.size ∧ B1 ≤ P1 ∧ B1 ≤ g1 ∧ N0 ≤ B2 := by
  obtain ⟨cap, d, hw⟩ := h.left
  have h2 := h.right.lt
  exact ⟨hw.lt.1, hw.lt.2.2, h2.1, h2.2.1, hw.pB, hw.lt.2.1, h2.2.2.2.2⟩
/-- nothing of the two walks turned -/
theorem TwoAt.kept {w0 wr w' : World} {N0 B1 P1 g1 B2 P2 g2 b : Nat} {T2 : AT} {S R : List Lev} (h : TwoAt w0 wr N0 B1 P1 g1 B2 P2 g2 b T2 S R) (hk : ∀ k, k = P1 ∨ k = g1 ∨ k = P2 ∨ k = g2 ∨ k = b ∨ k < B1 → w'.heap[k]? = wr.heap[k]?) (hs : wr.heap.size ≤ w'.heap.size) (hb : Below w0.heap.size w0 w') : TwoAt w0 w' N0 B1 P1 g1 B2 P2 g2 b T2 S R where
  left := by
    obtain ⟨cap, d, hw⟩ := h.left
    exact ⟨cap, d, hw.kept fun k hk' => hk k (by rcases hk' with h | h | h <;> simp [h])⟩
  right := h.right.kept fun k hk' => hk k (by
    have := h.n0
    rcases hk' with h | h | h | h
    · simp [h]
    · simp [h]
    · simp [h]
    · exact .inr (.inr (.inr (.inr (.inr (by omega))))))
  n0 := h.n0
  bne := ⟨h.bne.1, h.bne.2.1, by have := h.bne.2.2; omega⟩
  ne := h.ne
  lo := h.lo
  w0B := h.w0B
  below := hb
theorem TwoAt.blw {w0 wr w' : World} {N0 B1 P1 g1 B2 P2 g2 b : Nat} {T2 : AT} {S R : List Lev} (h : TwoAt w0 wr N0 B1 P1 g1 B2 P2 g2 b T2 S R) (hb : Below wr.heap.size wr w') : TwoAt w0 w' N0 B1 P1 g1 B2 P2 g2 b T2 S R := by
  have hl := h.lt
  have hb2 := h.bne.2.2
  exact h.kept (fun k hk => hb.block k (by rcases hk with rfl | rfl | rfl | rfl | rfl | hk <;> omega)) hb.size (h.below.trans (hb.mono h.below.size))
theorem TwoAt.setX {w0 wr : World} {N0 B1 P1 g1 B2 P2 g2 b X o : Nat} {u : Value} {T2 : AT} {S R : List Lev} (h : TwoAt w0 wr N0 B1 P1 g1 B2 P2 g2 b T2 S R) (hX : X ≠ P1 ∧ X ≠ g1 ∧ X ≠ P2 ∧ X ≠ g2 ∧ X ≠ b ∧ B1 ≤ X) : TwoAt w0 (wr.setCell ⟨X, o, none⟩ u) N0 B1 P1 g1 B2 P2 g2 b T2 S R := by
  refine h.kept (fun k hk => Below.heap_setCell _ _ _ _ ?_) (by simp [World.setCell]) (bset h.below (by have := h.w0B; omega))
  show k ≠ X
  rcases hk with rfl | rfl | rfl | rfl | rfl | hk <;> omega
theorem left_next {w0 wr : World} {N0 B1 P1 g1 B2 P2 g2 b : Nat} {T2 : AT} {S R : List Lev} (h : TwoAt w0 wr N0 B1 P1 g1 B2 P2 g2 b T2 S R) (hS : S.length ≤ 4194304) :
    Calls Try.prog 78 #[.pointer (some ⟨P1, 0, none⟩)] wr fun e w' =>
      (∃ (S1 E : List Lev) (L : Lev) (t : AT) (tl : List AT) (a' : Option Addr) (c' g1' : Nat), S = S1 ++ L :: E ∧ (∀ L' ∈ E, L'.l = []) ∧ L.l = t :: tl ∧ e = .returned (.tuple #[t.val, .bool true]) ∧
        TwoAt w0 w' N0 B1 P1 g1' B2 P2 g2 b T2 (S1 ++ [⟨a', c', tl⟩, ⟨t.a, t.cap, t.l⟩]) R ∧ (g1' = g1 ∨ wr.heap.size ≤ g1') ∧ Only2 P1 g1 wr w') ∨
      ((∀ L' ∈ S, L'.l = []) ∧ e = .returned (.tuple #[(AT.leaf 0 0 0 []).val, .bool false]) ∧ Only2 P1 g1 wr w' ∧ Below w0.heap.size w0 w') := by
  obtain ⟨cap, d, hw⟩ := h.left
  have hl := h.lt
  have hb2 := h.bne
  have hlo := h.lo
  have hn0 := h.n0
  have hne := h.ne
  have hw0 := h.w0B
  have hsz := h.below.size
  refine (next_any wr B1 B1 P1 g1 cap S d hw hS).mono fun e w' hpost => ?_
  rcases hpost with ⟨S1, E, L, t, tl, a', c', g', cap', h1, h2, h3, h4, h5, h6, h7⟩ | ⟨h1, h2, h3⟩
  · refine .inl ⟨S1, E, L, t, tl, a', c', g', h1, h2, h3, h4, ?_, h6, h7⟩
    exact {
      left := ⟨cap', _, h5⟩
      right := h.right.kept fun k hk => h7.block k (by rcases hk with rfl | rfl | rfl | hk <;> omega) (by rcases hk with rfl | rfl | rfl | hk <;> omega) (by rcases hk with rfl | rfl | rfl | hk <;> omega)
      n0 := hn0
      bne := ⟨hb2.1, by omega, by have := h7.size; omega⟩
      ne := ⟨hne.1, hne.2.1, by omega, by omega⟩
      lo := hlo
      w0B := hw0
      below := h.below.trans (h7.below (by omega) (by omega) hsz) }
  · exact .inr ⟨h1, h2, h3, h.below.trans (h3.below (by omega) (by omega) hsz)⟩
theorem right_next {w0 wr : World} {N0 B1 P1 g1 B2 P2 g2 b : Nat} {T2 : AT} {S R : List Lev} (h : TwoAt w0 wr N0 B1 P1 g1 B2 P2 g2 b T2 S R) (hR : R.length ≤ 4194304) :
    Calls Try.prog 78 #[.pointer (some ⟨P2, 0, none⟩)] wr fun e w' =>
      (∃ (R1 F : List Lev) (M : Lev) (u : AT) (ul : List AT) (a' : Option Addr) (c' g2' : Nat), R = R1 ++ M :: F ∧ (∀ L' ∈ F, L'.l = []) ∧ M.l = u :: ul ∧ e = .returned (.tuple #[u.val, .bool true]) ∧
        TwoAt w0 w' N0 B1 P1 g1 B2 P2 g2' b T2 S (R1 ++ [⟨a', c', ul⟩, ⟨u.a, u.cap, u.l⟩]) ∧ (g2' = g2 ∨ wr.heap.size ≤ g2') ∧ Only2 P2 g2 wr w') ∨ (∀ L' ∈ R, L'.l = []) := by
  have hl := h.lt
  have hb2 := h.bne
  have hlo := h.lo
  have hn0 := h.n0
  have hne := h.ne
  have hw0 := h.w0B
  have hsz := h.below.size
  have hlr := h.right.lt
  have fin : ∀ (w' : World) (R' : List Lev) (g2' cap' : Nat) (d' : Int), Only2 P2 g2 wr w' → (g2' = g2 ∨ wr.heap.size ≤ g2') → WalkAt w' N0 B2 P2 g2' cap' R' d' → TwoAt w0 w' N0 B1 P1 g1 B2 P2 g2' b T2 S R' := by
    intro w' R' g2' cap' d' h7 h6 h5
    obtain ⟨cap, d, hw⟩ := h.left
    exact {
      left := ⟨cap, d, hw.kept fun k hk => h7.block k (by rcases hk with rfl | rfl | hk <;> omega) (by rcases hk with rfl | rfl | hk <;> omega) (by rcases hk with rfl | rfl | hk <;> omega)⟩
      right := .inl ⟨cap', d', h5⟩
      n0 := hn0
      bne := ⟨hb2.1, hb2.2.1, by have := h7.size; omega⟩
      ne := ⟨hne.1, by omega, hne.2.2.1, by omega⟩
      lo := ⟨hlo.1, by omega⟩
      w0B := hw0
      below := h.below.trans (h7.below (by omega) (by omega) hsz) }
  rcases h.right with ⟨cap, d, hw⟩ | ⟨d, hRe, hw, hin, hN⟩
  · refine (next_any wr N0 B2 P2 g2 cap R d hw hR).mono fun e w' hpost => ?_
    rcases hpost with ⟨S1, E, L, t, tl, a', c', g', cap', h1, h2, h3, h4, h5, h6, h7⟩ | ⟨h1, h2, h3⟩
    · exact .inl ⟨S1, E, L, t, tl, a', c', g', h1, h2, h3, h4, fin _ _ _ _ _ h7 h6 h5, h6, h7⟩
    · exact .inr h1
  · refine (next_any wr B2 B2 P2 g2 1 R d hw hR).mono fun e w' hpost => ?_
    rcases hpost with ⟨S1, E, L, t, tl, a', c', g', cap', h1, h2, h3, h4, h5, h6, h7⟩ | ⟨h1, h2, h3⟩
    · refine .inl ⟨S1, E, L, t, tl, a', c', g', h1, h2, h3, h4, ?_, h6, h7⟩
      rw [hRe] at h1
      have e1 : S1 = [] ∧ L = Lev.mk (some ⟨b, 0, none⟩) 1 [T2] ∧ E = [] := by
        cases S1 with
        | nil => simp only [List.nil_append, List.cons.injEq] at h1; exact ⟨rfl, h1.1.symm, h1.2.symm⟩
        | cons x S1 => simp at h1
      obtain ⟨rfl, rfl, rfl⟩ := e1
      simp only [List.cons.injEq] at h3
      obtain ⟨rfl, rfl⟩ := h3
      have hin' : T2.In w' N0 := hin.kept fun k hk => h7.block k (by omega) (by omega) (by omega)
      refine fin _ _ _ _ _ h7 h6 { h5 with pN := hN, lv := fun L hL => ?_ }
      simp only [List.nil_append, List.mem_cons, List.not_mem_nil, or_false] at hL
      rcases hL with rfl | rfl
      · exact ⟨Nat.zero_le _, fun j hj => absurd hj (by simp), by simp⟩
      · exact hin'.lv'
    · exact .inr h1
end Go.Proofs.Ytnikcgmbkmbloaa
/- SameVal of the program. -/
namespace Go.Proofs.Ytnikcgmbkmbloaa
open Go.RowKit
theorem walkof_two (T : AT) (w : World) (N : Nat) (hin : T.In w N) (hN : N ≤ w.heap.size) (w1 : World) (hb1 : Below w.heap.size w w1) :
    Calls Try.prog 77 #[T.val] w1 fun e w' => ∃ P g b B, e = .returned (.pointer (some ⟨P, 0, none⟩)) ∧ (WalkAt w' B B P g 1 [⟨some ⟨b, 0, none⟩, 1, [T]⟩] 0 ∧ w1.heap.size ≤ B ∧ w1.heap.size ≤ b ∧ b < w'.heap.size) ∧ Below w1.heap.size w1 w' := by
  refine (walkof_any T w1 N (hin.blw hb1 hN) (Nat.le_trans hN hb1.size)).mono fun e w' h => ?_
  exact ⟨_, _, _, _, h.1, ⟨h.2.1, by omega, by omega, by have := h.2.2.2; omega⟩, h.2.2.1⟩
theorem vold {w w' : World} {k n x : Int} {s : ByteArray} {a : Option Addr} {len cap : Nat} (h : w'.heap[w.heap.size]? = (w.alloc (.cells #[.int .i64 k, .int .i64 n, .int .i64 x, .string s, .slice a len cap] 26)).heap[w.heap.size]?) :
    w'.cell? ⟨w.heap.size, 0, none⟩ = some (.int .i64 k) ∧ w'.cell? ⟨w.heap.size, 1, none⟩ = some (.int .i64 n) ∧ w'.cell? ⟨w.heap.size, 2, none⟩ = some (.int .i64 x) ∧ w'.cell? ⟨w.heap.size, 3, none⟩ = some (.string s) ∧ w'.cell? ⟨w.heap.size, 4, none⟩ = some (.slice a len cap) ∧ ∀ o, w'.frozen? ⟨w.heap.size, o, none⟩ = false := by
  refine ⟨?_, ?_, ?_, ?_, ?_, fun o => ?_⟩
  · rw [World.cell?_of_block h]; simp [go_sem]
  · rw [World.cell?_of_block h]; simp [go_sem]
  · rw [World.cell?_of_block h]; simp [go_sem]
  · rw [World.cell?_of_block h]; simp [go_sem]
  · rw [World.cell?_of_block h]; simp [go_sem]
  · rw [frozen_blk h]; simp [go_sem]
def lr (S : List Lev) : Nat := S.length + remN S
theorem lr_step (S1 E : List Lev) (L : Lev) (t : AT) (tl : List AT) (a c) (hE : ∀ L ∈ E, L.l = []) (hl : L.l = t :: tl) : lr (S1 ++ [Lev.mk a c tl, Lev.mk t.a t.cap t.l]) ≤ lr (S1 ++ L :: E) := by
  have := remN_step S1 E L t tl a c hE hl
  simp only [lr, List.length_append, List.length_cons, List.length_nil] at *
  omega
theorem lr_one (b : Nat) (T : AT) : lr [Lev.mk (some ⟨b, 0, none⟩) 1 [T]] = 1 + T.pt.cnt := by simp [lr, remN, AT.ptL, PT.cntL]
/-- the head of the loop: the step of the first walk is done (its value lies in box X), the second's is not -/
def HeadS (w wr : World) (N B1 P1 B2 P2 b : Nat) (U : AT) (tot : Bool) (X : Nat) : Prop :=
  ∃ (g1 g2 : Nat) (S1 E R : List Lev) (L : Lev) (t : AT) (tl : List AT) (a : Option Addr) (c : Nat),
    TwoAt w wr N B1 P1 g1 B2 P2 g2 b U (S1 ++ [Lev.mk a c tl, Lev.mk t.a t.cap t.l]) R ∧ CellsAt wr X 0 t ∧ (X ≠ P1 ∧ X ≠ g1 ∧ X ≠ P2 ∧ X ≠ g2 ∧ X ≠ b ∧ B1 ≤ X) ∧
    ((∀ L' ∈ E, L'.l = []) ∧ L.l = t :: tl ∧ lens (S1 ++ L :: E) = lens R ∧ sameS (S1 ++ L :: E) R = tot) ∧ lr (S1 ++ [Lev.mk a c tl, Lev.mk t.a t.cap t.l]) ≤ 4194304 ∧ lr R ≤ 4194304
set_option maxHeartbeats 4000000 in
set_option maxRecDepth 100000 in
theorem same_impl (T U : AT) (w : World) (N : Nat) (hin : T.In w N) (hin2 : U.In w N) (hN : N ≤ w.heap.size) (hsz : T.pt.sz ≤ 1048576) (hsz2 : U.pt.sz ≤ 1048576) :
    Calls Try.prog 53 #[T.val, U.val] w fun e w' => e = .returned (.bool (T.pt.same U.pt)) ∧ Below w.heap.size w w' := by
  have hcb : T.pt.cnt ≤ 1048577 := by have := cnt_le_sz T.pt; omega
  have hcb2 : U.pt.cnt ≤ 1048577 := by have := cnt_le_sz U.pt; omega
  have HWO := Lib.hid (walkof_two T w N hin hN)
  have HWO2 := Lib.hid (walkof_two U w N hin2 hN)
  have HLR : Hid (∀ b, lr [Lev.mk (some ⟨b, 0, none⟩) 1 [T]] ≤ 4194304) := Lib.hid (fun b => by rw [lr_one]; omega)
  have HLR2 : Hid (∀ b, lr [Lev.mk (some ⟨b, 0, none⟩) 1 [U]] ≤ 4194304) := Lib.hid (fun b => by rw [lr_one]; omega)
  have HIN2 := Lib.hid hin2
  have hs0 : ∀ b b2, sameS [Lev.mk (some ⟨b, 0, none⟩) 1 [T]] [Lev.mk (some ⟨b2, 0, none⟩) 1 [U]] = T.pt.same U.pt := fun b b2 => by simp [sameS, AT.ptL, PT.sameL]
  have HS0 := Lib.hid hs0
  obtain ⟨tot, htot⟩ : ∃ tot, tot = T.pt.same U.pt := ⟨_, rfl⟩
  rw [← htot] at HS0 ⊢
  clear hcb hcb2 hin hin2 hs0 htot hsz hsz2
  show Calls Try.prog 53 #[.agg #[.int .i64 T.k, .int .i64 T.n, .int .i64 T.x, .string ⟨T.s.toArray⟩, .slice T.a T.l.length T.cap], .agg #[.int .i64 U.k, .int .i64 U.n, .int .i64 U.x, .string ⟨U.s.toArray⟩, .slice U.a U.l.length U.cap]] w _
  go_enter Try.func53, Try.ntmps53
  go_wp2_with fail
  have hb0 := two' w (.cells #[.int .i64 T.k, .int .i64 T.n, .int .i64 T.x, .string ⟨T.s.toArray⟩, .slice T.a T.l.length T.cap] 26) (.cells #[.int .i64 U.k, .int .i64 U.n, .int .i64 U.x, .string ⟨U.s.toArray⟩, .slice U.a U.l.length U.cap] 26)
  have hc0 : ((w.alloc (.cells #[.int .i64 T.k, .int .i64 T.n, .int .i64 T.x, .string ⟨T.s.toArray⟩, .slice T.a T.l.length T.cap] 26)).alloc (.cells #[.int .i64 U.k, .int .i64 U.n, .int .i64 U.x, .string ⟨U.s.toArray⟩, .slice U.a U.l.length U.cap] 26)).cell? ⟨w.heap.size, 0, none⟩ = some (.int .i64 T.k) ∧ ((w.alloc (.cells #[.int .i64 T.k, .int .i64 T.n, .int .i64 T.x, .string ⟨T.s.toArray⟩, .slice T.a T.l.length T.cap] 26)).alloc (.cells #[.int .i64 U.k, .int .i64 U.n, .int .i64 U.x, .string ⟨U.s.toArray⟩, .slice U.a U.l.length U.cap] 26)).cell? ⟨w.heap.size, 1, none⟩ = some (.int .i64 T.n) ∧ ((w.alloc (.cells #[.int .i64 T.k, .int .i64 T.n, .int .i64 T.x, .string ⟨T.s.toArray⟩, .slice T.a T.l.length T.cap] 26)).alloc (.cells #[.int .i64 U.k, .int .i64 U.n, .int .i64 U.x, .string ⟨U.s.toArray⟩, .slice U.a U.l.length U.cap] 26)).cell? ⟨w.heap.size, 2, none⟩ = some (.int .i64 T.x) ∧ ((w.alloc (.cells #[.int .i64 T.k, .int .i64 T.n, .int .i64 T.x, .string ⟨T.s.toArray⟩, .slice T.a T.l.length T.cap] 26)).alloc (.cells #[.int .i64 U.k, .int .i64 U.n, .int .i64 U.x, .string ⟨U.s.toArray⟩, .slice U.a U.l.length U.cap] 26)).cell? ⟨w.heap.size, 3, none⟩ = some (.string ⟨T.s.toArray⟩) ∧ ((w.alloc (.cells #[.int .i64 T.k, .int .i64 T.n, .int .i64 T.x, .string ⟨T.s.toArray⟩, .slice T.a T.l.length T.cap] 26)).alloc (.cells #[.int .i64 U.k, .int .i64 U.n, .int .i64 U.x, .string ⟨U.s.toArray⟩, .slice U.a U.l.length U.cap] 26)).cell? ⟨w.heap.size, 4, none⟩ = some (.slice T.a T.l.length T.cap) := by refine ⟨?_, ?_, ?_, ?_, ?_⟩ <;> simp [go_sem]
  have hd0 : ((w.alloc (.cells #[.int .i64 T.k, .int .i64 T.n, .int .i64 T.x, .string ⟨T.s.toArray⟩, .slice T.a T.l.length T.cap] 26)).alloc (.cells #[.int .i64 U.k, .int .i64 U.n, .int .i64 U.x, .string ⟨U.s.toArray⟩, .slice U.a U.l.length U.cap] 26)).cell? ⟨w.heap.size + 1, 0, none⟩ = some (.int .i64 U.k) ∧ ((w.alloc (.cells #[.int .i64 T.k, .int .i64 T.n, .int .i64 T.x, .string ⟨T.s.toArray⟩, .slice T.a T.l.length T.cap] 26)).alloc (.cells #[.int .i64 U.k, .int .i64 U.n, .int .i64 U.x, .string ⟨U.s.toArray⟩, .slice U.a U.l.length U.cap] 26)).cell? ⟨w.heap.size + 1, 1, none⟩ = some (.int .i64 U.n) ∧ ((w.alloc (.cells #[.int .i64 T.k, .int .i64 T.n, .int .i64 T.x, .string ⟨T.s.toArray⟩, .slice T.a T.l.length T.cap] 26)).alloc (.cells #[.int .i64 U.k, .int .i64 U.n, .int .i64 U.x, .string ⟨U.s.toArray⟩, .slice U.a U.l.length U.cap] 26)).cell? ⟨w.heap.size + 1, 2, none⟩ = some (.int .i64 U.x) ∧ ((w.alloc (.cells #[.int .i64 T.k, .int .i64 T.n, .int .i64 T.x, .string ⟨T.s.toArray⟩, .slice T.a T.l.length T.cap] 26)).alloc (.cells #[.int .i64 U.k, .int .i64 U.n, .int .i64 U.x, .string ⟨U.s.toArray⟩, .slice U.a U.l.length U.cap] 26)).cell? ⟨w.heap.size + 1, 3, none⟩ = some (.string ⟨U.s.toArray⟩) ∧ ((w.alloc (.cells #[.int .i64 T.k, .int .i64 T.n, .int .i64 T.x, .string ⟨T.s.toArray⟩, .slice T.a T.l.length T.cap] 26)).alloc (.cells #[.int .i64 U.k, .int .i64 U.n, .int .i64 U.x, .string ⟨U.s.toArray⟩, .slice U.a U.l.length U.cap] 26)).cell? ⟨w.heap.size + 1, 4, none⟩ = some (.slice U.a U.l.length U.cap) := by refine ⟨?_, ?_, ?_, ?_, ?_⟩ <;> simp [go_sem]
  generalize ((w.alloc (.cells #[.int .i64 T.k, .int .i64 T.n, .int .i64 T.x, .string ⟨T.s.toArray⟩, .slice T.a T.l.length T.cap] 26)).alloc (.cells #[.int .i64 U.k, .int .i64 U.n, .int .i64 U.x, .string ⟨U.s.toArray⟩, .slice U.a U.l.length U.cap] 26)) = W0 at *
  obtain ⟨c0, c1, c2, c3, c4⟩ := hc0
  obtain ⟨d0, d1, d2, d3, d4⟩ := hd0
  go_region_held3 (fun W' => W'.cell? ⟨w.heap.size, 0, none⟩ = some (.int .i64 T.k) ∧ W'.cell? ⟨w.heap.size, 1, none⟩ = some (.int .i64 T.n) ∧ W'.cell? ⟨w.heap.size, 2, none⟩ = some (.int .i64 T.x) ∧ W'.cell? ⟨w.heap.size, 3, none⟩ = some (.string ⟨T.s.toArray⟩) ∧ W'.cell? ⟨w.heap.size, 4, none⟩ = some (.slice T.a T.l.length T.cap) ∧ W'.cell? ⟨w.heap.size + 1, 0, none⟩ = some (.int .i64 U.k) ∧ W'.cell? ⟨w.heap.size + 1, 1, none⟩ = some (.int .i64 U.n) ∧ W'.cell? ⟨w.heap.size + 1, 2, none⟩ = some (.int .i64 U.x) ∧ W'.cell? ⟨w.heap.size + 1, 3, none⟩ = some (.string ⟨U.s.toArray⟩) ∧ W'.cell? ⟨w.heap.size + 1, 4, none⟩ = some (.slice U.a U.l.length U.cap) ∧ Below w.heap.size w W') (first | (refine ⟨⟨?_, ?_, ?_, ?_, ?_⟩, ⟨?_, ?_, ?_, ?_, ?_⟩, ?_⟩ <;> assumption) | (refine ⟨?_, ?_, ?_, ?_, ?_, ?_, ?_, ?_, ?_, ?_, ?_⟩ <;> assumption) | (refine ⟨?_, ?_, ?_, ?_, ?_, ?_, ?_, ?_, ?_, ?_, Below.drew ?_⟩ <;> assumption) | (refine keep11 (by assumption) ⟨?_, ?_, ?_, ?_, ?_, ?_, ?_, ?_, ?_, ?_, ?_⟩ <;> assumption)) ((first | (go_at_call 77; go_split_ands; ((with_reducible refine (HWO.out _ (by assumption)).mono ?_); rintro e w1 ⟨P1, g1, b1, B1, rfl, hw1, hb1⟩; have HW1 := Lib.hid hw1; clear hw1)) | (go_at_call 77; go_split_ands; ((with_reducible refine (HWO2.out _ (by assumption)).mono ?_); rintro e w2 ⟨P2, g2, b2, B2, rfl, hw2, hb2⟩; have HW2 := Lib.hid hw2; clear hw2))))
  have hbw1 : Below w.heap.size w w1 := by assumption
  have htwo : TwoAt w w2 N B1 P1 g1 B2 P2 g2 b2 U [Lev.mk (some ⟨b1, 0, none⟩) 1 [T]] [Lev.mk (some ⟨b2, 0, none⟩) 1 [U]] := by
    obtain ⟨hw1, hB1, hb1b, hb1l⟩ := HW1.out
    obtain ⟨hw2, hB2, hbb2, hbl2⟩ := HW2.out
    have l1 := hw1.lt
    have l2 := hw2.lt
    have l3 := hw2.pB
    have l4 := hb0.size
    have l5 := hbw1.size
    have l6 : W0.heap.size ≤ B1 := hB1
    have hb02 : Below w.heap.size w w2 := hbw1.trans (hb2.mono hbw1.size)
    exact {
      left := ⟨1, 0, hw1.blw hb2⟩
      right := .inr ⟨0, rfl, hw2, HIN2.out.blw hb02 hN, by omega⟩
      n0 := by omega
      bne := ⟨by omega, by omega, hbl2⟩
      ne := ⟨by omega, by omega, by omega, by omega⟩
      lo := ⟨by omega, by omega⟩
      w0B := by omega
      below := hb02 }
  have HTWO := Lib.hid htwo
  clear htwo hb1 hb2 HW1 HW2 HIN2 hbw1 c0 c1 c2 c3 c4 d0 d1 d2 d3 d4 hb0 HWO HWO2
  go_wp2_with fail
  refine (left_next HTWO.out (by simp)).mono ?_
  rintro e w3 (⟨S1, E, L, t, tl, a', c', g1', hS, hE, hL, rfl, htw, hg, ho⟩ | ⟨hS, -⟩)
  case inr => exact absurd (hS _ (List.mem_singleton.2 rfl)) (by simp)
  have hX := htw.lt
  have hXb := htw.bne.2.2
  have hhead : HeadS w (w3.alloc (.cells #[.int .i64 t.k, .int .i64 t.n, .int .i64 t.x, .string ⟨t.s.toArray⟩, .slice t.a t.l.length t.cap] 26)) N B1 P1 B2 P2 b2 U tot w3.heap.size := by
    refine ⟨g1', g2, S1, E, _, L, t, tl, a', c', htw.blw (vbox _ _), ?_, ⟨by omega, by omega, by omega, by omega, by omega, by omega⟩, ⟨hE, hL, ?_, ?_⟩, ?_, HLR2.out b2⟩
    · refine ⟨?_, ?_, ?_, ?_, ?_⟩ <;> simp [go_sem]
    · rw [← hS]; rfl
    · rw [← hS]; exact HS0.out _ _
    · have := lr_step S1 E L t tl a' c' hE hL
      rw [← hS] at this
      exact Nat.le_trans this (HLR.out b1)
  have HHEAD := Lib.hid hhead
  clear hS hE hL htw hg ho hhead hX hXb HTWO HLR HLR2 HS0
  go_wp2_with fail
  obtain ⟨M, hM1, hM0⟩ := leftM_ex P1
  have HM1 := Lib.hid hM1
  have HM0 := Lib.hid hM0
  clear hM1 hM0
  go_loopw [7, 8] (fun x more wr => ∃ bo : Bool, more = .bool bo ∧ ((bo = true ∧ ∃ X : Nat, x = .pointer (some ⟨X, 0, none⟩) ∧ HeadS w wr N B1 P1 B2 P2 b2 U tot X) ∨ (bo = false ∧ tot = true ∧ Below w.heap.size w wr))) (fun _ m wr => M m wr)
  case atStart => exact ⟨true, rfl, .inl ⟨rfl, _, rfl, HHEAD.out⟩⟩
  case round =>
    obtain ⟨bo, rfl, ⟨rfl, X, rfl, hh⟩ | ⟨rfl, hcC, hbf⟩⟩ := hrel
    · obtain ⟨g1, g2, S1, E, R, L, t, tl, a', c', htw, hx, hX, ⟨hE, hL, hlens, hsame⟩, hl1, hl2⟩ := hh
      obtain ⟨c0, c1, c2, c3, c4⟩ := hx
      have HTW := Lib.hid htw
      have HF := Lib.hid (And.intro hE (And.intro hL (And.intro hlens hsame)))
      have HX := Lib.hid hX
      have HL1 := Lib.hid hl1
      have hR : R.length ≤ 4194304 := by simp only [lr] at hl2; omega
      have HL2 := Lib.hid hl2
      clear htw hE hL hlens hsame hX hl1 hl2
      go_wp2_with fail
      refine (right_next HTW.out hR).mono ?_
      rintro e w4 (⟨R1, F, V, u, ul, a2', c2', g2', hS, hE, hL, rfl, htw, hg, ho⟩ | hS)
      case inr =>
        obtain ⟨_, hL, hlens, _⟩ := HF.out
        have := lens_none hlens.symm hS L (by simp)
        rw [hL] at this; cases this
      obtain ⟨hX1, hX2, hX3, hX4, hX5, hX6⟩ := HX.out
      have hXlt : X < wr.heap.size := cell_lt c0
      have hx4 : CellsAt w4 X 0 t := CellsAt.keep ⟨c0, c1, c2, c3, c4⟩ (ho.block X hXlt hX3 hX4)
      have hXl4 : X < w4.heap.size := cell_lt hx4.c0
      have hXn4 : ¬ X = w4.heap.size := by omega
      have hst := sameS_step a' c' a2' c2' HF.out.1 hE HF.out.2.1 hL (by rw [← hS]; exact HF.out.2.2.1)
      rw [← hS, HF.out.2.2.2] at hst
      have hlr := lr_step R1 F V u ul a2' c2' hE hL
      rw [← hS] at hlr
      have HST := Lib.hid hst
      have HLR := Lib.hid (Nat.le_trans hlr HL2.out)
      have HTW4 := Lib.hid htw
      obtain ⟨cap1, dd1, hwl⟩ := HTW.out.left
      have HWL := Lib.hid hwl
      clear hS hE hL htw hg ho hst hlr hwl HTW HF HL2 c0 c1 c2 c3 c4
      obtain ⟨c0, c1, c2, c3, c4⟩ := hx4
      go_wp2_with fail
      refine (fields_impl t u _).mono ?_
      rintro e w6 ⟨rfl, hb6⟩
      have HB46 := Lib.hid (Below.trans (vbox w4 (.cells #[.int .i64 u.k, .int .i64 u.n, .int .i64 u.x, .string ⟨u.s.toArray⟩, .slice u.a u.l.length u.cap] 26)) (hb6.mono (by simp)))
      replace c0 := keep_below HB46.out c0
      replace c1 := keep_below HB46.out c1
      replace c2 := keep_below HB46.out c2
      replace c3 := keep_below HB46.out c3
      replace c4 := keep_below HB46.out c4
      have HTW6 := Lib.hid (HTW4.out.blw HB46.out)
      clear hb6 HTW4
      cases hhd : t.hd u
      · have HT : Hid (tot = false) := Lib.hid (by rw [HST.out.1, hhd]; rfl)
        clear hhd
        go_wp2
        go_ret
        exact ⟨by rw [HT.out]; rfl, HTW6.out.below⟩
      · have HHD := Lib.hid hhd
        clear hhd
        have HTW7 := Lib.hid (HTW6.out.blw (vbox w6 (.cells #[.int .i64 t.k, .int .i64 t.n, .int .i64 t.x, .string ⟨t.s.toArray⟩, .slice t.a t.l.length t.cap] 26)))
        go_wp2_with fail
        refine (left_next HTW7.out (by have := HL1.out; simp only [lr] at this; omega)).mono ?_
        have hl6 := HTW6.out.lt
        have hbl := HTW6.out.bne.2.2
        rintro e w8 (⟨S1', E', L', t', tl', a1', c1', g1', hS, hE, hL, rfl, htw, hg, ho⟩ | ⟨hS, rfl, ho, hb⟩)
        · have hblk := ho.block w6.heap.size (by simp) (by omega) (by omega)
          have hz := vold hblk
          obtain ⟨d0, d1, d2, d3, d4, df⟩ := hz
          have hn := htw.ne
          have h1 := HTW6.out.lt
          simp only [World.size_alloc] at hg
          have hXX : w6.heap.size ≠ P1 ∧ w6.heap.size ≠ g1' ∧ w6.heap.size ≠ P2 ∧ w6.heap.size ≠ g2' ∧ w6.heap.size ≠ b2 ∧ B1 ≤ w6.heap.size := ⟨by omega, by omega, by omega, by omega, by omega, by omega⟩
          have htw' := ((((htw.setX (o := 0) (u := .int .i64 t'.k) hXX).setX (o := 1) (u := .int .i64 t'.n) hXX).setX (o := 2) (u := .int .i64 t'.x) hXX).setX (o := 3) (u := .string ⟨t'.s.toArray⟩) hXX).setX (o := 4) (u := .slice t'.a t'.l.length t'.cap) hXX
          have hms : M (.bool true) (((((w8.setCell ⟨w6.heap.size, 0, none⟩ (.int .i64 t'.k)).setCell ⟨w6.heap.size, 1, none⟩ (.int .i64 t'.n)).setCell ⟨w6.heap.size, 2, none⟩ (.int .i64 t'.x)).setCell ⟨w6.heap.size, 3, none⟩ (.string ⟨t'.s.toArray⟩)).setCell ⟨w6.heap.size, 4, none⟩ (.slice t'.a t'.l.length t'.cap)) < M (.bool true) wr := by
            obtain ⟨_, _, hw'⟩ := htw'.left
            rw [HM1.out _ _ _ _ _ _ _ hw', HM1.out _ _ _ _ _ _ _ HWL.out, hS, remN_step S1' E' L' t' tl' a1' c1' hE hL]
            omega
          have hhead : HeadS w (((((w8.setCell ⟨w6.heap.size, 0, none⟩ (.int .i64 t'.k)).setCell ⟨w6.heap.size, 1, none⟩ (.int .i64 t'.n)).setCell ⟨w6.heap.size, 2, none⟩ (.int .i64 t'.x)).setCell ⟨w6.heap.size, 3, none⟩ (.string ⟨t'.s.toArray⟩)).setCell ⟨w6.heap.size, 4, none⟩ (.slice t'.a t'.l.length t'.cap)) N B1 P1 B2 P2 b2 U tot w6.heap.size := by
            refine ⟨g1', g2', S1', E', _, L', t', tl', a1', c1', htw', ?_, hXX, ⟨hE, hL, ?_, ?_⟩, ?_, HLR.out⟩
            · refine ⟨?_, ?_, ?_, ?_, ?_⟩ <;> simp [go_sem, d0, d1, d2, d3, d4]
            · rw [← hS]; exact HST.out.2 HHD.out
            · rw [← hS, HST.out.1, HHD.out]; rfl
            · have := lr_step S1' E' L' t' tl' a1' c1' hE hL
              rw [← hS] at this
              exact Nat.le_trans this HL1.out
          have HMS := Lib.hid hms
          have HHEAD := Lib.hid hhead
          clear hS hE hL htw hg ho htw' hms hhead hn h1 hXX hblk hl6 hbl
          go_wp2
          go_roundw
          case rel => exact ⟨true, rfl, .inl ⟨rfl, _, rfl, HHEAD.out⟩⟩
          case measure => exact HMS.out
        · have hblk := ho.block w6.heap.size (by simp) (by omega) (by omega)
          obtain ⟨d0, d1, d2, d3, d4, df⟩ := vold hblk
          have HT : Hid (tot = true) := Lib.hid (by rw [HST.out.1, HHD.out, sameS_empty _ _ hS]; rfl)
          have hww : w.heap.size ≤ w6.heap.size := HTW6.out.below.size
          have HBF := Lib.hid (bset (bset (bset (bset (bset hb hww (o := 0) (u := .int .i64 0)) hww (o := 1) (u := .int .i64 0)) hww (o := 2) (u := .int .i64 0)) hww (o := 3) (u := .string ⟨#[]⟩)) hww (o := 4) (u := .slice none 0 0))
          have HMS : Hid (∀ w9 : World, M (.bool false) w9 < M (.bool true) wr) := Lib.hid (fun w9 => by rw [HM0.out, HM1.out _ _ _ _ _ _ _ HWL.out]; omega)
          clear hS ho hb hblk hl6 hbl hww
          go_wp2
          go_roundw
          case rel => exact ⟨false, rfl, .inr ⟨rfl, HT.out, HBF.out⟩⟩
          case measure => exact HMS.out _
    · have HBF := Lib.hid hbf
      have HCC := Lib.hid hcC
      clear hbf hcC
      go_wp2
      go_ret
      exact ⟨by rw [HCC.out]; rfl, HBF.out⟩
end Go.Proofs.Ytnikcgmbkmbloaa
/- ValOk of the program. -/
namespace Go.Proofs.Ytnikcgmbkmbloaa
open Go.RowKit
def GoodT (t : AT) : Prop := t.pt.Wf ∧ t.pt.sz ≤ 1048576
theorem GoodT.sub {t u : AT} (h : GoodT t) (hu : u ∈ t.l) : GoodT u := by
  obtain ⟨k, n, x, s, a, cap, l⟩ := t
  have e1 : (AT.mk k n x s a cap l).pt.sz = s.length + (l.length + PT.szL (AT.ptL l)) := by simp [AT.pt, PT.sz]
  have h2 := szL_ge (l := l) hu
  exact ⟨h.1.sub' u.pt (by rw [AT.ptL_eq]; exact List.mem_map_of_mem hu), by have := h.2; omega⟩
theorem GoodT.nums {t : AT} (h : GoodT t) : -9223372036854775808 ≤ t.n ∧ t.n ≤ 9223372036854775807 ∧ -9223372036854775808 ≤ t.x ∧ t.x ≤ 9223372036854775807 ∧ t.s.length ≤ 1099511627776 ∧ t.l.length ≤ 9223372036854775807 := by
  obtain ⟨k, n, x, s, a, cap, l⟩ := t
  have e1 : (AT.mk k n x s a cap l).pt.sz = s.length + (l.length + PT.szL (AT.ptL l)) := by simp [AT.pt, PT.sz]
  have h2 := h.2
  cases h.1 with
  | mk hk hn hx hs hl sub => exact ⟨hn.1, hn.2, hx.1, hx.2, by show s.length ≤ _; omega, by show l.length ≤ _; omega⟩
theorem cof_any (t : AT) (w : World) : Calls Try.prog 113 #[t.val] w fun e w' => e = .returned (conOf t) ∧ Below w.heap.size w w' := by
  rcases con_kind t with ⟨hk, hc, _⟩ | ⟨hk, hc, _⟩ | ⟨hk, hc, _⟩ | ⟨hk, hc, _⟩ | ⟨hk, hc, _⟩ | ⟨hk, hc, _⟩ | ⟨hk, hc, _⟩ | ⟨hk, hc, _⟩ | ⟨hk, hc, _⟩ | ⟨hk, hc, _⟩ | ⟨hk, hc, _⟩ | ⟨hk, hc, _⟩
  all_goals rw [hc]
  · exact cof_none w t.k t.n t.x ⟨t.s.toArray⟩ t.a t.l.length t.cap hk
  · have := cof_null w t.n t.x ⟨t.s.toArray⟩ t.a t.l.length t.cap
    rw [← hk] at this; exact this
  · have := cof_bool w t.n t.x ⟨t.s.toArray⟩ t.a t.l.length t.cap
    rw [← hk] at this; exact this
  · have := cof_int w t.n t.x ⟨t.s.toArray⟩ t.a t.l.length t.cap
    rw [← hk] at this; exact this
  · have := cof_flt w t.n t.x ⟨t.s.toArray⟩ t.a t.l.length t.cap
    rw [← hk] at this; exact this
  · have := cof_odd w t.n t.x ⟨t.s.toArray⟩ t.a t.l.length t.cap
    rw [← hk] at this; exact this
  · have := cof_dec w t.n t.x ⟨t.s.toArray⟩ t.a t.l.length t.cap
    rw [← hk] at this; exact this
  · have := cof_text w t.n t.x ⟨t.s.toArray⟩ t.a t.l.length t.cap
    rw [← hk] at this; exact this
  · have := cof_bytes w t.n t.x ⟨t.s.toArray⟩ t.a t.l.length t.cap
    rw [← hk] at this; exact this
  · have := cof_list w t.n t.x ⟨t.s.toArray⟩ t.a t.l.length t.cap
    rw [← hk] at this; exact this
  · have := cof_map w t.n t.x ⟨t.s.toArray⟩ t.a t.l.length t.cap
    rw [← hk] at this; exact this
  · have := cof_tag w t.n t.x ⟨t.s.toArray⟩ t.a t.l.length t.cap
    rw [← hk] at this; exact this
theorem cok_any (t : AT) (hg : GoodT t) (w : World) : Calls Try.prog 114 #[conOf t] w fun e w' => e = .returned (.bool (okF t.k t.n t.x t.s t.l.length)) ∧ Below w.heap.size w w' := by
  obtain ⟨h0, h1, k0, k1, hs, hl⟩ := hg.nums
  rcases con_kind t with ⟨hk, hc, ho⟩ | ⟨hk, hc, _⟩ | ⟨hk, hc, _⟩ | ⟨hk, hc, _⟩ | ⟨hk, hc, _⟩ | ⟨hk, hc, _⟩ | ⟨hk, hc, _⟩ | ⟨hk, hc, _⟩ | ⟨hk, hc, _⟩ | ⟨hk, hc, _⟩ | ⟨hk, hc, _⟩ | ⟨hk, hc, _⟩
  all_goals rw [hc]
  · rw [ho]; exact cok_nil w
  all_goals rw [hk]
  · exact cok_null w t.n t.x ⟨t.s.toArray⟩ t.a t.l.length t.cap
  · exact cok_bool w t.n
  · exact cok_int w t.n
  · exact cok_flt w t.n t.x h0 h1 k0 k1
  · exact cok_odd w t.n
  · exact cok_dec w t.n t.x h0 h1
  · exact cok_text w t.s hs
  · exact cok_bytes w t.n t.x ⟨t.s.toArray⟩ t.a t.l.length t.cap
  · exact cok_list w t.n t.x ⟨t.s.toArray⟩ t.a t.l.length t.cap
  · exact cok_map w t.a t.l.length t.cap hl
  · exact cok_tag w t.n t.a t.l.length t.cap
/-- every level's trees are in range -/
def GoodS (S : List Lev) : Prop := ∀ L ∈ S, ∀ u ∈ L.l, GoodT u
def okS (S : List Lev) : Bool := S.all fun L => PT.okL (AT.ptL L.l)
theorem okS_append (S R : List Lev) : okS (S ++ R) = (okS S && okS R) := by simp [okS, List.all_append]
theorem okS_empty (S : List Lev) (h : ∀ L ∈ S, L.l = []) : okS S = true := by
  rw [okS, List.all_eq_true]
  intro L hL
  rw [h L hL]; rfl
theorem okS_step (S1 E : List Lev) (L : Lev) (t : AT) (tl : List AT) (a c) (hE : ∀ L ∈ E, L.l = []) (hl : L.l = t :: tl) : okS (S1 ++ L :: E) = (t.node && okS (S1 ++ [Lev.mk a c tl, Lev.mk t.a t.cap t.l])) := by
  rw [okS_append, okS_append]
  have h1 : okS (L :: E) = (PT.okL (AT.ptL L.l) && okS E) := rfl
  have h2 : okS [Lev.mk a c tl, Lev.mk t.a t.cap t.l] = (PT.okL (AT.ptL tl) && (PT.okL (AT.ptL t.l) && true)) := rfl
  rw [h1, h2, okS_empty E hE, hl]
  simp only [AT.ptL, PT.okL, ok_eq, Bool.and_true]
  cases okS S1 <;> cases t.node <;> cases PT.okL (AT.ptL t.l) <;> cases PT.okL (AT.ptL tl) <;> rfl
theorem GoodS.step {S1 E : List Lev} {L : Lev} {t : AT} {tl : List AT} (a c) (h : GoodS (S1 ++ L :: E)) (hl : L.l = t :: tl) : GoodT t ∧ GoodS (S1 ++ [Lev.mk a c tl, Lev.mk t.a t.cap t.l]) := by
  have ht : GoodT t := h L (by simp) t (by rw [hl]; simp)
  refine ⟨ht, fun M hM u hu => ?_⟩
  simp only [List.mem_append, List.mem_cons, List.not_mem_nil, or_false] at hM
  rcases hM with hM | rfl | rfl
  · exact h M (by simp [hM]) u hu
  · exact h L (by simp) u (by rw [hl]; simp [hu])
  · exact ht.sub hu
end Go.Proofs.Ytnikcgmbkmbloaa
