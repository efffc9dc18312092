/- Boxes of two trees that stay behind a call. -/
import Derived.Test.YtgfebmnlcihpnaaDoorOwn
namespace Go.Proofs.YtgfebmnlcihpnaaDoor
open Go.RowKit
theorem AT.Own.drew {w : World} {B : Nat} {T : AT} (h : T.Own w B) : T.Own w.drew B := h.kept (w' := w.drew) (fun _ _ => rfl)
theorem keep12 {w0 w w' : World} {B : Nat} {T : AT} {p0 p1 p2 p3 p4 q0 q1 q2 q3 q4 : Addr} {v0 v1 v2 v3 v4 u0 u1 u2 u3 u4 : Value} (hb : Below w.heap.size w w')
    (h : w.cell? p0 = some v0 ∧ w.cell? p1 = some v1 ∧ w.cell? p2 = some v2 ∧ w.cell? p3 = some v3 ∧ w.cell? p4 = some v4 ∧ w.cell? q0 = some u0 ∧ w.cell? q1 = some u1 ∧ w.cell? q2 = some u2 ∧ w.cell? q3 = some u3 ∧ w.cell? q4 = some u4 ∧ Below w0.heap.size w0 w ∧ T.Own w B) :
    w'.cell? p0 = some v0 ∧ w'.cell? p1 = some v1 ∧ w'.cell? p2 = some v2 ∧ w'.cell? p3 = some v3 ∧ w'.cell? p4 = some v4 ∧ w'.cell? q0 = some u0 ∧ w'.cell? q1 = some u1 ∧ w'.cell? q2 = some u2 ∧ w'.cell? q3 = some u3 ∧ w'.cell? q4 = some u4 ∧ Below w0.heap.size w0 w' ∧ T.Own w' B := by
  obtain ⟨h0, h1, h2, h3, h4, k0, k1, k2, k3, k4, hB, hT⟩ := h
  exact ⟨keep_below hb h0, keep_below hb h1, keep_below hb h2, keep_below hb h3, keep_below hb h4, keep_below hb k0, keep_below hb k1, keep_below hb k2, keep_below hb k3, keep_below hb k4, hB.trans (hb.mono hB.size), hT.blw hb⟩
theorem keep11 {w0 w w' : World} {p0 p1 p2 p3 p4 q0 q1 q2 q3 q4 : Addr} {v0 v1 v2 v3 v4 u0 u1 u2 u3 u4 : Value} (hb : Below w.heap.size w w')
    (h : w.cell? p0 = some v0 ∧ w.cell? p1 = some v1 ∧ w.cell? p2 = some v2 ∧ w.cell? p3 = some v3 ∧ w.cell? p4 = some v4 ∧ w.cell? q0 = some u0 ∧ w.cell? q1 = some u1 ∧ w.cell? q2 = some u2 ∧ w.cell? q3 = some u3 ∧ w.cell? q4 = some u4 ∧ Below w0.heap.size w0 w) :
    w'.cell? p0 = some v0 ∧ w'.cell? p1 = some v1 ∧ w'.cell? p2 = some v2 ∧ w'.cell? p3 = some v3 ∧ w'.cell? p4 = some v4 ∧ w'.cell? q0 = some u0 ∧ w'.cell? q1 = some u1 ∧ w'.cell? q2 = some u2 ∧ w'.cell? q3 = some u3 ∧ w'.cell? q4 = some u4 ∧ Below w0.heap.size w0 w' := by
  obtain ⟨h0, h1, h2, h3, h4, k0, k1, k2, k3, k4, hB⟩ := h
  exact ⟨keep_below hb h0, keep_below hb h1, keep_below hb h2, keep_below hb h3, keep_below hb h4, keep_below hb k0, keep_below hb k1, keep_below hb k2, keep_below hb k3, keep_below hb k4, hB.trans (hb.mono hB.size)⟩
theorem below_tr {w0 w w' : World} (hb : Below w.heap.size w w') (hB : Below w0.heap.size w0 w) : Below w0.heap.size w0 w' := hB.trans (hb.mono hB.size)
theorem own_blw {w w' : World} {B : Nat} {T : AT} (hb : Below w.heap.size w w') (h : T.Own w B) : T.Own w' B := h.blw hb
theorem vcells5 (w : World) (T : AT) (t : TypeId) : (w.alloc (.cells #[.int .i64 T.k, .int .i64 T.n, .int .i64 T.x, .string ⟨T.s.toArray⟩, .slice T.a T.l.length T.cap] t)).cell? ⟨w.heap.size, 0, none⟩ = some (.int .i64 T.k) ∧ (w.alloc (.cells #[.int .i64 T.k, .int .i64 T.n, .int .i64 T.x, .string ⟨T.s.toArray⟩, .slice T.a T.l.length T.cap] t)).cell? ⟨w.heap.size, 1, none⟩ = some (.int .i64 T.n) ∧
    (w.alloc (.cells #[.int .i64 T.k, .int .i64 T.n, .int .i64 T.x, .string ⟨T.s.toArray⟩, .slice T.a T.l.length T.cap] t)).cell? ⟨w.heap.size, 2, none⟩ = some (.int .i64 T.x) ∧ (w.alloc (.cells #[.int .i64 T.k, .int .i64 T.n, .int .i64 T.x, .string ⟨T.s.toArray⟩, .slice T.a T.l.length T.cap] t)).cell? ⟨w.heap.size, 3, none⟩ = some (.string ⟨T.s.toArray⟩) ∧ (w.alloc (.cells #[.int .i64 T.k, .int .i64 T.n, .int .i64 T.x, .string ⟨T.s.toArray⟩, .slice T.a T.l.length T.cap] t)).cell? ⟨w.heap.size, 4, none⟩ = some (.slice T.a T.l.length T.cap) := by
  refine ⟨?_, ?_, ?_, ?_, ?_⟩ <;> simp [go_sem]
theorem boxes1 (w : World) (a : Obj) : Below w.heap.size w (w.alloc a) := vbox w a
theorem boxes2 (w : World) (a b : Obj) : Below w.heap.size w ((w.alloc a).alloc b) := ((Below.refl w.heap.size w).alloc (Nat.le_refl _) a).alloc (by simp) b
theorem boxes3 (w : World) (a b c : Obj) : Below w.heap.size w (((w.alloc a).alloc b).alloc c) := (((Below.refl w.heap.size w).alloc (Nat.le_refl _) a).alloc (by simp) b).alloc (by simp; omega) c
end Go.Proofs.YtgfebmnlcihpnaaDoor
