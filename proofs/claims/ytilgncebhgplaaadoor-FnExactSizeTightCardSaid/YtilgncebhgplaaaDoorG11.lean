import Derived.Test.YtilgncebhgplaaaDoorG8
import Derived.Test.YtilgncebhgplaaaDoorG10
import Derived.Deep.RegionLaw
import Derived.Deep.AppendLies
import Derived.Test.YtilgncebhgplaaaDoorG6
import Derived.Lib.Hide
import Derived.Outline
import Derived.ProofKit
import Derived.Test.YtilgncebhgplaaaDoorG2
import Derived.Test.YtilgncebhgplaaaDoorG0
import Derived.Test.YtilgncebhgplaaaDoorRows
import Derived.WalkKit
import Derived.Laws.IdiomStrings
import Derived.Laws.BytesArg
import Derived.Test.YtilgncebhgplaaaDoorG3
import Derived.Laws.RangeString
import Derived.Laws.RangeAny
import Derived.Lib.OthersKept
/- The writer's putHead: a head's bytes behind what is written. -/
namespace Go.Proofs.YtilgncebhgplaaaDoor
open Go.RowKit
set_option maxRecDepth 100000
theorem own_slice {w : World} {B E n : Nat} {v : Value} {xs : List Value} (h : w.ownsRow B E 1 v n xs) : ∃ a c, v = .slice a n c := by
  rcases h.2 with ⟨rfl, rfl⟩ | ⟨g, cap, cur, rfl, _⟩
  · exact ⟨none, 0, rfl⟩
  · exact ⟨_, _, rfl⟩
/-- append to the writer's bytes, as one step of a region that draws -/
theorem step_append_tw {w : World} {ops : Array Oper} {o : Oper} {a : Act} {K : Act → World → Prop} {Q : Exit → Act → World → Prop} {E : Prop} {N P : Nat} {v u : Value} {out : List UInt8} {S : List GF} {d : Bool} (hgd : o.guard = none) (s x : Operand) (tx : TypeId)
    (ho : o.op = .call { callee := .builtin .append, args := #[s, x], argTypes := #[33, tx] }) (ux : Value) (t : List UInt8) (hs : a.eval s = v) (hx : a.eval x = ux) (htw : TW w N P v u out S d)
    (hsrc : (tx = 33 ∧ Slc w ux (bv t)) ∨ (tx = 9 ∧ ux = .string ⟨t.toArray⟩)) (h63 : out.length + t.length ≤ 1099511627776) (n : Nat) (hn : n = (out ++ t).length)
    (h : ∀ a' c' w1, w1.cell? ⟨P, 0, none⟩ = some v → (∀ o, w1.frozen? ⟨P, o, none⟩ = false) → TW (w1.setCell ⟨P, 0, none⟩ (.slice a' n c')) N P (.slice a' n c') u (out ++ t) S d → Stp P w v u (w1.setCell ⟨P, 0, none⟩ (.slice a' n c')) (.slice a' n c') u → K (a.put o.dst (.slice a' n c')) w1) :
    if Region.wanted o (yielded ops a.tmps) = true then Oper.wp Tryd.prog o a w K Q else E := by
  subst hs hx
  have hB : P + 1 ≤ w.heap.size := htw.lt
  rcases hsrc with ⟨rfl, hu⟩ | ⟨rfl, hu⟩
  · obtain ⟨v', w', hrun, h2, h3⟩ := append_slc w (P + 1) (a.eval s) (a.eval x) out t o.type htw.row hu h63 hB
    obtain ⟨q0, qf, qt, qb⟩ := htw.put h3 h2
    obtain ⟨a', c', e⟩ := own_slice h2
    rw [← hn] at e
    subst e
    exact step_append_run hgd s x _ _ ho hrun (h a' c' w' q0 qf qt qb)
  · obtain ⟨v', w', hrun, h2, h3⟩ := append_str w (P + 1) (a.eval s) out t o.type htw.row h63 hB
    rw [← hu] at hrun
    obtain ⟨q0, qf, qt, qb⟩ := htw.put h3 h2
    obtain ⟨a', c', e⟩ := own_slice h2
    rw [← hn] at e
    subst e
    exact step_append_run hgd s x _ _ ho hrun (h a' c' w' q0 qf qt qb)
theorem blw_drew {a w : World} (h : Below a.heap.size a w) : Below a.heap.size a w.drew := h.drew
set_option maxHeartbeats 1000000 in
theorem tw_puthead {w : World} {N P vn vc : Nat} {va : Option Addr} {u : Value} {out : List UInt8} {S : List GF} {d : Bool} (htw : TW w N P (.slice va vn vc) u out S d) (h : Hd) (h0 : -9223372036854775808 ≤ h.n) (hT : Tz w) (hsz : out.length ≤ 1048576000) :
    Calls Tryd.prog 95 #[.pointer (some ⟨P, 0, none⟩), h.val] w fun e w' => e = .returned (.tuple #[]) ∧ ∃ va' vn' vc', TW w' N P (.slice va' vn' vc') u (out ++ hdB h) S d ∧ Stp P w (.slice va vn vc) u w' (.slice va' vn' vc') u := by
  have hb0 := below_box w (.cells #[.int .i64 h.k, .int .i64 h.n, .int .i64 h.w] 51)
  have hh := hb_new w h 51
  have hTW := htw.blw hb0
  have hTz := hT.below hb0
  have h9 := hdB_le h
  have hPl := htw.lt
  have CE0 := fun (W' : World) (hb : Below (w.alloc (.cells #[.int .i64 h.k, .int .i64 h.n, .int .i64 h.w] 51)).heap.size (w.alloc (.cells #[.int .i64 h.k, .int .i64 h.n, .int .i64 h.w] 51)) W') => enc_impl (hh.below hb) h0 (hTz.below hb)
  clear htw hT hh h0 hTz
  obtain ⟨E, hE⟩ : ∃ E, E = hdB h := ⟨_, rfl⟩
  rw [← hE] at CE0 h9 ⊢
  clear hE
  obtain ⟨k, n, x⟩ := h
  simp only [Hd.val] at CE0 hTW hb0 ⊢
  go_enter Tryd.func95, Tryd.ntmps95
  (go_upto_region 1 with fail)
  generalize hW1 : (w.alloc (.cells #[.int .i64 k, .int .i64 n, .int .i64 x] 51)) = W1 at *
  have CE := Lib.hid CE0
  have HB0 := Lib.hid hb0
  have hbx : w.heap.size < W1.heap.size := by rw [← hW1]; simp
  clear CE0 hb0 hW1
  have c0 := hTW.c0
  have hbr := Below.refl W1.heap.size W1
  obtain ⟨ne, hne⟩ : ∃ ne, ne = (out ++ E).length := ⟨_, rfl⟩
  have HNE := Lib.hid hne
  have hsz2 : out.length + E.length ≤ 1099511627776 := by omega
  clear hne hsz
  go_region_law ((first | (refine step_append_tw (N := N) (P := P) (v := .slice va vn vc) (u := u) (out := out) (S := S) (d := d) (by rfl) _ _ 33 (by rfl) _ E (by rfl) (by rfl) (by first | with_reducible assumption | with_reducible exact TW.drew (by with_reducible assumption)) (.inl ⟨rfl, by first | with_reducible assumption | assumption⟩) hsz2 ne HNE.out ?_; intro a9 c9 w9 q0 qf qt qb) | (go_simp; go_at_call 100; refine (CE.out _ (by first | with_reducible assumption | with_reducible exact blw_drew (by with_reducible assumption))).mono ?_; rintro e wc ⟨ux, rfl, hux, bx⟩; have bw := below_grow (by first | with_reducible assumption | with_reducible exact blw_drew (by with_reducible assumption) : Below W1.heap.size W1 _) bx; have twc := hTW.blw bw; have cc := keep_below bw c0; dsimp only)))
  all_goals
    have HQ := Lib.hid (And.intro qt (qb.pre (HB0.out.trans (bw.mono (Nat.le_of_lt hbx)))))
    clear qt qb q0 qf twc cc bx bw hux
    go_end0
    exact ⟨rfl, a9, ne, c9, HQ.out.1, HQ.out.2⟩
end Go.Proofs.YtilgncebhgplaaaDoor
/- The writer's putElements: one more list, map or tag is open. -/
namespace Go.Proofs.YtilgncebhgplaaaDoor
open Go.RowKit
set_option maxRecDepth 100000
theorem openInfo : (Tryd.prog.info? 85).map (fun i => (i.zero, i.size, i.bytes)) = some (some (.agg #[.int .i64 0, .int .i64 0, .int .i64 0, .string ⟨#[]⟩, .slice none 0 0, .int .i64 0, .int .i64 0, .slice none 0 0]), 8, 104) := by kernel_rfl
def GF.new (T : AT) : GF := ⟨T, 0, 0, .slice none 0 0, []⟩
theorem new_one (T : AT) : ∀ y ∈ (GF.new T).cells, y.oneCell' = true := by
  intro y hy
  simp only [GF.cells, GF.new, List.mem_cons, List.not_mem_nil, or_false] at hy
  rcases hy with rfl | rfl | rfl | rfl | rfl | rfl | rfl | rfl <;> rfl
theorem new_cells (W : World) (T : AT) (b : Nat) (fr : Nat × Nat) (hb : W.heap[b]? = some (.cells #[.int .i64 T.k, .int .i64 T.n, .int .i64 T.x, .string ⟨T.s.toArray⟩, .slice T.a T.l.length T.cap, .int .i64 0, .int .i64 0, .slice none 0 0] 85 fr)) : ∀ j y, (GF.new T).cells[j]? = some y → W.cell? ((⟨b, 0, none⟩ : Addr).add j) = some y :=
  World.news_of_block (cs := #[.int .i64 T.k, .int .i64 T.n, .int .i64 T.x, .string ⟨T.s.toArray⟩, .slice T.a T.l.length T.cap, .int .i64 0, .int .i64 0, .slice none 0 0]) hb
/-- append to what is open, as one step of a region that draws -/
theorem step_append_twu {w : World} {ops : Array Oper} {o : Oper} {a : Act} {K : Act → World → Prop} {Q : Exit → Act → World → Prop} {E : Prop} {N P : Nat} {v u : Value} {out : List UInt8} {S : List GF} {d : Bool} (hgd : o.guard = none) (s x : Operand)
    (ho : o.op = .call { callee := .builtin .append, args := #[s, x], argTypes := #[44, 44] }) (T : AT) (b : Nat) (hs : a.eval s = u) (hx : a.eval x = .slice (some ⟨b, 0, none⟩) 1 1) (htw : TW w N P v u out S d) (hT : T.In w N)
    (hc : ∀ j y, (GF.new T).cells[j]? = some y → w.cell? ((⟨b, 0, none⟩ : Addr).add j) = some y) (hS : S.length ≤ 4194305) (n : Nat) (hn : n = S.length + 1)
    (h : ∀ gg cap2 w1, w1.cell? ⟨P, 1, none⟩ = some u → (∀ o, w1.frozen? ⟨P, o, none⟩ = false) → TW (w1.setCell ⟨P, 1, none⟩ (.slice (some ⟨gg, 0, none⟩) n cap2)) N P v (.slice (some ⟨gg, 0, none⟩) n cap2) out (S ++ [GF.new T]) d → Stp P w v u (w1.setCell ⟨P, 1, none⟩ (.slice (some ⟨gg, 0, none⟩) n cap2)) v (.slice (some ⟨gg, 0, none⟩) n cap2) → K (a.put o.dst (.slice (some ⟨gg, 0, none⟩) n cap2)) w1) :
    if Region.wanted o (yielded ops a.tmps) = true then Oper.wp Tryd.prog o a w K Q else E := by
  obtain ⟨i0, hi, hz0, hz1, hz2⟩ := info_parts openInfo
  subst hn
  refine step_append_lies w hgd s x _ ho (P + 1) 85 i0 _ 8 104 Tryd.underlying44 hi hz0 hz1 hz2 rfl (by omega) u S.length (cellsF S) hs htw.stk ⟨b, 0, none⟩ 1 1 (GF.new T).cells hx rfl hc (new_one T) (by omega) (by unfold maxLen; omega) (by omega) htw.lt _ rfl ?_
  intro gg cap2 w1 hown hgrow hat _
  obtain ⟨q1, qf, qt, qb⟩ := htw.push (f := GF.new T) hT rfl rfl hown hgrow hat
  exact h gg cap2 w1 q1 qf qt qb
set_option maxHeartbeats 1000000 in
theorem tw_elements {w : World} {N P : Nat} {v : Value} {ua : Option Addr} {un uc : Nat} {out : List UInt8} {S : List GF} {d : Bool} (T : AT) (htw : TW w N P v (.slice ua un uc) out S d) (hT : T.In w N) (hS : S.length ≤ 4194305) :
    Calls Tryd.prog 98 #[.pointer (some ⟨P, 0, none⟩), T.val] w fun e w' => e = .returned (.tuple #[]) ∧ ∃ ua' un' uc', TW w' N P v (.slice ua' un' uc') out (S ++ [GF.new T]) d ∧ Stp P w v (.slice ua un uc) w' v (.slice ua' un' uc') := by
  have hb0 := vbox w (.cells #[.int .i64 T.k, .int .i64 T.n, .int .i64 T.x, .string ⟨T.s.toArray⟩, .slice T.a T.l.length T.cap] 29)
  have hTW := htw.blw hb0
  have hPl := htw.lt
  have hIn := hT.blw hb0 (by have := htw.np; omega)
  have hbc : CellsAt (w.alloc (.cells #[.int .i64 T.k, .int .i64 T.n, .int .i64 T.x, .string ⟨T.s.toArray⟩, .slice T.a T.l.length T.cap] 29)) w.heap.size 0 T := by
    refine ⟨?_, ?_, ?_, ?_, ?_⟩ <;> simp [go_sem]
  clear htw hT
  show Calls Tryd.prog 98 #[.pointer (some ⟨P, 0, none⟩), .agg #[.int .i64 T.k, .int .i64 T.n, .int .i64 T.x, .string ⟨T.s.toArray⟩, .slice T.a T.l.length T.cap]] w _
  go_enter Tryd.func98, Tryd.ntmps98
  (go_upto_region 1 with fail)
  generalize hW1 : (w.alloc (.cells #[.int .i64 T.k, .int .i64 T.n, .int .i64 T.x, .string ⟨T.s.toArray⟩, .slice T.a T.l.length T.cap] 29)) = W1 at *
  have HB0 := Lib.hid hb0
  have hbx : w.heap.size < W1.heap.size := by rw [← hW1]; simp
  obtain ⟨c0, c1, c2, c3, c4⟩ := hbc
  have HNP := Lib.hid hTW.np
  clear hb0 hW1
  have p0 := hTW.c1
  have hPW : P < W1.heap.size := Nat.lt_trans hPl hbx
  obtain ⟨ne, hne⟩ : ∃ ne, ne = S.length + 1 := ⟨_, rfl⟩
  have HNE := Lib.hid hne
  clear hne
  go_region_law ((first | (refine step_append_twu (N := N) (P := P) (v := v) (u := .slice ua un uc) (out := out) (S := S) (d := d) (by rfl) _ _ (by rfl) T _ (by rfl) (by rfl) (TW.blw hTW (by repeat (first | with_reducible exact Below.refl _ _ | with_reducible refine Below.drew ?_ | with_reducible refine Below.alloc ?_ (Nat.le_refl _) _))) (hIn.blw (by repeat (first | with_reducible exact Below.refl _ _ | with_reducible refine Below.drew ?_ | with_reducible refine Below.alloc ?_ (Nat.le_refl _) _)) (Nat.le_of_lt (Nat.lt_of_le_of_lt HNP.out (Nat.lt_trans hPl hbx)))) (new_cells _ T _ (0, 0) (by first | exact heap_alloc_new W1 _ | exact heap_alloc_new W1.drew _)) hS ne HNE.out ?_; intro g9 c9 w9 q0 qf qt qb)))
  all_goals
    have hb12 : Stp P w v (.slice ua un uc) (w9.setCell ⟨P, 1, none⟩ (.slice (some ⟨g9, 0, none⟩) ne c9)) v (.slice (some ⟨g9, 0, none⟩) ne c9) := by
      refine qb.pre (HB0.out.trans ?_)
      refine Below.mono (B := W1.heap.size) ?_ (Nat.le_of_lt hbx)
      repeat (first | with_reducible exact Below.refl _ _ | with_reducible refine Below.drew ?_ | with_reducible refine Below.alloc ?_ (Nat.le_refl _) _)
    have HQ := Lib.hid (And.intro qt hb12)
    clear qt qb q0 qf hb12
    go_end0
    exact ⟨rfl, some ⟨g9, 0, none⟩, ne, c9, HQ.out.1, HQ.out.2⟩
end Go.Proofs.YtilgncebhgplaaaDoor
/- The contents of the kinds: what val returns; contentOf and contentOk. -/
namespace Go.Proofs.YtilgncebhgplaaaDoor
open Go.RowKit
theorem two3 (w : World) (a b : Obj) : Below w.heap.size w ((w.alloc a).alloc b) := ((Below.refl w.heap.size w).alloc (Nat.le_refl _) a).alloc (by simp) b
theorem cval_null (w : World) (n x : Int) (s : ByteArray) (a : Option Addr) (len cap : Nat) : Calls Tryd.prog 128 #[.agg #[]] w fun e w' => e = .returned (.agg #[.int .i64 1, .int .i64 0, .int .i64 0, .string ⟨#[]⟩, .slice none 0 0]) ∧ Below w.heap.size w w' := by
  go_enter Tryd.func128, Tryd.ntmps128
  go_wp2
  exact bodyPost_ret (v := .agg #[.int .i64 1, .int .i64 0, .int .i64 0, .string ⟨#[]⟩, .slice none 0 0]) (by simp [results, Tryd.results128, go_sem]) rfl ⟨rfl, two3 _ _ _⟩
theorem cval_bool (w : World) (n x : Int) (s : ByteArray) (a : Option Addr) (len cap : Nat) : Calls Tryd.prog 129 #[.int .i64 n] w fun e w' => e = .returned (.agg #[.int .i64 2, .int .i64 n, .int .i64 0, .string ⟨#[]⟩, .slice none 0 0]) ∧ Below w.heap.size w w' := by
  go_enter Tryd.func129, Tryd.ntmps129
  go_wp2
  exact bodyPost_ret (v := .agg #[.int .i64 2, .int .i64 n, .int .i64 0, .string ⟨#[]⟩, .slice none 0 0]) (by simp [results, Tryd.results129, go_sem]) rfl ⟨rfl, vbox _ _⟩
theorem cval_flt (w : World) (n x : Int) (s : ByteArray) (a : Option Addr) (len cap : Nat) : Calls Tryd.prog 131 #[.agg #[.int .i64 n, .int .i64 x]] w fun e w' => e = .returned (.agg #[.int .i64 4, .int .i64 n, .int .i64 x, .string ⟨#[]⟩, .slice none 0 0]) ∧ Below w.heap.size w w' := by
  go_enter Tryd.func131, Tryd.ntmps131
  go_wp2
  exact bodyPost_ret (v := .agg #[.int .i64 4, .int .i64 n, .int .i64 x, .string ⟨#[]⟩, .slice none 0 0]) (by simp [results, Tryd.results131, go_sem]) rfl ⟨rfl, two3 _ _ _⟩
theorem cval_odd (w : World) (n x : Int) (s : ByteArray) (a : Option Addr) (len cap : Nat) : Calls Tryd.prog 132 #[.int .i64 n] w fun e w' => e = .returned (.agg #[.int .i64 5, .int .i64 n, .int .i64 0, .string ⟨#[]⟩, .slice none 0 0]) ∧ Below w.heap.size w w' := by
  go_enter Tryd.func132, Tryd.ntmps132
  go_wp2
  exact bodyPost_ret (v := .agg #[.int .i64 5, .int .i64 n, .int .i64 0, .string ⟨#[]⟩, .slice none 0 0]) (by simp [results, Tryd.results132, go_sem]) rfl ⟨rfl, vbox _ _⟩
theorem cval_bytes (w : World) (n x : Int) (s : ByteArray) (a : Option Addr) (len cap : Nat) : Calls Tryd.prog 135 #[.string s] w fun e w' => e = .returned (.agg #[.int .i64 8, .int .i64 0, .int .i64 0, .string s, .slice none 0 0]) ∧ Below w.heap.size w w' := by
  go_enter Tryd.func135, Tryd.ntmps135
  go_wp2
  exact bodyPost_ret (v := .agg #[.int .i64 8, .int .i64 0, .int .i64 0, .string s, .slice none 0 0]) (by simp [results, Tryd.results135, go_sem]) rfl ⟨rfl, vbox _ _⟩
theorem cval_map (w : World) (n x : Int) (s : ByteArray) (a : Option Addr) (len cap : Nat) : Calls Tryd.prog 137 #[.slice a len cap] w fun e w' => e = .returned (.agg #[.int .i64 10, .int .i64 0, .int .i64 0, .string ⟨#[]⟩, .slice a len cap]) ∧ Below w.heap.size w w' := by
  go_enter Tryd.func137, Tryd.ntmps137
  go_wp2
  exact bodyPost_ret (v := .agg #[.int .i64 10, .int .i64 0, .int .i64 0, .string ⟨#[]⟩, .slice a len cap]) (by simp [results, Tryd.results137, go_sem]) rfl ⟨rfl, vbox _ _⟩
theorem cval_tag (w : World) (n x : Int) (s : ByteArray) (a : Option Addr) (len cap : Nat) : Calls Tryd.prog 138 #[.agg #[.int .i64 n, .slice a len cap]] w fun e w' => e = .returned (.agg #[.int .i64 11, .int .i64 n, .int .i64 0, .string ⟨#[]⟩, .slice a len cap]) ∧ Below w.heap.size w w' := by
  go_enter Tryd.func138, Tryd.ntmps138
  go_wp2
  exact bodyPost_ret (v := .agg #[.int .i64 11, .int .i64 n, .int .i64 0, .string ⟨#[]⟩, .slice a len cap]) (by simp [results, Tryd.results138, go_sem]) rfl ⟨rfl, two3 _ _ _⟩
theorem cval_int (w : World) (n x : Int) (s : ByteArray) (a : Option Addr) (len cap : Nat) : Calls Tryd.prog 130 #[.int .i64 n] w fun e w' => e = .returned (.agg #[.int .i64 3, .int .i64 n, .int .i64 0, .string ⟨#[]⟩, .slice none 0 0]) ∧ Below w.heap.size w w' := by
  go_enter Tryd.func130, Tryd.ntmps130
  go_wp2
  exact bodyPost_ret (v := .agg #[.int .i64 3, .int .i64 n, .int .i64 0, .string ⟨#[]⟩, .slice none 0 0]) (by simp [results, Tryd.results130, go_sem]) rfl ⟨rfl, vbox _ _⟩
theorem cval_text (w : World) (n x : Int) (s : ByteArray) (a : Option Addr) (len cap : Nat) : Calls Tryd.prog 134 #[.string s] w fun e w' => e = .returned (.agg #[.int .i64 7, .int .i64 0, .int .i64 0, .string s, .slice none 0 0]) ∧ Below w.heap.size w w' := by
  go_enter Tryd.func134, Tryd.ntmps134
  go_wp2
  exact bodyPost_ret (v := .agg #[.int .i64 7, .int .i64 0, .int .i64 0, .string s, .slice none 0 0]) (by simp [results, Tryd.results134, go_sem]) rfl ⟨rfl, vbox _ _⟩
theorem cval_dec (w : World) (n x : Int) (s : ByteArray) (a : Option Addr) (len cap : Nat) : Calls Tryd.prog 133 #[.agg #[.int .i64 n, .int .i64 x]] w fun e w' => e = .returned (.agg #[.int .i64 6, .int .i64 n, .int .i64 x, .string ⟨#[]⟩, .slice none 0 0]) ∧ Below w.heap.size w w' := by
  go_enter Tryd.func133, Tryd.ntmps133
  go_wp2
  exact bodyPost_ret (v := .agg #[.int .i64 6, .int .i64 n, .int .i64 x, .string ⟨#[]⟩, .slice none 0 0]) (by simp [results, Tryd.results133, go_sem]) rfl ⟨rfl, two3 _ _ _⟩
theorem cval_list (w : World) (n x : Int) (s : ByteArray) (a : Option Addr) (len cap : Nat) : Calls Tryd.prog 136 #[.slice a len cap] w fun e w' => e = .returned (.agg #[.int .i64 9, .int .i64 0, .int .i64 0, .string ⟨#[]⟩, .slice a len cap]) ∧ Below w.heap.size w w' := by
  go_enter Tryd.func136, Tryd.ntmps136
  go_wp2
  exact bodyPost_ret (v := .agg #[.int .i64 9, .int .i64 0, .int .i64 0, .string ⟨#[]⟩, .slice a len cap]) (by simp [results, Tryd.results136, go_sem]) rfl ⟨rfl, vbox _ _⟩
theorem cof_null (w : World) (n x : Int) (s : ByteArray) (a : Option Addr) (len cap : Nat) : Calls Tryd.prog 59 #[.agg #[.int .i64 1, .int .i64 n, .int .i64 x, .string s, .slice a len cap]] w fun e w' => e = .returned (.iface 99 (.agg #[])) ∧ Below w.heap.size w w' := by
  go_enter Tryd.func59, Tryd.ntmps59
  go_wp2
  go_ret
  exact ⟨rfl, vbox _ _⟩
theorem cof_bool (w : World) (n x : Int) (s : ByteArray) (a : Option Addr) (len cap : Nat) : Calls Tryd.prog 59 #[.agg #[.int .i64 2, .int .i64 n, .int .i64 x, .string s, .slice a len cap]] w fun e w' => e = .returned (.iface 100 (.int .i64 n)) ∧ Below w.heap.size w w' := by
  go_enter Tryd.func59, Tryd.ntmps59
  go_wp2
  go_ret
  exact ⟨rfl, vbox _ _⟩
theorem cof_int (w : World) (n x : Int) (s : ByteArray) (a : Option Addr) (len cap : Nat) : Calls Tryd.prog 59 #[.agg #[.int .i64 3, .int .i64 n, .int .i64 x, .string s, .slice a len cap]] w fun e w' => e = .returned (.iface 101 (.int .i64 n)) ∧ Below w.heap.size w w' := by
  go_enter Tryd.func59, Tryd.ntmps59
  go_wp2
  go_ret
  exact ⟨rfl, vbox _ _⟩
theorem cof_flt (w : World) (n x : Int) (s : ByteArray) (a : Option Addr) (len cap : Nat) : Calls Tryd.prog 59 #[.agg #[.int .i64 4, .int .i64 n, .int .i64 x, .string s, .slice a len cap]] w fun e w' => e = .returned (.iface 102 (.agg #[.int .i64 n, .int .i64 x])) ∧ Below w.heap.size w w' := by
  go_enter Tryd.func59, Tryd.ntmps59
  go_wp2
  go_ret
  exact ⟨rfl, vbox _ _⟩
theorem cof_odd (w : World) (n x : Int) (s : ByteArray) (a : Option Addr) (len cap : Nat) : Calls Tryd.prog 59 #[.agg #[.int .i64 5, .int .i64 n, .int .i64 x, .string s, .slice a len cap]] w fun e w' => e = .returned (.iface 103 (.int .i64 n)) ∧ Below w.heap.size w w' := by
  go_enter Tryd.func59, Tryd.ntmps59
  go_wp2
  go_ret
  exact ⟨rfl, vbox _ _⟩
theorem cof_dec (w : World) (n x : Int) (s : ByteArray) (a : Option Addr) (len cap : Nat) : Calls Tryd.prog 59 #[.agg #[.int .i64 6, .int .i64 n, .int .i64 x, .string s, .slice a len cap]] w fun e w' => e = .returned (.iface 104 (.agg #[.int .i64 n, .int .i64 x])) ∧ Below w.heap.size w w' := by
  go_enter Tryd.func59, Tryd.ntmps59
  go_wp2
  go_ret
  exact ⟨rfl, vbox _ _⟩
theorem cof_text (w : World) (n x : Int) (s : ByteArray) (a : Option Addr) (len cap : Nat) : Calls Tryd.prog 59 #[.agg #[.int .i64 7, .int .i64 n, .int .i64 x, .string s, .slice a len cap]] w fun e w' => e = .returned (.iface 105 (.string s)) ∧ Below w.heap.size w w' := by
  go_enter Tryd.func59, Tryd.ntmps59
  go_wp2
  go_ret
  exact ⟨rfl, vbox _ _⟩
theorem cof_bytes (w : World) (n x : Int) (s : ByteArray) (a : Option Addr) (len cap : Nat) : Calls Tryd.prog 59 #[.agg #[.int .i64 8, .int .i64 n, .int .i64 x, .string s, .slice a len cap]] w fun e w' => e = .returned (.iface 106 (.string s)) ∧ Below w.heap.size w w' := by
  go_enter Tryd.func59, Tryd.ntmps59
  go_wp2
  go_ret
  exact ⟨rfl, vbox _ _⟩
theorem cof_list (w : World) (n x : Int) (s : ByteArray) (a : Option Addr) (len cap : Nat) : Calls Tryd.prog 59 #[.agg #[.int .i64 9, .int .i64 n, .int .i64 x, .string s, .slice a len cap]] w fun e w' => e = .returned (.iface 107 (.slice a len cap)) ∧ Below w.heap.size w w' := by
  go_enter Tryd.func59, Tryd.ntmps59
  go_wp2
  go_ret
  exact ⟨rfl, vbox _ _⟩
theorem cof_map (w : World) (n x : Int) (s : ByteArray) (a : Option Addr) (len cap : Nat) : Calls Tryd.prog 59 #[.agg #[.int .i64 10, .int .i64 n, .int .i64 x, .string s, .slice a len cap]] w fun e w' => e = .returned (.iface 108 (.slice a len cap)) ∧ Below w.heap.size w w' := by
  go_enter Tryd.func59, Tryd.ntmps59
  go_wp2
  go_ret
  exact ⟨rfl, vbox _ _⟩
theorem cof_tag (w : World) (n x : Int) (s : ByteArray) (a : Option Addr) (len cap : Nat) : Calls Tryd.prog 59 #[.agg #[.int .i64 11, .int .i64 n, .int .i64 x, .string s, .slice a len cap]] w fun e w' => e = .returned (.iface 110 (.agg #[.int .i64 n, .slice a len cap])) ∧ Below w.heap.size w w' := by
  go_enter Tryd.func59, Tryd.ntmps59
  go_wp2
  go_ret
  exact ⟨rfl, vbox _ _⟩
theorem cof_none (w : World) (k n x : Int) (s : ByteArray) (a : Option Addr) (len cap : Nat) (hk : k < 1 ∨ 11 < k) : Calls Tryd.prog 59 #[.agg #[.int .i64 k, .int .i64 n, .int .i64 x, .string s, .slice a len cap]] w fun e w' => e = .returned .nilIface ∧ Below w.heap.size w w' := by
  have h1 : ¬ k = 1 := by omega
  have h2 : ¬ k = 2 := by omega
  have h3 : ¬ k = 3 := by omega
  have h4 : ¬ k = 4 := by omega
  have h5 : ¬ k = 5 := by omega
  have h6 : ¬ k = 6 := by omega
  have h7 : ¬ k = 7 := by omega
  have h8 : ¬ k = 8 := by omega
  have h9 : ¬ k = 9 := by omega
  have h10 : ¬ k = 10 := by omega
  have h11 : ¬ k = 11 := by omega
  clear hk
  go_enter Tryd.func59, Tryd.ntmps59
  go_wp2
  go_ret
  exact ⟨rfl, vbox _ _⟩
end Go.Proofs.YtilgncebhgplaaaDoor
/- The character at a place of given bytes: the model's GetRune, for every place and all bytes. -/
namespace Go.Proofs.YtilgncebhgplaaaDoor
open Go.RowKit
theorem reads_at {w : World} {v : Value} {l : List UInt8} {i : Nat} (h : Reads w v (bv l)) (hi : i < l.length) : ∃ b o cap, v = .slice (some ⟨b, o, none⟩) l.length cap ∧ ∀ j, j < l.length → w.cell? ⟨b, o + j, none⟩ = some (.int .u8 (byteN l j)) := by
  obtain ⟨a, cap, rfl, hc⟩ := reads_byte h
  obtain ⟨b, o, rfl, _⟩ := hc i hi
  refine ⟨b, o, cap, rfl, fun j hj => ?_⟩
  obtain ⟨b', o', he, hcl⟩ := hc j hj
  simp only [Option.some.injEq, Addr.mk.injEq, and_true] at he
  obtain ⟨rfl, rfl⟩ := he
  rw [byteN_at l j hj]; exact hcl
theorem tup_eq {a b c d : Int} (h : a = b) (k : c = d) : Value.tuple #[.int .i64 a, .int .i64 c, .bool true] = .tuple #[.int .i64 b, .int .i64 d, .bool true] := by rw [h, k]
theorem get_spec_low (w : World) (v : Value) (l : List UInt8) (a : Int) (h : Reads w v (bv l)) (ha : a < 0) :
    Calls Tryd.prog 71 #[v, .int .i64 a] w fun e w' => e = .returned (getV l a) ∧ w = w' := by
  obtain ⟨_, cap, rfl, hc⟩ := reads_byte h
  clear hc h
  have hb := Lib.hid (getV_out (l := l) (a := a) (by omega))
  go_enter Tryd.func71, Tryd.ntmps71
  go_wp2
  go_ret3
  exact ⟨ret_bad hb.out, rfl⟩
theorem get_spec_high (w : World) (v : Value) (l : List UInt8) (a : Int) (h : Reads w v (bv l)) (ha : 0 ≤ a) (hl : (l.length : Int) ≤ a) :
    Calls Tryd.prog 71 #[v, .int .i64 a] w fun e w' => e = .returned (getV l a) ∧ w = w' := by
  obtain ⟨_, cap, rfl, hc⟩ := reads_byte h
  clear hc h
  have hb := Lib.hid (getV_out (l := l) (a := a) (by omega))
  have ha' : ¬ a < 0 := by omega
  go_enter Tryd.func71, Tryd.ntmps71
  go_wp2
  go_ret3
  exact ⟨ret_bad hb.out, rfl⟩
theorem get_spec_one (w : World) (b o len cap at_ : Nat) (x : Int) (hat : at_ < len) (hlen : len ≤ 1099511627776) (hx : w.cell? ⟨b, o + at_, none⟩ = some (.int .u8 x)) (hx0 : 0 ≤ x) (hx1 : x < 128) :
    Calls Tryd.prog 71 #[.slice (some ⟨b, o, none⟩) len cap, .int .i64 at_] w fun e w' => e = .returned (.tuple #[.int .i64 x, .int .i64 (at_ + 1), .bool true]) ∧ w = w' := by
  have cw := wide_spec x w
  rw [wideR_one hx0 hx1] at cw
  have ca : ¬ ((at_ : Int) < 0) := by omega
  have cl : ¬ ((len : Int) ≤ (at_ : Int)) := by omega
  have ca2 : (at_ : Int) ≤ 1099511627776 := by omega
  have cb : (len : Int) ≤ 1099511627776 := by omega
  have hs : ¬ ((len : Int) - at_ < 1) := by omega
  go_enter Tryd.func71, Tryd.ntmps71
  go_wp2
  go_loop [9, 10] (fun n i => i = .int .i64 1 ∧ n = .int .i64 x) (fun _ i => 0)
  case atStart => exact ⟨rfl, rfl⟩
  case round =>
    obtain ⟨rfl, rfl⟩ := hrel
    go_wp2_with (go_at_call 79; refine cw.mono ?_; rintro e w' ⟨rfl, rfl⟩)
    go_ret3
    exact ⟨rfl, rfl⟩
theorem get_spec_none (w : World) (b o len cap at_ : Nat) (x : Int) (hat : at_ < len) (hlen : len ≤ 1099511627776) (hx : w.cell? ⟨b, o + at_, none⟩ = some (.int .u8 x)) (hx0 : (128 ≤ x ∧ x < 192) ∨ 248 ≤ x) (hx1 : x ≤ 255) :
    Calls Tryd.prog 71 #[.slice (some ⟨b, o, none⟩) len cap, .int .i64 at_] w fun e w' => e = .returned badG ∧ w = w' := by
  have i1 := in_no x 192 223 w (by omega)
  have i2 := in_no x 224 239 w (by omega)
  have i3 := in_no x 240 247 w (by omega)
  have ca : ¬ ((at_ : Int) < 0) := by omega
  have cl : ¬ ((len : Int) ≤ (at_ : Int)) := by omega
  have c128 : ¬ x < 128 := by omega
  clear hx0
  go_enter Tryd.func71, Tryd.ntmps71
  go_wp2_with (go_at_call 38; (first | (with_reducible refine i1.mono ?_) | (with_reducible refine i2.mono ?_) | (with_reducible refine i3.mono ?_)); rintro e w' ⟨rfl, rfl⟩)
  go_ret3
  exact ⟨ret_bad rfl, rfl⟩
theorem get_spec_any (w : World) (v : Value) (l : List UInt8) (a : Int) (h : Reads w v (bv l)) (hl : l.length ≤ 1099511627776) :
    Calls Tryd.prog 71 #[v, .int .i64 a] w fun e w' => e = .returned (getV l a) ∧ w = w' := by
  by_cases h0 : a < 0
  · exact get_spec_low w v l a h h0
  by_cases h1 : (l.length : Int) ≤ a
  · exact get_spec_high w v l a h (by omega) h1
  obtain ⟨i, rfl⟩ : ∃ i : Nat, a = i := ⟨a.toNat, by omega⟩
  have hi : i < l.length := by omega
  obtain ⟨b, o, cap, rfl, hc⟩ := reads_at h hi
  have hd := dec_eq l i
  have b0 := byteN_lt l i
  have b1 := byteN_lt l (i + 1)
  have b2 := byteN_lt l (i + 2)
  have b3 := byteN_lt l (i + 3)
  have hy : ∀ j : Nat, i + j < l.length → w.cell? ⟨b, o + (i + j), none⟩ = some (.int .u8 (((fun j => (byteN l (i + j) : Int)) : Nat → Int) j)) ∧ 0 ≤ (((fun j => (byteN l (i + j) : Int)) : Nat → Int) j) ∧ (((fun j => (byteN l (i + j) : Int)) : Nat → Int) j) ≤ 255 := by
    intro j hj
    have := byteN_lt l (i + j)
    exact ⟨hc (i + j) hj, by show (0 : Int) ≤ (byteN l (i + j) : Int); omega, by show (byteN l (i + j) : Int) ≤ 255; omega⟩
  have hx := hc i hi
  by_cases c1 : byteN l i < 128
  · rw [decN_one c1] at hd
    rw [getV_good hi hd (by omega)]
    exact get_spec_one w b o _ cap i _ hi hl hx (by omega) (by omega)
  by_cases c2 : byteN l i < 192 ∨ 248 ≤ byteN l i
  · rw [decN_bad (by omega) b0] at hd
    rw [getV_bad hd]
    exact get_spec_none w b o _ cap i _ hi hl hx (by omega) (by omega)
  by_cases c3 : byteN l i ≤ 223
  · refine get_spec_2 w b o _ cap i _ _ (getV l i) hi hl hx (by omega) (by omega) (fun j _ _ => hy j) ?_ ?_ ?_
    all_goals rcases decN_two (n := l.length - i) (b2 := byteN l (i + 2)) (b3 := byteN l (i + 3)) (show 192 ≤ byteN l i ∧ byteN l i ≤ 223 by omega) b1 with ⟨g1, g2, g3, g4, g5⟩ | ⟨g1, g5⟩
    · intro hs; omega
    · intro hs; exact getV_bad (hd.trans g5)
    · intro hs j j1 j2 hb
      obtain rfl : j = 1 := by omega
      exact absurd (show 128 ≤ (byteN l (i + 1) : Int) ∧ (byteN l (i + 1) : Int) ≤ 191 by omega) hb
    · intro hs j j1 j2 hb
      exact getV_bad (hd.trans g5)
    · intro hs ho
      simp only [accB]
      refine ⟨fun hw => ?_, fun hw => ?_⟩
      · rw [getV_good hi (hd.trans g5) (by omega)]
        exact tup_eq (by first | omega | (simp only [Nat.zero_add, Nat.reduceAdd]; omega)) (by omega)
      · exact absurd (wide2.2 (by simp only [Nat.zero_add]; omega)) hw
    · intro hs ho
      have h1 : 128 ≤ (byteN l (i + 1) : Int) ∧ (byteN l (i + 1) : Int) ≤ 191 := ho 1 (by omega) (by omega)
      refine ⟨fun hw => ?_, fun hw => getV_bad (hd.trans g5)⟩
      have hw := wide2.1 hw
      simp only [accB, Nat.zero_add] at hw
      omega
  by_cases c4 : byteN l i ≤ 239
  · refine get_spec_3 w b o _ cap i _ _ (getV l i) hi hl hx (by omega) (by omega) (fun j _ _ => hy j) ?_ ?_ ?_
    all_goals rcases decN_three (n := l.length - i) (b3 := byteN l (i + 3)) (show 224 ≤ byteN l i ∧ byteN l i ≤ 239 by omega) b1 b2 with ⟨g1, g2, g3, g4, g6, g7, g5⟩ | ⟨g1, g5⟩
    · intro hs; omega
    · intro hs; exact getV_bad (hd.trans g5)
    · intro hs j j1 j2 hb
      have : j = 1 ∨ j = 2 := by omega
      rcases this with rfl | rfl
      · exact absurd (show 128 ≤ (byteN l (i + 1) : Int) ∧ (byteN l (i + 1) : Int) ≤ 191 by omega) hb
      · exact absurd (show 128 ≤ (byteN l (i + 2) : Int) ∧ (byteN l (i + 2) : Int) ≤ 191 by omega) hb
    · intro hs j j1 j2 hb
      exact getV_bad (hd.trans g5)
    · intro hs ho
      simp only [accB]
      refine ⟨fun hw => ?_, fun hw => ?_⟩
      · rw [getV_good hi (hd.trans g5) (by omega)]
        exact tup_eq (by first | omega | (simp only [Nat.zero_add, Nat.reduceAdd]; omega)) (by omega)
      · exact absurd (wide3.2 (by simp only [Nat.zero_add, Nat.reduceAdd]; omega)) hw
    · intro hs ho
      have h1 : 128 ≤ (byteN l (i + 1) : Int) ∧ (byteN l (i + 1) : Int) ≤ 191 := ho 1 (by omega) (by omega)
      have h2 : 128 ≤ (byteN l (i + 2) : Int) ∧ (byteN l (i + 2) : Int) ≤ 191 := ho 2 (by omega) (by omega)
      refine ⟨fun hw => ?_, fun hw => getV_bad (hd.trans g5)⟩
      have hw := wide3.1 hw
      simp only [accB, Nat.zero_add, Nat.reduceAdd] at hw
      omega
  · refine get_spec_4 w b o _ cap i _ _ (getV l i) hi hl hx (by omega) (by omega) (fun j _ _ => hy j) ?_ ?_ ?_
    all_goals rcases decN_four (n := l.length - i) (show 240 ≤ byteN l i ∧ byteN l i ≤ 247 by omega) b1 b2 b3 with ⟨g1, g2, g3, g4, g6, g7, g8, g9, g5⟩ | ⟨g1, g5⟩
    · intro hs; omega
    · intro hs; exact getV_bad (hd.trans g5)
    · intro hs j j1 j2 hb
      have : j = 1 ∨ j = 2 ∨ j = 3 := by omega
      rcases this with rfl | rfl | rfl
      · exact absurd (show 128 ≤ (byteN l (i + 1) : Int) ∧ (byteN l (i + 1) : Int) ≤ 191 by omega) hb
      · exact absurd (show 128 ≤ (byteN l (i + 2) : Int) ∧ (byteN l (i + 2) : Int) ≤ 191 by omega) hb
      · exact absurd (show 128 ≤ (byteN l (i + 3) : Int) ∧ (byteN l (i + 3) : Int) ≤ 191 by omega) hb
    · intro hs j j1 j2 hb
      exact getV_bad (hd.trans g5)
    · intro hs ho
      simp only [accB]
      refine ⟨fun hw => ?_, fun hw => ?_⟩
      · rw [getV_good hi (hd.trans g5) (by omega)]
        exact tup_eq (by first | omega | (simp only [Nat.zero_add, Nat.reduceAdd]; omega)) (by omega)
      · exact absurd (wide4.2 (by simp only [Nat.zero_add, Nat.reduceAdd]; omega)) hw
    · intro hs ho
      have h1 : 128 ≤ (byteN l (i + 1) : Int) ∧ (byteN l (i + 1) : Int) ≤ 191 := ho 1 (by omega) (by omega)
      have h2 : 128 ≤ (byteN l (i + 2) : Int) ∧ (byteN l (i + 2) : Int) ≤ 191 := ho 2 (by omega) (by omega)
      have h3 : 128 ≤ (byteN l (i + 3) : Int) ∧ (byteN l (i + 3) : Int) ≤ 191 := ho 3 (by omega) (by omega)
      refine ⟨fun hw => ?_, fun hw => getV_bad (hd.trans g5)⟩
      have hw := wide4.1 hw
      simp only [accB, Nat.zero_add, Nat.reduceAdd] at hw
      omega
end Go.Proofs.YtilgncebhgplaaaDoor
/- A string's bytes as a slice, and back. -/
namespace Go.Proofs.YtilgncebhgplaaaDoor
open Go.RowKit
theorem size_l (l : List UInt8) : (ByteArray.mk l.toArray).size = l.length := by simp [ByteArray.size]
theorem conv_bytes (w : World) (l : List UInt8) : ∃ cap w1, (convert 9 33 (.string ⟨l.toArray⟩)).run Tryd.prog w = .ok (.slice (some ⟨w.heap.size, 0, none⟩) l.length cap) w1 ∧ Reads w1 (.slice (some ⟨w.heap.size, 0, none⟩) l.length cap) (bv l) ∧ Below w.heap.size w w1 ∧ ∃ C fz, w1.heap[w.heap.size]? = some (.cells C 5 fz) := by
  have h := run_bytes_of_string (P := Tryd.prog) w 9 33 5 ⟨l.toArray⟩ Tryd.underlying9 Tryd.underlying33 Tryd.underlying5
  rw [size_l] at h
  refine ⟨_, _, h, ⟨_, _, by rw [bv_length], fun j hj => ⟨_, _, rfl, ?_⟩⟩, ?_⟩
  · have hj' : j < l.length := by simpa using hj
    rw [show (w.heap.size) = w.drew.heap.size from rfl, Nat.zero_add, World.cell?_alloc_mark, bytesRow_at _ _ _ (by simpa using hj'), bv_getElem]
    simp
  · exact ⟨((Below.refl w.heap.size w).drew).alloc (Nat.le_refl _) _, _, _, heap_alloc_new w.drew _⟩
theorem conv_bytes_cap (w : World) (l : List UInt8) (hl : l.length ≤ maxLen) : ∃ cap w1, l.length ≤ cap ∧ cap ≤ maxLen ∧ (convert 9 33 (.string ⟨l.toArray⟩)).run Tryd.prog w = .ok (.slice (some ⟨w.heap.size, 0, none⟩) l.length cap) w1 ∧ Reads w1 (.slice (some ⟨w.heap.size, 0, none⟩) l.length cap) (bv l) ∧ Below w.heap.size w w1 ∧ ∃ C fz, w1.heap[w.heap.size]? = some (.cells C 5 fz) := by
  have h := run_bytes_of_string (P := Tryd.prog) w 9 33 5 ⟨l.toArray⟩ Tryd.underlying9 Tryd.underlying33 Tryd.underlying5
  rw [size_l] at h
  refine ⟨_, _, grownCap_ge _ _ _ _, grownCap_le_maxLen _ _ _ _ hl, h, ⟨_, _, by rw [bv_length], fun j hj => ⟨_, _, rfl, ?_⟩⟩, ?_⟩
  · have hj' : j < l.length := by simpa using hj
    rw [show (w.heap.size) = w.drew.heap.size from rfl, Nat.zero_add, World.cell?_alloc_mark, bytesRow_at _ _ _ (by simpa using hj'), bv_getElem]
    simp
  · exact ⟨((Below.refl w.heap.size w).drew).alloc (Nat.le_refl _) _, _, _, heap_alloc_new w.drew _⟩
theorem nums_of (l : List UInt8) : strOfNums (l.map fun x => (x.toNat : Int)) = ⟨l.toArray⟩ := by
  unfold strOfNums
  congr 1
  rw [List.map_map]
  congr 1
  rw [show ((fun n : Int => UInt8.ofNat n.toNat) ∘ fun x : UInt8 => (x.toNat : Int)) = id from by funext x; simp]
  simp
theorem conv_str (w : World) (v : Value) (l : List UInt8) (h : Slc w v (bv l)) : (convert 33 9 v).run Tryd.prog w = .ok (.string ⟨l.toArray⟩) w := by
  rcases h with ⟨rfl, h⟩ | ⟨b, o, cap, rfl, hc⟩
  · obtain rfl : l = [] := by cases l with | nil => rfl | cons x l => simp [bv] at h
    exact run_convert_bytes_nil w _ _ Tryd.underlying33 Tryd.underlying5 0 0 _ Tryd.underlying9
  · rw [← nums_of, bv_length]
    refine run_convert_bytes_arg w _ _ Tryd.underlying33 Tryd.underlying5 b o l.length cap _ (by simp) (fun j hj => ?_) _ Tryd.underlying9
    rw [hc j _ (by rw [List.getElem?_eq_getElem (by simpa using hj), bv_getElem])]
    simp [List.getD_eq_getElem?_getD, hj]
theorem slice_cells {w : World} {b len cap : Nat} {l : List UInt8} (h : Reads w (.slice (some ⟨b, 0, none⟩) len cap) (bv l)) : len = l.length ∧ ∀ j u, (bv l)[j]? = some u → w.cell? ⟨b, 0 + j, none⟩ = some u := by
  obtain ⟨a, c, e, hc⟩ := h
  injection e with e1 e2 e3
  refine ⟨by rw [e2, bv_length], fun j u hu => ?_⟩
  obtain ⟨hj, hju⟩ := List.getElem?_eq_some_iff.1 hu
  obtain ⟨b', o, ha, hcl⟩ := hc j hj
  rw [ha] at e1
  injection e1 with e1
  injection e1 with e1 e4
  subst e1
  subst e4
  rw [hcl, hju]
end Go.Proofs.YtilgncebhgplaaaDoor
/- Whether a string is characters throughout: the program's and the model's answers, for every string. -/
namespace Go.Proofs.YtilgncebhgplaaaDoor
open Go.RowKit
theorem data_l (l : List UInt8) (i j : Nat) (h : l.length ≤ j) : ((ByteArray.mk l.toArray).extract i j).data.toList = l.drop i := by
  simp
  rw [List.take_of_length_le (by simp; omega)]
theorem pre_bad {l : List UInt8} {i : Nat} (h : i < l.length) (hb : dec l i = (65533, 1)) : Lib.hasPrefix (l.drop i) [239, 191, 189] = false := by
  cases hp : Lib.hasPrefix (l.drop i) [239, 191, 189] with
  | false => rfl
  | true =>
    obtain ⟨t, ht⟩ := List.isPrefixOf_iff_prefix.1 hp
    rw [dec_drop, ← ht, show ([239, 191, 189] : List UInt8) = encR ((65533 : Nat) : Int) from rfl, decode_enc 65533 t (okR_mk (by omega)), Prod.mk.injEq] at hb
    have := wideR_three (n := ((65533 : Nat) : Int)) (by omega) (by omega) (by omega)
    omega
theorem pre_good {l : List UInt8} {i : Nat} (h : i < l.length) (h1 : (dec l i).1 = 65533) (hb : dec l i ≠ (65533, 1)) : Lib.hasPrefix (l.drop i) [239, 191, 189] = true := by
  rw [dec_drop] at h1 hb
  have hne : l.drop i ≠ [] := by intro e; have := congrArg List.length e; simp at this; omega
  have he := Lib.encode_decode (l.drop i) hne (fun g => hb (Prod.ext g.1 g.2))
  rw [h1] at he
  refine List.isPrefixOf_iff_prefix.2 ?_
  have : ([239, 191, 189] : List UInt8) = List.take (Lib.decodeL (l.drop i)).2 (l.drop i) := by rw [← he]; rfl
  rw [this]
  exact List.take_prefix _ _
theorem textok_impl (l : List UInt8) (w : World) (hl : l.length ≤ 1099511627776) :
    Calls Tryd.prog 74 #[.string ⟨l.toArray⟩] w fun e w' => e = .returned (.bool (runes l).isSome) ∧ Below w.heap.size w w' := by
  have hp : ∀ (i : Nat) (v : Bool), Lib.hasPrefix (l.drop i) [239, 191, 189] = v → ∀ w, Calls Tryd.prog 81 #[.string ((ByteArray.mk l.toArray).extract i l.length), .string ⟨#[239, 191, 189]⟩] w fun e w' => e = .returned (.bool v) ∧ w' = w := by
    intro i v hv w
    have := Tryd.strings_HasPrefix ((ByteArray.mk l.toArray).extract i l.length) ⟨#[239, 191, 189]⟩ w
    rw [data_l _ _ _ (by omega), show (ByteArray.mk #[239, 191, 189]).data.toList = [239, 191, 189] from rfl, hv] at this
    exact this
  have HP := Lib.hid hp
  have hsz := size_l l
  have hszz : ((ByteArray.mk l.toArray).size : Int) = l.length := by rw [hsz]
  clear hp
  generalize hs : (ByteArray.mk l.toArray) = s at *
  have HS := Lib.hid hs
  clear hs
  go_enter Tryd.func74, Tryd.ntmps74
  go_wp2
  go_loopw [] (fun wr => ∃ pos : Nat, wr = w.iter s pos ∧ pos ≤ l.length ∧ (runesAt l pos).isSome = (runes l).isSome) (fun wr => l.length - wr.iterPos w.heap.size)
  case atStart => exact ⟨0, rfl, Nat.zero_le _, rfl⟩
  case round =>
    obtain ⟨pos, rfl, hpos, hr⟩ := hrel
    have hd : Utf8.decode s pos = dec l pos := by rw [← HS.out]; rfl
    by_cases hp : pos < l.length
    · have hpz : pos < s.size := by omega
      have hnx : ∀ ty, (Instr.next (.pointer (some ⟨w.heap.size, 0, none⟩)) true ty).run Tryd.prog (w.iter s pos) = _ := fun ty => run_next_any w s pos ty hpz
      rw [hd] at hnx
      have hwd := dec_pos hp
      have hle : (dec l pos).1 ≤ 2147483647 := by rw [← hd]; exact decode_le s pos
      by_cases h1 : (dec l pos).1 = 65533
      · by_cases hb : dec l pos = (65533, 1)
        · have hq := HP.out pos false (pre_bad hp hb)
          have hR := Lib.hid (runesAt_bad hp hb)
          rw [hb] at hnx
          have h1' : ((65533 : Int) == 65533) = true := by decide
          clear hb h1 hwd hle hd
          rw [hR.out] at hr
          have HR := Lib.hid hr
          clear hr
          go_wp2_with (go_at_call 81; refine (hq _).mono ?_; rintro e w' ⟨rfl, rfl⟩)
          go_ret
          exact ⟨by rw [← HR.out]; rfl, (Below.refl w.heap.size w).alloc (Nat.le_refl _) _⟩
        · have hq := HP.out pos true (pre_good hp h1 hb)
          have hR := Lib.hid (runesAt_good hp hb)
          have HD := Lib.hid h1
          generalize hk : (dec l pos).2 = k at *
          have HW := Lib.hid hwd
          have HR := Lib.hid hr
          rw [h1] at hnx
          clear hb h1 hle hd hwd hk hr
          go_wp2_with (go_at_call 81; refine (hq _).mono ?_; rintro e w' ⟨rfl, rfl⟩)
          go_roundw
          case rel =>
            refine ⟨pos + k, rfl, by have := HW.out; omega, ?_⟩
            rw [← HR.out, hR.out, Option.isSome_map]
          case measure =>
            have := HW.out
            simp
            omega
      · have hb : dec l pos ≠ (65533, 1) := fun g => h1 (by rw [g])
        have hR := Lib.hid (runesAt_good hp hb)
        have h1' : (((dec l pos).1 : Int) == 65533) = false := by simp; omega
        generalize hk : (dec l pos).2 = k at *
        generalize hr0 : (dec l pos).1 = r at *
        have HW := Lib.hid hwd
        have HR := Lib.hid hr
        clear hb h1 hle hd hwd hk hr hr0
        go_wp2
        go_roundw
        case rel =>
          refine ⟨pos + k, rfl, by have := HW.out; omega, ?_⟩
          rw [← HR.out, hR.out, Option.isSome_map]
        case measure =>
          have := HW.out
          simp
          omega
    · have hpz : ¬ pos < s.size := by omega
      have hnx : ∀ ty, (Instr.next (.pointer (some ⟨w.heap.size, 0, none⟩)) true ty).run Tryd.prog (w.iter s pos) = _ := fun ty => run_next_end w s pos ty hpz
      rw [runesAt_end hp] at hr
      have HR := Lib.hid hr
      clear hr hd
      go_wp2
      go_ret
      exact ⟨by rw [← HR.out]; rfl, (Below.refl w.heap.size w).alloc (Nat.le_refl _) _⟩
theorem getV_cases (l : List UInt8) (i : Nat) (h : i < l.length) : (dec l i = (65533, 1) ∧ getV l i = .tuple #[.int .i64 0, .int .i64 0, .bool false]) ∨ (dec l i ≠ (65533, 1) ∧ getV l i = .tuple #[.int .i64 (dec l i).1, .int .i64 (i + (dec l i).2), .bool true]) := by
  by_cases hb : dec l i = (65533, 1)
  · exact .inl ⟨hb, getV_bad hb⟩
  · exact .inr ⟨hb, getV_good h rfl (fun g => hb (Prod.ext g.1 g.2))⟩
theorem textok_spec (l : List UInt8) (w : World) (hl : l.length ≤ 1099511627776) :
    Calls Tryd.prog 56 #[.string ⟨l.toArray⟩] w fun e w' => e = .returned (.bool (runes l).isSome) ∧ Below w.heap.size w w' := by
  obtain ⟨cap, w1, hcv, hR, hb1, _⟩ := conv_bytes w l
  have cg := fun a => get_spec_any w1 _ l a hR hl
  have HG := Lib.hid cg
  clear cg hR
  generalize (ByteArray.mk l.toArray) = s at *
  go_enter Tryd.func56, Tryd.ntmps56
  go_wp2
  go_loopw [4] (fun i wr => ∃ pos : Nat, i = .int .i64 pos ∧ wr = w1 ∧ pos ≤ l.length ∧ (runesAt l pos).isSome = (runes l).isSome) (fun i _ => l.length - (intOf i).toNat)
  case atStart => exact ⟨0, rfl, rfl, Nat.zero_le _, rfl⟩
  case round =>
    obtain ⟨pos, rfl, rfl, hpos, hr⟩ := hrel
    have HR := Lib.hid hr
    clear hr
    by_cases hp : pos < l.length
    · have cg := HG.out pos
      have hwd := dec_pos hp
      have HP := Lib.hid hp
      rcases getV_cases l pos hp with ⟨hb, e⟩ | ⟨hb, e⟩
      · rw [e] at cg
        have HB := Lib.hid hb
        clear hb e hwd
        go_wp2_with (go_at_call 71; refine cg.mono ?_; rintro e w' ⟨rfl, rfl⟩)
        go_ret
        exact ⟨by rw [← HR.out, runesAt_bad HP.out HB.out]; rfl, hb1⟩
      · rw [e] at cg
        have HB := Lib.hid hb
        have hg := Lib.hid (runesAt_good hp hb)
        generalize hk : (dec l pos).2 = k at *
        generalize hq : (dec l pos).1 = q at *
        have HW := Lib.hid hwd
        clear hb e hwd hk hq
        go_wp2_with (go_at_call 71; refine cg.mono ?_; rintro e w' ⟨rfl, rfl⟩)
        go_roundw
        case rel =>
          exact ⟨pos + k, by go_num, by first | rfl | trivial, HW.out.2, by rw [← HR.out, hg.out, Option.isSome_map]⟩
        case measure =>
          have := HW.out
          have := HP.out
          simp [intOf]
          omega
    · have HP := Lib.hid hp
      go_wp2
      go_ret
      exact ⟨by rw [← HR.out, runesAt_end HP.out]; rfl, hb1⟩
end Go.Proofs.YtilgncebhgplaaaDoor
