import Derived.Test.YtdjnkcoepmackaaG26
/- PutAt of the program. -/
namespace Go.Proofs.Ytdjnkcoepmackaa
open Go.RowKit
set_option maxRecDepth 100000
theorem own_frozen {w : World} {B : Nat} {T : AT} (h : T.Own w B) {b : Nat} (hb : b ∈ T.blks) : ∀ q, w.frozen? ⟨b, q, none⟩ = false := by
  induction T using AT.ind with
  | h k n x s a cap l ih =>
    cases h with
    | mk hrow hsub =>
      simp only [AT.blks, List.mem_append] at hb
      rcases hb with hb | hb
      · rcases hrow.2 with ⟨hn, _⟩ | ⟨g, cap', cur, hv, _⟩
        · injection hn with e; subst e; simp at hb
        · injection hv with e1 e2 e3
          subst e1
          simp at hb
          subst hb
          exact hrow.frozenAt
      · obtain ⟨t, ht, hbt⟩ := AT.mem_blksL.1 hb
        exact ih t ht (hsub t ht) hbt
def putK (js : List Nat) (t : PT) (o : Option PT) : PT × Bool := match o with | some y => (PT.plug js t y, true) | none => (t, false)
theorem putK_nil (t : PT) (o : Option PT) : putR t o = putK [] t o := by cases o <;> rfl
theorem putK_step {js : List Nat} {O Y : AT} {t x : PT} {s : St} {p : List St} {j : Nat} (hO : O.pt = t) (hs : AT.sub js O = some Y) (hp : plc Y.k Y.l.length s = some j) (hj : j < Y.l.length) :
    putK js t (PT.putO (s :: p) Y.pt x) = putK (js ++ [j]) t (PT.putO p (Y.l[j]).pt x) := by
  rw [putO_some hp hj]
  cases PT.putO p (Y.l[j]).pt x with
  | none => rfl
  | some y =>
    show (PT.plug js t (Y.pt.setL j y), true) = (PT.plug (js ++ [j]) t y, true)
    rw [← hO, plug_snoc js O Y j y (Y.l[j]).pt hs (by rw [ptl, List.getElem?_map, List.getElem?_eq_getElem hj]; rfl)]
theorem drop_cons {l : List St} {i : Nat} (h : i < l.length) : l.drop i = l[i] :: l.drop (i + 1) := List.drop_eq_getElem_cons h
theorem sub_own : ∀ (js : List Nat) {T Y : AT} {w : World} {B : Nat}, AT.sub js T = some Y → T.Own w B → Y.Own w B ∧ ∀ k ∈ Y.blks, k ∈ T.blks
  | [], T, Y, w, B, h, ho => by injection h with h; subst h; exact ⟨ho, fun _ h => h⟩
  | j :: js, T, Y, w, B, h, ho => by
    obtain ⟨U, hU, h2⟩ := Option.bind_eq_some_iff.1 h
    have hm := List.mem_of_getElem? hU
    have := sub_own js h2 (ho.l'.sub U hm)
    exact ⟨this.1, fun k hk => by rw [AT.blks_eq, List.mem_append]; exact .inr (AT.mem_blksL.2 ⟨U, hm, this.2 k hk⟩)⟩
theorem fields_of {X O : AT} (h : X.cells = O.cells) : X.k = O.k ∧ X.n = O.n ∧ X.x = O.x ∧ X.s = O.s ∧ X.a = O.a ∧ X.l.length = O.l.length ∧ X.cap = O.cap := by
  simp only [AT.cells, List.cons.injEq, Value.int.injEq, Value.string.injEq, Value.slice.injEq, true_and, and_true, ByteArray.mk.injEq] at h
  exact ⟨h.1, h.2.1, h.2.2.1, by simpa using congrArg Array.toList h.2.2.2.1, h.2.2.2.2.1, h.2.2.2.2.2.1, h.2.2.2.2.2.2⟩
theorem CellsAt.keep' {w w' : World} {b o : Nat} {T : AT} (h : CellsAt w b o T) (hb : Below w.heap.size w w') : CellsAt w' b o T := h.keep (hb.block b (cell_lt h.c0))
theorem put5_VC {W : World} {b : Nat} {G : AT} {k n x : Int} {s : ByteArray} {a : Option Addr} {len cap : Nat} (h : VC W b k n x s a len cap) : VC (put5 W b 0 G) b G.k G.n G.x ⟨G.s.toArray⟩ G.a G.l.length G.cap := vset5 h
set_option maxHeartbeats 1500000 in
theorem putat_impl (T X : AT) (l : List St) (a : Option Addr) (cap : Nat) (w : World) (B0 B1 N : Nat) (hown : T.Own w B0) (hownX : X.Own w B1) (hs : SAt w N a cap l) (hN : N ≤ w.heap.size) (hsz : T.pt.sz ≤ 1048576) (hxs : X.pt.sz ≤ 1048576) (hl : l.length ≤ 1048576) :
    Calls Try.prog 43 #[T.val, .slice a l.length cap, X.val] w (LookPost w (putR T.pt (PT.putO l T.pt X.pt))) := by
  have HCX := Lib.hid (fun (w1 : World) (hb : Below w.heap.size w w1) => copied_any X w1 B1 (hownX.blw hb) hxs)
  have HS := Lib.hid hs
  obtain ⟨r, hr⟩ : ∃ r, r = putR T.pt (PT.putO l T.pt X.pt) := ⟨_, rfl⟩
  rw [← hr]
  have HR : Hid (r = putK [] T.pt (PT.putO l T.pt X.pt)) := Lib.hid (by rw [hr, putK_nil])
  have HCT := Lib.hid (fun (w1 : World) (hb : Below w.heap.size w w1) => copied_any T w1 B0 (hown.blw hb) hsz)
  have hpb := PB.start w T X 28
  obtain ⟨x, hx⟩ : ∃ x, x = X.pt := ⟨_, rfl⟩
  rw [← hx] at HR HCX
  have hTs := hsz
  have HTS := Lib.hid hTs
  clear hr hown hownX hs hxs hTs
  show Calls Try.prog 43 #[.agg #[.int .i64 T.k, .int .i64 T.n, .int .i64 T.x, .string ⟨T.s.toArray⟩, .slice T.a T.l.length T.cap], .slice a l.length cap, .agg #[.int .i64 X.k, .int .i64 X.n, .int .i64 X.x, .string ⟨X.s.toArray⟩, .slice X.a X.l.length X.cap]] w _
  go_enter Try.func43, Try.ntmps43
  go_wp2_with fail
  generalize (((w.alloc (.cells #[.int .i64 T.k, .int .i64 T.n, .int .i64 T.x, .string ⟨T.s.toArray⟩, .slice T.a T.l.length T.cap] 28)).alloc (.cells #[.int .i64 X.k, .int .i64 X.n, .int .i64 X.x, .string ⟨X.s.toArray⟩, .slice X.a X.l.length X.cap] 28)).alloc (.cells #[.int .i64 0, .int .i64 0, .int .i64 0, .string ⟨#[]⟩, .slice none 0 0] 28)) = W0 at *
  have HPB := Lib.hid hpb
  clear hpb
  refine (HCT.out _ HPB.out.b).mono ?_
  rintro e w1 ⟨O, hO, rfl, hOw, hOn, hb1⟩
  have hpo := PO.start (t := 28) HPB.out hOw hOn hb1
  have HO := Lib.hid hO
  clear hO hOw hOn hb1
  go_wp2_with fail
  have hof : ∀ q, (w1.alloc (.cells #[.int .i64 O.k, .int .i64 O.n, .int .i64 O.x, .string ⟨O.s.toArray⟩, .slice O.a O.l.length O.cap] 28)).frozen? ⟨w1.heap.size, q, none⟩ = false := fun q => by simp [go_sem]
  generalize (w1.alloc (.cells #[.int .i64 O.k, .int .i64 O.n, .int .i64 O.x, .string ⟨O.s.toArray⟩, .slice O.a O.l.length O.cap] 28)) = W1 at *
  generalize w1.heap.size = bo at *
  have HPO := Lib.hid hpo
  have HOF := Lib.hid hof
  clear hpo hof
  go_loopw [9, 18] (fun pl i wr => ∃ (i' b o : Nat) (js : List Nat) (Y : AT), pl = .pointer (some ⟨b, o, none⟩) ∧ i = .int .i64 i' ∧ i' ≤ l.length ∧ Hid (r = putK js T.pt (PT.putO (l.drop i') Y.pt x)) ∧ Hid (AT.sub js O = some Y) ∧ Hid ((js = [] ∧ b = bo ∧ o = 0) ∨ AT.spot js O = some (b, o)) ∧ Hid (PO w wr T X bo O) ∧ Hid (∀ q, wr.frozen? ⟨bo, q, none⟩ = false) ∧ Hid (CellsAt wr b o Y) ∧ Hid (Y.pt.sz ≤ 1048576)) (fun _ i _ => l.length - (intOf i).toNat)
  case atStart => exact ⟨0, bo, 0, [], O, rfl, rfl, Nat.zero_le _, by rw [HO.out]; exact HR, Lib.hid rfl, Lib.hid (.inl ⟨rfl, rfl, rfl⟩), HPO, HOF, Lib.hid ⟨HPO.out.o.c0, HPO.out.o.c1, HPO.out.o.c2, HPO.out.o.c3, HPO.out.o.c4⟩, by rw [HO.out]; exact HTS⟩
  case round =>
    obtain ⟨i', b, o, js, Y, rfl, rfl, hi', HRi, HSB, HSP, HPOi, HOFi, HCA, HSZ⟩ := hrel
    by_cases hlt : i' < l.length
    · obtain ⟨g, o3, rfl, hgN, p0, p1⟩ := HS.out.cell i' hlt
      have hbel := HPOi.out.pb.b
      replace p0 := (hbel.cell (p := ⟨g, o3 + i' * 2, none⟩) (by show g < w.heap.size; omega)).trans p0
      replace p1 := (hbel.cell (p := ⟨g, o3 + i' * 2 + 1, none⟩) (by show g < w.heap.size; omega)).trans p1
      have HD := Lib.hid (HRi.out.trans (by rw [drop_cons hlt]))
      obtain ⟨s, hs⟩ : ∃ s : St, s = l[i'] := ⟨_, rfl⟩
      rw [← hs] at p0 p1 HD
      have hyl : Y.l.length ≤ 1048576 := by have := len_le_sz Y; have := HSZ.out; omega
      have HEL0 := Lib.hid (fun W => element_impl Y s W hyl)
      have HPOA := Lib.hid (HPOi.out.keep (vbox wr (.cells #[.int .i64 s.1, .bool s.2] 105)))
      have HCAA := Lib.hid (HCA.out.keep' (vbox wr (.cells #[.int .i64 s.1, .bool s.2] 105)))
      have hsb : (wr.alloc (.cells #[.int .i64 s.1, .bool s.2] 105)).cell? ⟨wr.heap.size, 0, none⟩ = some (.int .i64 s.1) ∧ (wr.alloc (.cells #[.int .i64 s.1, .bool s.2] 105)).cell? ⟨wr.heap.size, 1, none⟩ = some (.bool s.2) := by constructor <;> simp [go_sem]
      have HOFA : Hid (∀ q, (wr.alloc (.cells #[.int .i64 s.1, .bool s.2] 105)).frozen? ⟨bo, q, none⟩ = false) := Lib.hid (fun q => by rw [frozen_blk' ((vbox wr _).block bo HPOi.out.o.lt)]; exact HOFi.out q)
      obtain ⟨c0, c1, c2, c3, c4⟩ := HCAA.out
      obtain ⟨s0, s1⟩ := hsb
      clear hs hbel
      go_wp2_with fail
      generalize (wr.alloc (.cells #[.int .i64 s.1, .bool s.2] 105)) = W2 at *
      generalize wr.heap.size = bs at *
      cases hp : plc Y.k Y.l.length s with
      | none =>
        have HEL : Hid (∀ W : World, Calls Try.prog 108 #[.agg #[.int .i64 Y.k, .int .i64 Y.n, .int .i64 Y.x, .string ⟨Y.s.toArray⟩, .slice Y.a Y.l.length Y.cap], .agg #[.int .i64 s.1, .bool s.2]] W fun e w' => e = .returned (.tuple #[.int .i64 0, .bool false]) ∧ Below W.heap.size W w') := Lib.hid (fun W => by have := HEL0.out W; rw [plV_no hp] at this; exact this)
        have HF : Hid (r = (T.pt, false)) := Lib.hid (by rw [HD.out, putO_none hp]; rfl)
        clear hp HEL0
        have hR0 := Rl.refl W2
        have HK := Lib.hid (fun (W' : World) (h : Rl W2 W') => (show Rl W2 W' ∧ W'.cell? ⟨b, o, none⟩ = some (.int .i64 Y.k) ∧ W'.cell? ⟨b, o + 1, none⟩ = some (.int .i64 Y.n) ∧ W'.cell? ⟨b, o + 2, none⟩ = some (.int .i64 Y.x) ∧ W'.cell? ⟨b, o + 3, none⟩ = some (.string ⟨Y.s.toArray⟩) ∧ W'.cell? ⟨b, o + 4, none⟩ = some (.slice Y.a Y.l.length Y.cap) ∧ W'.cell? ⟨bs, 0, none⟩ = some (.int .i64 s.1) ∧ W'.cell? ⟨bs, 1, none⟩ = some (.bool s.2) from ⟨h, keep_below h.b c0, keep_below h.b c1, keep_below h.b c2, keep_below h.b c3, keep_below h.b c4, keep_below h.b s0, keep_below h.b s1⟩))
        go_region_held3 (fun W' => Rl W2 W' ∧ W'.cell? ⟨b, o, none⟩ = some (.int .i64 Y.k) ∧ W'.cell? ⟨b, o + 1, none⟩ = some (.int .i64 Y.n) ∧ W'.cell? ⟨b, o + 2, none⟩ = some (.int .i64 Y.x) ∧ W'.cell? ⟨b, o + 3, none⟩ = some (.string ⟨Y.s.toArray⟩) ∧ W'.cell? ⟨b, o + 4, none⟩ = some (.slice Y.a Y.l.length Y.cap) ∧ W'.cell? ⟨bs, 0, none⟩ = some (.int .i64 s.1) ∧ W'.cell? ⟨bs, 1, none⟩ = some (.bool s.2)) ((go_split_ands; refine HK.out _ ?_; first | with_reducible assumption | with_reducible exact (Rl.refl _).drew | with_reducible exact Rl.drew (by assumption))) ((first | (go_at_call 108; go_split_ands; refine (HEL.out _).mono ?_; rintro e w2 ⟨rfl, hb2⟩; have hr2 := Rl.below (W0 := W2) (by assumption) hb2; clear hb2)))
        go_split_ands
        have HR2 : Hid (Rl W2 w2) := Lib.hid (by assumption)
        have HPO2 := Lib.hid (HPOA.out.keep HR2.out.b)
        clear c0 c1 c2 c3 c4 s0 s1
        obtain ⟨c0, c1, c2, c3, c4⟩ := HPO2.out.o
        obtain ⟨z0, z1, z2, z3, z4⟩ := HPO2.out.pb.z
        have zf := HPO2.out.pb.zf
        have HFD := Lib.hid (look_put (w := w) (B := w.heap.size + 2) (bv := false) HO.out (HPO2.out.own.base (by omega)) HPO2.out.nd HPO2.out.pb.b (by omega) (fun hk => by have := (HPO2.out.own.lt _ hk).1; omega))
        go_wp2
        refine bodyPost_ret (v := .tuple #[.agg #[.int .i64 O.k, .int .i64 O.n, .int .i64 O.x, .string ⟨O.s.toArray⟩, .slice O.a O.l.length O.cap], .bool false]) (by simp [results, Try.results43, go_sem, z0, z1, z2, z3, z4]) rfl ?_
        rw [HF.out]
        exact HFD.out
      | some j =>
        have hj := plc_lt hp
        have HEL : Hid (∀ W : World, Calls Try.prog 108 #[.agg #[.int .i64 Y.k, .int .i64 Y.n, .int .i64 Y.x, .string ⟨Y.s.toArray⟩, .slice Y.a Y.l.length Y.cap], .agg #[.int .i64 s.1, .bool s.2]] W fun e w' => e = .returned (.tuple #[.int .i64 (j : Int), .bool true]) ∧ Below W.heap.size W w') := Lib.hid (fun W => by
          have := HEL0.out W
          have e : plV Y.k Y.l.length s = .tuple #[.int .i64 (j : Int), .bool true] := by unfold plV; rw [hp]
          rw [e] at this; exact this)
        have HF : Hid (r = putK (js ++ [j]) T.pt (PT.putO (l.drop (i' + 1)) (Y.l[j]).pt x)) := Lib.hid (by rw [HD.out, putK_step HO.out HSB.out hp hj])
        have HS2 : Hid ((Y.l[j]).pt.sz ≤ 1048576) := Lib.hid (Nat.le_trans (sz_sub (by rw [ptl]; exact List.mem_map_of_mem (List.getElem_mem hj))) HSZ.out)
        have HSB2 : Hid (AT.sub (js ++ [j]) O = some Y.l[j]) := Lib.hid (sub_snoc js O Y _ j HSB.out (List.getElem?_eq_getElem hj))
        obtain ⟨gy, hga, hBg, hgl, hCg⟩ := own_cellL (sub_own js HSB.out HPOA.out.own).1.l'.row j hj
        rw [Nat.zero_add] at hCg
        have HCG0 := Lib.hid hCg
        have HSP2 : Hid (AT.spot (js ++ [j]) O = some (gy, j * 5)) := Lib.hid (spot_snoc js O Y j gy HSB.out hga)
        rw [hga] at c4 HEL
        clear hCg hga
        clear hp HEL0
        have hR0 := Rl.refl W2
        have HK := Lib.hid (fun (W' : World) (h : Rl W2 W') => (show Rl W2 W' ∧ W'.cell? ⟨b, o, none⟩ = some (.int .i64 Y.k) ∧ W'.cell? ⟨b, o + 1, none⟩ = some (.int .i64 Y.n) ∧ W'.cell? ⟨b, o + 2, none⟩ = some (.int .i64 Y.x) ∧ W'.cell? ⟨b, o + 3, none⟩ = some (.string ⟨Y.s.toArray⟩) ∧ W'.cell? ⟨b, o + 4, none⟩ = some (.slice (some ⟨gy, 0, none⟩) Y.l.length Y.cap) ∧ W'.cell? ⟨bs, 0, none⟩ = some (.int .i64 s.1) ∧ W'.cell? ⟨bs, 1, none⟩ = some (.bool s.2) from ⟨h, keep_below h.b c0, keep_below h.b c1, keep_below h.b c2, keep_below h.b c3, keep_below h.b c4, keep_below h.b s0, keep_below h.b s1⟩))
        go_region_held3 (fun W' => Rl W2 W' ∧ W'.cell? ⟨b, o, none⟩ = some (.int .i64 Y.k) ∧ W'.cell? ⟨b, o + 1, none⟩ = some (.int .i64 Y.n) ∧ W'.cell? ⟨b, o + 2, none⟩ = some (.int .i64 Y.x) ∧ W'.cell? ⟨b, o + 3, none⟩ = some (.string ⟨Y.s.toArray⟩) ∧ W'.cell? ⟨b, o + 4, none⟩ = some (.slice (some ⟨gy, 0, none⟩) Y.l.length Y.cap) ∧ W'.cell? ⟨bs, 0, none⟩ = some (.int .i64 s.1) ∧ W'.cell? ⟨bs, 1, none⟩ = some (.bool s.2)) ((go_split_ands; refine HK.out _ ?_; first | with_reducible assumption | with_reducible exact (Rl.refl _).drew | with_reducible exact Rl.drew (by assumption))) ((first | (go_at_call 108; go_split_ands; refine (HEL.out _).mono ?_; rintro e w2 ⟨rfl, hb2⟩; have hr2 := Rl.below (W0 := W2) (by assumption) hb2; clear hb2)))
        go_split_ands
        have HR2 : Hid (Rl W2 w2) := Lib.hid (by assumption)
        have HPO2 := Lib.hid (HPOA.out.keep HR2.out.b)
        have HCG := Lib.hid (HCG0.out.keep' HR2.out.b)
        have HOF2 : Hid (∀ q, w2.frozen? ⟨bo, q, none⟩ = false) := Lib.hid (fun q => by rw [frozen_blk' (HR2.out.b.block bo HPOA.out.o.lt)]; exact HOFA.out q)
        clear c0 c1 c2 c3 c4 s0 s1
        have hj1 : (j : Int) < Y.l.length := by omega
        go_wp2_with fail
        go_roundw
        case rel => exact ⟨i' + 1, gy, j * 5, js ++ [j], Y.l[j], rfl, by go_num, by omega, HF, HSB2, Lib.hid (.inr HSP2.out), HPO2, HOF2, HCG, HS2⟩
        case measure => simp [intOf]; omega
    · obtain heq : i' = l.length := by omega
      have HF : Hid (r = putK js T.pt (some x)) := Lib.hid (by rw [HRi.out, heq, List.drop_length]; rfl)
      obtain ⟨x0, x1, x2, x3, x4⟩ := HPOi.out.pb.x
      clear heq
      go_wp2_with fail
      refine (HCX.out _ HPOi.out.pb.b).mono ?_
      rintro e w2 ⟨G, hG, rfl, hGO, hGN, hb2⟩
      have HPO2 := Lib.hid (HPOi.out.keep hb2)
      have HGX := Lib.hid hG
      have HWZ := Lib.hid HPOi.out.pb.sz
      have HDJ : Hid (∀ k ∈ G.blks, k ∉ O.blks) := Lib.hid (fun k hk hk2 => by have := (hGO.lt k hk).1; have := (HPOi.out.own.lt k hk2).2; omega)
      have HBO : Hid (bo ∉ G.blks) := Lib.hid (fun hk => by have := (hGO.lt _ hk).1; have := HPOi.out.o.lt; omega)
      have HGO := Lib.hid (hGO.base (B' := w.heap.size + 3) HWZ.out)
      have HGN := Lib.hid hGN
      have HOF2 : Hid (∀ q, w2.frozen? ⟨bo, q, none⟩ = false) := Lib.hid (fun q => by rw [frozen_blk' (hb2.block bo HPOi.out.o.lt)]; exact HOFi.out q)
      have HC2 := Lib.hid (HCA.out.keep' hb2)
      clear hG hGO hGN hb2 x0 x1 x2 x3 x4
      obtain ⟨c0, c1, c2, c3, c4⟩ := HC2.out
      rcases HSP.out with ⟨hjs, hbb, hoo⟩ | hsp
      · subst hjs hbb hoo
        obtain rfl : O = Y := by have := HSB.out; injection this
        have HF2 : Hid (r = (G.pt, true)) := Lib.hid (by rw [HF.out, HGX.out]; rfl)
        have cf := HOF2.out
        have hz5 := HPO2.out.pb.z.put5 (o := 0) (G := G) (by have := HPO2.out.lo; omega : w.heap.size + 2 ≠ b)
        have HZ5 := Lib.hid hz5
        have zf := HPO2.out.pb.zf
        have HFD := Lib.hid (look_put (w := w) (W := put5 w2 b 0 G) (B := w.heap.size + 2) (bv := true) rfl ((put5_own HGO.out HBO.out).base (by omega)) HGN.out (put5_below HPO2.out.pb.b (by have := HPO2.out.lo; omega)) (by omega) (fun hk => by have := (HGO.out.lt _ hk).1; omega))
        simp only [Nat.zero_add] at c0 c1 c2 c3 c4
        have hlo := HPO2.out.lo
        obtain ⟨z0, z1, z2, z3, z4⟩ := HPO2.out.pb.z
        clear hz5
        go_wp2
        refine bodyPost_ret (v := .tuple #[.agg #[.int .i64 G.k, .int .i64 G.n, .int .i64 G.x, .string ⟨G.s.toArray⟩, .slice G.a G.l.length G.cap], .bool true]) (by simp [results, Try.results43, go_sem, HZ5.out.c0, HZ5.out.c1, HZ5.out.c2, HZ5.out.c3, HZ5.out.c4]) rfl ?_
        rw [HF2.out]
        exact HFD.out
      · have HSPO := Lib.hid hsp
        have hbm := spot_mem js O b o hsp
        have hbbo : bo ≠ b := fun e => HPO2.out.out (e ▸ hbm)
        have hblo := (HPO2.out.own.lt b hbm).1
        have HPW := Lib.hid (put_own js O G Y w2 (w.heap.size + 3) b o HPO2.out.own HPO2.out.nd HSB.out hsp HGO.out HGN.out HDJ.out)
        have HF2 : Hid (r = ((AT.put js O G).pt, true)) := Lib.hid (by rw [HF.out, put_pt, HO.out, HGX.out]; rfl)
        have HFR : Hid (∀ q, w2.frozen? ⟨b, q, none⟩ = false) := Lib.hid (own_frozen HPO2.out.own hbm)
        have HFD := Lib.hid (look_as (w := w) (W := put5 w2 b o G) (B := w.heap.size + 2) (bv := true) rfl (fields_of HPW.out.2.2.2) rfl (HPW.out.1.base (by omega)) HPW.out.2.1 (put5_below HPO2.out.pb.b (by omega)) (by omega) (fun hk => by
          rcases HPW.out.2.2.1 _ hk with h | h
          · have := (HPO2.out.own.lt _ h).1; omega
          · have := (HGO.out.lt _ h).1; omega))
        have cf := HFR.out
        have hz5 := HPO2.out.pb.z.put5 (o := o) (G := G) (by omega : w.heap.size + 2 ≠ b)
        have HZ5 := Lib.hid hz5
        have zf := HPO2.out.pb.zf
        obtain ⟨z0, z1, z2, z3, z4⟩ := HPO2.out.pb.z
        obtain ⟨q0, q1, q2, q3, q4⟩ := HPO2.out.o
        clear hz5 hsp hbm
        go_wp2
        refine bodyPost_ret (v := .tuple #[.agg #[.int .i64 O.k, .int .i64 O.n, .int .i64 O.x, .string ⟨O.s.toArray⟩, .slice O.a O.l.length O.cap], .bool true]) (by simp [results, Try.results43, go_sem, HZ5.out.c0, HZ5.out.c1, HZ5.out.c2, HZ5.out.c3, HZ5.out.c4]) rfl ?_
        rw [HF2.out]
        exact HFD.out
end Go.Proofs.Ytdjnkcoepmackaa
