import Derived.Test.YtilgncebhgplaaaDoorG0
import Derived.Test.YtilgncebhgplaaaDoorG3
import Derived.Test.YtilgncebhgplaaaDoorG5
import Derived.Test.YtilgncebhgplaaaDoorRows
import Derived.Lib.Bytealg
import Derived.Lib.Hide
import Derived.Outline
import Derived.ProofKit
/- The compact format: the bytes of a tree, and what is read of them: plain. No program. -/
namespace Go.Proofs.YtilgncebhgplaaaDoor
mutual
/-- what PackTight answers, where H gives the heads of the majors below 7: hdFor, or such of eight bytes for LooseTight -/
def PT.tight (H : Int → Int → Hd) : PT → List UInt8
  | .mk k n x s l => if k = 1 then hdB ⟨7, 22, 0⟩ else if k = 2 then hdB ⟨7, if n = 1 then 21 else 20, 0⟩
    else if k = 3 then (if -1000000000000000 ≤ n ∧ n ≤ 1000000000000000 then hdB (if n < 0 then H 1 (-1 - n) else H 0 n) else [])
    else if k = 4 then hdB ⟨7, fltBits n x, 4⟩ else if k = 5 then (if 0 ≤ n ∧ n ≤ 2 then hdB ⟨7, 32 + n, 1⟩ else [])
    else if k = 7 then hdB (H 3 s.length) ++ s else if k = 8 then hdB (H 2 s.length) ++ s
    else if k = 9 then hdB (H 4 l.length) ++ PT.tightL H l else if k = 10 then hdB (H 5 (l.length / 2 : Nat)) ++ PT.tightL H l
    else if k = 11 then (if 0 ≤ n ∧ n ≤ 1000000000000000 then hdB (H 6 n) ++ PT.tightL H l else []) else []
def PT.tightL (H : Int → Int → Hd) : List PT → List UInt8
  | [] => []
  | t :: l => t.tight H ++ PT.tightL H l
end
/-- what is read: the code, the tree, the place behind it -/
structure TR where
  c : Nat
  v : PT
  next : Nat
def badT (c : Nat) : TR := ⟨c, .mk 0 0 0 [] [], 0⟩
/-- bytes of a definite length: the code, the bytes, the place behind them -/
structure StrR where
  c : Nat
  s : List UInt8
  next : Nat
def strH (b : List UInt8) (at_ : Nat) (h : Hd) : StrR :=
  if (at_ : Int) + h.n ≤ b.length then (if h.k = 3 ∧ (runes ((b.drop at_).take h.n.toNat)).isSome = false then ⟨1, [], 0⟩ else ⟨0, (b.drop at_).take h.n.toNat, at_ + h.n.toNat⟩) else ⟨1, [], 0⟩
/-- parts of an open one; fuel by the bytes left -/
def partsH (b : List UInt8) (k : Int) : Nat → Nat → List UInt8 → StrR
  | 0, _, _ => ⟨1, [], 0⟩
  | f + 1, at_, out => if (getH b at_).code ≠ 0 then ⟨(getH b at_).code, [], 0⟩
    else if (getH b at_).h.w < 0 ∧ (getH b at_).h.k = 7 then ⟨0, out, (getH b at_).next⟩
    else if (getH b at_).h.k ≠ k ∨ (getH b at_).h.w < 0 then ⟨1, [], 0⟩
    else if (strH b (getH b at_).next (getH b at_).h).c ≠ 0 then ⟨(strH b (getH b at_).next (getH b at_).h).c, [], 0⟩
    else partsH b k f (strH b (getH b at_).next (getH b at_).h).next (out ++ (strH b (getH b at_).next (getH b at_).h).s)
def strT (k : Int) (p : StrR) : TR := if p.c ≠ 0 then badT p.c else ⟨0, .mk k 0 0 p.s [], p.next⟩
def simpT (B : Int → Option (Int × Int)) (h : Hd) (next : Nat) : TR :=
  if h.w = 0 ∧ h.n = 20 then ⟨0, .mk 2 0 0 [] [], next⟩ else if h.w = 0 ∧ h.n = 21 then ⟨0, .mk 2 1 0 [] [], next⟩ else if h.w = 0 ∧ h.n = 22 then ⟨0, .mk 1 0 0 [] [], next⟩
  else if h.w = 1 ∧ 32 ≤ h.n ∧ h.n ≤ 34 then ⟨0, .mk 5 (h.n - 32) 0 [] [], next⟩
  else if h.w = 4 then (match B h.n with | some (m, e) => ⟨0, .mk 4 m e [] [], next⟩ | none => badT 1) else badT 1
/-- many trees: the code, the trees, the place behind them -/
structure LR where
  c : Nat
  l : List PT
  next : Nat
def listT (k n : Int) (p : LR) : TR := if p.c ≠ 0 then badT p.c else ⟨0, .mk k n 0 [] p.l, p.next⟩
/-- by the head's major type -/
def majT (B : Int → Option (Int × Int)) (b : List UInt8) (f : Nat) (g : HdR) (many : Nat → Int → Bool → LR) : TR :=
  if g.code ≠ 0 then badT g.code
  else if g.h.k = 0 then ⟨0, .mk 3 g.h.n 0 [] [], g.next⟩
  else if g.h.k = 1 then (if g.h.n ≥ 1000000000000000 then badT 2 else ⟨0, .mk 3 (-1 - g.h.n) 0 [] [], g.next⟩)
  else if g.h.k = 2 ∨ g.h.k = 3 then strT (if g.h.k = 3 then 7 else 8) (if g.h.w < 0 then partsH b g.h.k f g.next [] else strH b g.next g.h)
  else if g.h.k = 7 then simpT B g.h g.next
  else if g.h.k = 5 then listT 10 0 (many g.next (if g.h.w < 0 then -1 else 2 * g.h.n) true)
  else if g.h.k = 6 then listT 11 g.h.n (many g.next (if g.h.w < 0 then -1 else 1) false)
  else listT 9 0 (many g.next (if g.h.w < 0 then -1 else g.h.n) false)
/-- one more, if it was read -/
def moreT (p : TR) (go : PT → Nat → LR) : LR := if p.c ≠ 0 then ⟨p.c, [], 0⟩ else go p.v p.next
mutual
/-- a tree at a place, no deeper than d; fuel -/
def getT (B : Int → Option (Int × Int)) (b : List UInt8) : Nat → Nat → Int → TR
  | 0, _, _ => badT 1
  | f + 1, at_, d => if min d 10000 < 1 then badT 2 else majT B b f (getH b at_) fun at' n pairs => manyT B b f at' (min d 10000) n pairs []
def manyT (B : Int → Option (Int × Int)) (b : List UInt8) : Nat → Nat → Int → Int → Bool → List PT → LR
  | 0, _, _, _, _, _ => ⟨1, [], 0⟩
  | f + 1, at_, d, n, pairs, acc => if 0 ≤ n ∧ n ≤ acc.length then ⟨0, acc, at_⟩
    else if n < 0 ∧ b[at_]? = some 255 then (if (pairs && acc.length % 2 == 1) = true then ⟨1, [], 0⟩ else ⟨0, acc, at_ + 1⟩)
    else moreT (getT B b f at_ (d - 1)) fun v next => manyT B b f next d n pairs (acc ++ [v])
end
/-- a tree that the format can bear (the names' order is not asked here) -/
inductive PT.FitsC : PT → Prop
  | null : PT.FitsC (.mk 1 0 0 [] [])
  | bool (n : Int) (h : n = 0 ∨ n = 1) : PT.FitsC (.mk 2 n 0 [] [])
  | int (n : Int) (h : -1000000000000000 ≤ n ∧ n ≤ 1000000000000000) : PT.FitsC (.mk 3 n 0 [] [])
  | flt (m e : Int) (h : fltOk m e = true) : PT.FitsC (.mk 4 m e [] [])
  | odd (n : Int) (h : 0 ≤ n ∧ n ≤ 2) : PT.FitsC (.mk 5 n 0 [] [])
  | text (s : List UInt8) (h : (runes s).isSome = true) (hl : s.length ≤ 1000000000000000) : PT.FitsC (.mk 7 0 0 s [])
  | bytes (s : List UInt8) (hl : s.length ≤ 1000000000000000) : PT.FitsC (.mk 8 0 0 s [])
  | list (l : List PT) (h : ∀ t ∈ l, PT.FitsC t) (hl : l.length ≤ 1000000000000000) : PT.FitsC (.mk 9 0 0 [] l)
  | map (l : List PT) (h : ∀ t ∈ l, PT.FitsC t) (he : l.length % 2 = 0) (hl : l.length ≤ 1000000000000000) : PT.FitsC (.mk 10 0 0 [] l)
  | tag (n : Int) (t : PT) (hn : 0 ≤ n ∧ n ≤ 1000000000000000) (h : PT.FitsC t) : PT.FitsC (.mk 11 n 0 [] [t])
theorem for_is {k n : Int} (h1 : 0 ≤ k ∧ k ≤ 7) (h2 : 0 ≤ n ∧ n ≤ 1000000000000000) : hdOk (hdFor k n) ∧ (hdFor k n).k = k ∧ (hdFor k n).n = n ∧ 0 ≤ (hdFor k n).w := by
  have ok : hdOk ⟨k, n, if n > 23 then widR n else 0⟩ := by
    refine hd_of h1 h2 ?_
    by_cases hn : n > 23
    · rw [if_pos hn]
      unfold widR
      rw [if_neg (by omega)]
      split
      · exact .inr (.inl ⟨rfl, by omega⟩)
      · split
        · exact .inr (.inr (.inl ⟨rfl, by omega⟩))
        · split
          · exact .inr (.inr (.inr (.inl ⟨rfl, by omega⟩)))
          · exact .inr (.inr (.inr (.inr (.inl rfl))))
    · rw [if_neg hn]; exact .inl ⟨rfl, by omega⟩
  unfold hdFor
  rw [if_pos ok]
  refine ⟨ok, rfl, rfl, ?_⟩
  simp only
  unfold widR
  split <;> (try split) <;> (try split) <;> (try split) <;> (try split) <;> omega
/-- heads that do: of the major type and the argument that are asked for -/
def HeadsDo (H : Int → Int → Hd) : Prop := ∀ k n : Int, (0 ≤ k ∧ k ≤ 7) → (0 ≤ n ∧ n ≤ 1000000000000000) → hdOk (H k n) ∧ (H k n).k = k ∧ (H k n).n = n ∧ 0 ≤ (H k n).w
theorem headsDo_for : HeadsDo hdFor := fun _ _ h1 h2 => for_is h1 h2
theorem headsDo_wide : HeadsDo fun k n => ⟨k, n, 8⟩ := fun k n h1 h2 => ⟨hd_of h1 h2 (by omega), rfl, rfl, by show (0 : Int) ≤ 8; decide⟩
section
variable {B : Int → Option (Int × Int)} {H : Int → Int → Hd}
def BackC (B : Int → Option (Int × Int)) (H : Int → Int → Hd) (T : PT) : Prop := ∀ (f : Nat) (d : Int) (a r : List UInt8), 2 * T.cnt ≤ f → getT B (a ++ (T.tight H ++ r)) f a.length d = if (T.deep : Int) ≤ min d 10000 then ⟨0, T, a.length + (T.tight H).length⟩ else badT 2
theorem deepC (t : PT) (l : List PT) : PT.deepL (t :: l) = max t.deep (PT.deepL l) := by rw [PT.deepL]
/-- trees one behind another -/
theorem back_many (d : Int) (hd : 1 ≤ d) (hd2 : d ≤ 10000) (pairs : Bool) (n : Int) : ∀ (l : List PT) (f : Nat) (acc : List PT) (a r : List UInt8), (∀ u ∈ l, BackC B H u) → 2 * PT.cntL l + 1 ≤ f → n = acc.length + l.length →
    manyT B (a ++ (PT.tightL H l ++ r)) f a.length d n pairs acc = if (PT.deepL l : Int) + 1 ≤ d then ⟨0, acc ++ l, a.length + (PT.tightL H l).length⟩ else ⟨2, [], 0⟩
  | l, 0, acc, a, r, hb, hf, hn => by omega
  | [], f + 1, acc, a, r, hb, hf, hn => by
    simp only [List.length_nil] at hn
    rw [manyT, if_pos (by omega), PT.deepL, PT.tightL, if_pos (by omega)]
    simp
  | t :: l, f + 1, acc, a, r, hb, hf, hn => by
    simp only [List.length_cons] at hn
    have hc : PT.cntL (t :: l) = t.cnt + PT.cntL l := by rw [PT.cntL]
    have hp : 1 ≤ t.cnt := by cases t; rw [PT.cnt]; omega
    have h1 := hb t List.mem_cons_self f (d - 1) a (PT.tightL H l ++ r) (by omega)
    have e : a ++ (PT.tightL H (t :: l) ++ r) = a ++ (t.tight H ++ (PT.tightL H l ++ r)) := by rw [PT.tightL]; simp
    rw [manyT, if_neg (by omega), if_neg (by omega), e, h1, deepC]
    by_cases ht : (t.deep : Int) ≤ min (d - 1) 10000
    · rw [if_pos ht]
      have ih := back_many d hd hd2 pairs n l f (acc ++ [t]) (a ++ (t.tight H)) r (fun u hu => hb u (List.mem_cons_of_mem _ hu)) (by omega) (by simp; omega)
      rw [show a ++ (t.tight H) ++ (PT.tightL H l ++ r) = a ++ (t.tight H ++ (PT.tightL H l ++ r)) by simp, List.length_append] at ih
      unfold moreT
      simp only [ne_eq, not_true_eq_false, if_false]
      rw [ih]
      by_cases h2 : (PT.deepL l : Int) + 1 ≤ d
      · rw [if_pos h2, if_pos (by omega), PT.tightL]
        simp [Nat.add_assoc]
      · rw [if_neg h2, if_neg (by omega)]
    · rw [if_neg ht, if_neg (by omega)]
      unfold moreT badT
      simp
theorem leafC (h : Hd) (o : hdOk h) (T : PT) (ht : (T.tight H) = hdB h) (hdeep : T.deep = 1) (hm : ∀ (b : List UInt8) (f next : Nat) (many : Nat → Int → Bool → LR), majT B b f ⟨h, next, 0⟩ many = ⟨0, T, next⟩) : BackC B H T := fun f d a r hf => by
  have hp : 1 ≤ T.cnt := by cases T; rw [PT.cnt]; omega
  cases f with
  | zero => omega
  | succ f =>
  rw [getT, ht, hdeep]
  by_cases hd : min d 10000 < 1
  · rw [if_pos hd, if_neg (by omega)]
  · rw [if_neg hd, if_pos (by omega), head_get o, hm]
theorem sliceC (a w r : List UInt8) : ((a ++ (w ++ r)).drop a.length).take w.length = w := by rw [List.drop_left, List.take_left]
theorem textC (hH : HeadsDo H) (k j : Int) (hk : (k = 7 ∧ j = 3) ∨ (k = 8 ∧ j = 2)) (s : List UInt8) (hl : s.length ≤ 1000000000000000) (hu : j = 3 → (runes s).isSome = true) : BackC B H (.mk k 0 0 s []) := fun f d a r hf => by
  cases f with
  | zero => rw [PT.cnt] at hf; omega
  | succ f =>
  obtain ⟨o, e1, e2, e3⟩ := hH (j) (s.length) (by omega) (by omega)
  have ht : (PT.mk k 0 0 s []).tight H = hdB (H j s.length) ++ s := by
    rcases hk with ⟨rfl, rfl⟩ | ⟨rfl, rfl⟩
    · simp [PT.tight]
    · simp [PT.tight]
  rw [getT, ht, PT.deep, PT.deepL]
  by_cases hd : min d 10000 < 1
  · rw [if_pos hd, if_neg (by omega)]
  · rw [if_neg hd, if_pos (by omega), List.append_assoc, head_get o]
    have hs : strH (a ++ (hdB (H j s.length) ++ (s ++ r))) (a.length + (hdB (H j s.length)).length) (H j s.length) = ⟨0, s, a.length + (hdB (H j s.length)).length + s.length⟩ := by
      have hsl := sliceC (a ++ hdB (H j s.length)) s r
      rw [List.append_assoc, List.length_append] at hsl
      unfold strH
      rw [e2, show ((s.length : Nat) : Int).toNat = s.length by omega, hsl, if_pos (by simp only [List.length_append]; omega), if_neg, ]
      rw [e1]
      rintro ⟨g1, g2⟩
      rw [hu g1] at g2; cases g2
    have hkj : (if j = 3 then (7 : Int) else 8) = k := by rcases hk with ⟨rfl, rfl⟩ | ⟨rfl, rfl⟩ <;> rfl
    unfold majT
    simp only [ne_eq, not_true_eq_false, if_false, e1]
    rw [if_neg (by omega), if_neg (by omega), if_pos (by omega), hkj, if_neg (show ¬ (H j s.length).w < 0 by omega), hs]
    unfold strT
    simp [Nat.add_assoc]
theorem boxC (hH : HeadsDo H) (k : Int) (n j m c : Int) (l : List PT) (pairs : Bool) (hl : ∀ u ∈ l, BackC B H u) (hj : 0 ≤ j ∧ j ≤ 7) (hm : 0 ≤ m ∧ m ≤ 1000000000000000) (hc : c = l.length)
    (ht : (PT.mk k n 0 [] l).tight H = hdB (H j m) ++ PT.tightL H l)
    (hmaj : ∀ (b : List UInt8) (f next : Nat) (many : Nat → Int → Bool → LR), majT B b f ⟨H j m, next, 0⟩ many = listT k n (many next c pairs)) : BackC B H (.mk k n 0 [] l) := fun f d a r hf => by
  cases f with
  | zero => rw [PT.cnt] at hf; omega
  | succ f =>
  obtain ⟨o, e1, e2, e3⟩ := hH (j) (m) hj hm
  rw [getT, ht, PT.deep]
  by_cases hd : min d 10000 < 1
  · rw [if_pos hd, if_neg (by omega)]
  · rw [if_neg hd, List.append_assoc, head_get o, hmaj]
    rw [PT.cnt] at hf
    have := back_many (min d 10000) (by omega) (by omega) pairs c l f [] (a ++ hdB (H j m)) r hl (by omega) (by simpa using hc)
    rw [List.append_assoc, List.length_append, List.nil_append] at this
    by_cases h2 : (PT.deepL l : Int) + 1 ≤ min d 10000
    · rw [if_pos h2] at this
      rw [this, if_pos (by omega)]
      simp [listT, Nat.add_assoc]
    · rw [if_neg h2] at this
      rw [this, if_neg (by omega)]
      simp [listT]
/-- a tree's bytes are read back, if it isn't too deep; otherwise the code is that of a limit -/
theorem back_tight (hH : HeadsDo H) (hB : ∀ m e, fltOk m e = true → B (fltBits m e) = some (m, e)) (T : PT) : T.FitsC → BackC B H T := by
  refine PT.ind (P := fun T => T.FitsC → BackC B H T) (fun k n x s l ih h => ?_) T
  cases h with
  | null => exact leafC ⟨7, 22, 0⟩ (hd_of (by omega) (by omega) (by omega)) _ (by simp [PT.tight]) (by simp [PT.deep, PT.deepL]) fun b f next many => by simp [majT, simpT]
  | bool n h =>
    rcases h with rfl | rfl
    · exact leafC ⟨7, 20, 0⟩ (hd_of (by omega) (by omega) (by omega)) _ (by simp [PT.tight]) (by simp [PT.deep, PT.deepL]) fun b f next many => by simp [majT, simpT]
    · exact leafC ⟨7, 21, 0⟩ (hd_of (by omega) (by omega) (by omega)) _ (by simp [PT.tight]) (by simp [PT.deep, PT.deepL]) fun b f next many => by simp [majT, simpT]
  | int n h =>
    by_cases hn : n < 0
    · obtain ⟨o, e1, e2, e3⟩ := hH (1) (-1 - n) (by omega) (by omega)
      refine leafC (H 1 (-1 - n)) o _ (by simp [PT.tight, h, hn]) (by simp [PT.deep, PT.deepL]) fun b f next many => ?_
      unfold majT
      simp only [ne_eq, not_true_eq_false, if_false, e1, e2]
      rw [if_neg (by decide), if_pos trivial, if_neg (by omega), show -1 - (-1 - n) = n by omega]
    · obtain ⟨o, e1, e2, e3⟩ := hH (0) (n) (by omega) (by omega)
      refine leafC (H 0 n) o _ (by simp [PT.tight, h, hn]) (by simp [PT.deep, PT.deepL]) fun b f next many => ?_
      unfold majT
      simp only [ne_eq, not_true_eq_false, if_false, e1, e2, if_true]
  | flt m e h =>
    obtain ⟨h1, h2, _⟩ := bits_back h
    refine leafC ⟨7, fltBits n x, 4⟩ (hd_of (by omega) (by omega) (by omega)) _ (by simp [PT.tight]) (by simp [PT.deep, PT.deepL]) fun b f next many => ?_
    simp [majT, simpT, hB n x h]
  | odd n h =>
    refine leafC ⟨7, 32 + n, 1⟩ (hd_of (by omega) (by omega) (by omega)) _ (by simp [PT.tight, h]) (by simp [PT.deep, PT.deepL]) fun b f next many => ?_
    unfold majT simpT
    simp only [ne_eq, not_true_eq_false, if_false, show ¬ (7 : Int) = 0 by decide, show ¬ (7 : Int) = 1 by decide, show ¬ ((7 : Int) = 2 ∨ (7 : Int) = 3) by decide, if_true, show ¬ ((1 : Int) = 0 ∧ 32 + n = 20) by omega, show ¬ ((1 : Int) = 0 ∧ 32 + n = 21) by omega, show ¬ ((1 : Int) = 0 ∧ 32 + n = 22) by omega]
    rw [if_pos ⟨trivial, by omega, by omega⟩, show 32 + n - 32 = n by omega]
  | text s h hl => exact textC hH 7 3 (.inl ⟨rfl, rfl⟩) s hl fun _ => h
  | bytes s hl => exact textC hH 8 2 (.inr ⟨rfl, rfl⟩) s hl fun h => by cases h
  | list l h hl =>
    obtain ⟨o, e1, e2, e3⟩ := hH (4) (l.length) (by omega) (by omega)
    refine boxC hH 9 0 4 l.length l.length l false (fun u hu => ih u hu (h u hu)) (by omega) (by omega) rfl (by simp [PT.tight]) fun b f next many => ?_
    unfold majT
    simp only [ne_eq, not_true_eq_false, if_false, e1, e2]
    rw [if_neg (by decide), if_neg (by decide), if_neg (by decide), if_neg (by decide), if_neg (by decide), if_neg (by decide), if_neg (by omega)]
  | map l h he hl =>
    obtain ⟨o, e1, e2, e3⟩ := hH (5) ((l.length / 2 : Nat)) (by omega) (by omega)
    refine boxC hH 10 0 5 (l.length / 2 : Nat) (2 * (l.length / 2 : Nat)) l true (fun u hu => ih u hu (h u hu)) (by omega) (by omega) (by omega) (by simp [PT.tight]) fun b f next many => ?_
    unfold majT
    simp only [ne_eq, not_true_eq_false, if_false, e1, e2]
    rw [if_neg (by decide), if_neg (by decide), if_neg (by decide), if_neg (by decide), if_pos trivial, if_neg (by omega)]
  | tag n t hn h =>
    obtain ⟨o, e1, e2, e3⟩ := hH (6) (n) (by omega) (by omega)
    refine boxC hH 11 n 6 n 1 [t] false (fun u hu => ih u hu (by rw [List.mem_singleton.1 hu]; exact h)) (by omega) (by omega) rfl (by simp [PT.tight, hn]) fun b f next many => ?_
    unfold majT
    simp only [ne_eq, not_true_eq_false, if_false, e1, e2]
    rw [if_neg (by decide), if_neg (by decide), if_neg (by decide), if_neg (by decide), if_neg (by decide), if_pos trivial, if_neg (by omega)]
end
end Go.Proofs.YtilgncebhgplaaaDoor
/- Byte strings in lexicographic order: plain. -/
namespace Go.Proofs.YtilgncebhgplaaaDoor
/-- what LessBytes answers -/
def bltB (a b : List UInt8) : Bool := decide (Lib.compareBytes a b < 0)
theorem cmpB_cons_eq (x : UInt8) (a b : List UInt8) : Lib.compareBytes (x :: a) (x :: b) = Lib.compareBytes a b := by
  have h : ¬ x < x := by simp
  show (if x < x then -1 else if x < x then 1 else Lib.compareBytes a b) = _
  rw [if_neg h, if_neg h]
theorem cmpB_cons_ne {x y : UInt8} (h : x ≠ y) (a b : List UInt8) : Lib.compareBytes (x :: a) (y :: b) = if x < y then -1 else 1 := by
  show (if x < y then -1 else if y < x then 1 else Lib.compareBytes a b) = _
  by_cases h1 : x < y
  · rw [if_pos h1, if_pos h1]
  · have h2 : y < x := by
      have e : x.toNat ≠ y.toNat := fun e => h (UInt8.toNat_inj.1 e)
      rw [UInt8.lt_iff_toNat_lt] at h1 ⊢
      omega
    rw [if_neg h1, if_neg h1, if_pos h2]
/-- at a place where both go on and differ -/
theorem blt_at {a b : List UInt8} {i : Nat} (ha : i < a.length) (hb : i < b.length) (he : bltB a b = bltB (a.drop i) (b.drop i)) (hne : a[i] ≠ b[i]) : bltB a b = decide (a[i] < b[i]) := by
  rw [he, List.drop_eq_getElem_cons ha, List.drop_eq_getElem_cons hb]
  unfold bltB
  rw [cmpB_cons_ne hne]
  by_cases h : a[i] < b[i]
  · rw [if_pos h, decide_eq_true h]; rfl
  · rw [if_neg h, decide_eq_false h]; rfl
theorem blt_step {a b : List UInt8} {i : Nat} (ha : i < a.length) (hb : i < b.length) (he : bltB a b = bltB (a.drop i) (b.drop i)) (hne : a[i] = b[i]) : bltB a b = bltB (a.drop (i + 1)) (b.drop (i + 1)) := by
  rw [he, List.drop_eq_getElem_cons ha, List.drop_eq_getElem_cons hb]
  unfold bltB
  rw [hne, cmpB_cons_eq]
theorem blt_end {a b : List UInt8} {i : Nat} (hi : i ≤ a.length) (hj : i ≤ b.length) (h : ¬ (i < a.length ∧ i < b.length)) (he : bltB a b = bltB (a.drop i) (b.drop i)) : bltB a b = decide (a.length < b.length) := by
  rw [he]
  by_cases ha : i < a.length
  · have hb : b.drop i = [] := List.drop_eq_nil_of_le (by omega)
    rw [hb, List.drop_eq_getElem_cons ha, decide_eq_false (by omega)]
    rfl
  · have ha0 : a.drop i = [] := List.drop_eq_nil_of_le (by omega)
    rw [ha0]
    by_cases hb : i < b.length
    · rw [List.drop_eq_getElem_cons hb, decide_eq_true (by omega)]
      rfl
    · rw [List.drop_eq_nil_of_le (by omega), decide_eq_false (by omega)]
      rfl
theorem blt_not {a b : List UInt8} (h : bltB a b = false) : ¬ Lib.compareBytes a b < 0 := by
  unfold bltB at h; exact of_decide_eq_false h
end Go.Proofs.YtilgncebhgplaaaDoor
/- The compact writer: what it has written and what its stack still owes: plain. -/
namespace Go.Proofs.YtilgncebhgplaaaDoor
/-- what is written first of a tree -/
def hd1 (k n x : Int) (s : List UInt8) (len : Nat) : List UInt8 := if k = 1 then hdB ⟨7, 22, 0⟩ else if k = 2 then hdB ⟨7, if n = 1 then 21 else 20, 0⟩
    else if k = 3 then (if -1000000000000000 ≤ n ∧ n ≤ 1000000000000000 then hdB (if n < 0 then hdFor 1 (-1 - n) else hdFor 0 n) else [])
    else if k = 4 then hdB ⟨7, fltBits n x, 4⟩ else if k = 5 then (if 0 ≤ n ∧ n ≤ 2 then hdB ⟨7, 32 + n, 1⟩ else [])
    else if k = 7 then hdB (hdFor 3 s.length) ++ s else if k = 8 then hdB (hdFor 2 s.length) ++ s
    else if k = 9 then hdB (hdFor 4 len) else if k = 10 then hdB (hdFor 5 (len / 2 : Nat))
    else if k = 11 then (if 0 ≤ n ∧ n ≤ 1000000000000000 then hdB (hdFor 6 n) else []) else []
/-- whether its elements follow -/
def opn1 (k n : Int) : Bool := decide (k = 9) || decide (k = 10) || (decide (k = 11) && decide (0 ≤ n ∧ n ≤ 1000000000000000))
theorem opn1_9 (n : Int) : opn1 9 n = true := by simp [opn1]
theorem opn1_10 (n : Int) : opn1 10 n = true := by simp [opn1]
theorem opn1_11 (n : Int) : opn1 11 n = decide (0 ≤ n ∧ n ≤ 1000000000000000) := by simp [opn1]
theorem opn1_no {k n : Int} (h1 : k ≠ 9) (h2 : k ≠ 10) (h3 : k ≠ 11) : opn1 k n = false := by simp [opn1, h1, h2, h3]
theorem tight_split (k n x : Int) (s : List UInt8) (l : List PT) : (PT.mk k n x s l).tight hdFor = hd1 k n x s l.length ++ (if opn1 k n = true then PT.tightL hdFor l else []) := by
  rw [PT.tight]
  unfold hd1
  by_cases h9 : k = 9
  · subst h9; simp [opn1_9]
  · by_cases h10 : k = 10
    · subst h10; simp [opn1_10]
    · by_cases h11 : k = 11
      · subst h11
        rw [opn1_11]
        by_cases hn : 0 ≤ n ∧ n ≤ 1000000000000000
        · simp [hn]
        · simp [hn]
      · rw [opn1_no h9 h10 h11]
        simp [h9, h10, h11]
/-- names that are not in order, the bytes of the one before given -/
def disNames (before : List UInt8) : List PT → Bool
  | [] => false
  | [t] => !bltB before (t.tight hdFor)
  | t :: _ :: l => !bltB before (t.tight hdFor) || disNames (t.tight hdFor) l
theorem disNames_cons (before : List UInt8) (t : PT) (l : List PT) : disNames before (t :: l) = (!bltB before (t.tight hdFor) || disNames (t.tight hdFor) (l.drop 1)) := by
  cases l with
  | nil => simp [disNames]
  | cons u l => rw [disNames]; rfl
mutual
/-- whether the writer comes upon names that are not in order -/
def PT.dis : PT → Bool
  | .mk k n _ _ l => opn1 k n && (PT.disL l || (decide (k = 10) && disNames [] l))
def PT.disL : List PT → Bool
  | [] => false
  | t :: l => t.dis || PT.disL l
end
/-- a list, a map or a tag that is open: its elements, how many have begun, where its name begins, the name before -/
structure TFr where
  mp : Bool
  l : List PT
  i : Nat
  st : Nat
  bb : List UInt8
def restB : List TFr → List UInt8
  | [] => []
  | f :: S => PT.tightL hdFor (f.l.drop f.i) ++ restB S
def TFr.dis (f : TFr) : Bool := PT.disL (f.l.drop f.i) || (f.mp && disNames f.bb (f.l.drop (2 * (f.i / 2))))
def restD : List TFr → Bool
  | [] => false
  | f :: S => f.dis || restD S
/-- the frames (the innermost first) fit what has been written, 'ab' being what those above still write -/
def okFr (out : List UInt8) : List UInt8 → List TFr → Prop
  | _, [] => True
  | ab, f :: S => f.i ≤ f.l.length ∧ (f.mp = true → f.i % 2 = 1 → f.st ≤ out.length ∧ ∃ t, f.l[f.i - 1]? = some t ∧ out.drop f.st ++ ab = t.tight hdFor) ∧ okFr out (ab ++ PT.tightL hdFor (f.l.drop f.i)) S
theorem okFr_more (out e : List UInt8) : ∀ (ab : List UInt8) (S : List TFr), okFr out (e ++ ab) S → okFr (out ++ e) ab S
  | _, [], _ => trivial
  | ab, f :: S, ⟨h1, h2, h3⟩ => by
    refine ⟨h1, fun a b => ?_, okFr_more out e _ S (by rw [← List.append_assoc]; exact h3)⟩
    obtain ⟨h4, t, h5, h6⟩ := h2 a b
    refine ⟨by rw [List.length_append]; omega, t, h5, ?_⟩
    rw [List.drop_append_of_le_length h4, List.append_assoc]
    exact h6
def frM : List TFr → Nat
  | [] => 0
  | f :: S => 1 + 2 * PT.cntL (f.l.drop f.i) + frM S
/-- what holds at the loop's head -/
structure TInv (T : PT) (out : List UInt8) (d : Bool) (S : List TFr) : Prop where
  ok : okFr out [] S
  b : out ++ restB S = T.tight hdFor
  d : (d || restD S) = T.dis
theorem TInv.done {T : PT} {out : List UInt8} {d : Bool} (h : TInv T out d []) : out = T.tight hdFor ∧ d = T.dis := by
  have h1 := h.b
  have h2 := h.d
  simp [restB] at h1
  simp [restD] at h2
  exact ⟨h1, h2⟩
def TFr.new (k : Int) (l : List PT) : TFr := ⟨decide (k = 10), l, 0, 0, []⟩
def newFr (k n : Int) (l : List PT) : List TFr := if opn1 k n = true then [TFr.new k l] else []
theorem newFr_B (k n : Int) (l : List PT) (S : List TFr) : restB (newFr k n l ++ S) = (if opn1 k n = true then PT.tightL hdFor l else []) ++ restB S := by
  unfold newFr
  cases opn1 k n
  · simp
  · simp [restB, TFr.new]
theorem newFr_D (k n x : Int) (s : List UInt8) (l : List PT) (S : List TFr) : restD (newFr k n l ++ S) = ((PT.mk k n x s l).dis || restD S) := by
  unfold newFr
  rw [PT.dis]
  cases opn1 k n
  · simp
  · simp [restD, TFr.new, TFr.dis]
theorem newFr_M (k n x : Int) (s : List UInt8) (l : List PT) (S : List TFr) : frM (newFr k n l ++ S) + 1 ≤ 2 * (PT.mk k n x s l).cnt + frM S := by
  unfold newFr
  rw [PT.cnt]
  cases opn1 k n
  · simp; omega
  · simp [frM, TFr.new]; omega
theorem newFr_ok {out : List UInt8} {k n : Int} {l : List PT} {S : List TFr} (h : okFr out (if opn1 k n = true then PT.tightL hdFor l else []) S) : okFr out [] (newFr k n l ++ S) := by
  unfold newFr
  cases ho : opn1 k n
  · rw [ho] at h; simpa using h
  · rw [ho] at h
    refine ⟨Nat.zero_le _, fun _ h2 => by simp [TFr.new] at h2, ?_⟩
    simpa [TFr.new] using h
/-- the tree itself has begun -/
theorem TInv.start (k n x : Int) (s : List UInt8) (l : List PT) : TInv (.mk k n x s l) (hd1 k n x s l.length) false (newFr k n l) where
  ok := by have := newFr_ok (out := hd1 k n x s l.length) (k := k) (n := n) (l := l) (S := []) trivial; simpa using this
  b := by
    have := newFr_B k n l []
    rw [List.append_nil] at this
    rw [this, tight_split]
    simp [restB]
  d := by
    have := newFr_D k n x s l []
    rw [List.append_nil] at this
    rw [this]
    simp [restD]
/-- the name at hand, where it is complete -/
def TFr.cmp (f : TFr) : Bool := f.mp && decide (f.i % 2 = 1)
def TFr.bad (f : TFr) (out : List UInt8) : Bool := f.cmp && !bltB f.bb (out.drop f.st)
def TFr.bb1 (f : TFr) (out : List UInt8) : List UInt8 := if f.cmp = true then out.drop f.st else f.bb
def TFr.st1 (f : TFr) (out : List UInt8) : Nat := if (f.mp && !decide (f.i % 2 = 1)) = true then out.length else f.st
theorem drop_pred {l : List PT} {i : Nat} (h1 : i % 2 = 1) {t : PT} (ht : l[i - 1]? = some t) : l.drop (2 * (i / 2)) = t :: l.drop i := by
  have hi : 2 * (i / 2) = i - 1 := by omega
  obtain ⟨hlt, he⟩ := List.getElem?_eq_some_iff.1 ht
  rw [hi, List.drop_eq_getElem_cons hlt, he]
  congr 2
  omega
theorem TFr.cmp_name {f : TFr} {out : List UInt8} {S : List TFr} (h : okFr out [] (f :: S)) (hc : f.cmp = true) : f.st ≤ out.length ∧ ∃ t, f.l.drop (2 * (f.i / 2)) = t :: f.l.drop f.i ∧ out.drop f.st = t.tight hdFor := by
  obtain ⟨_, h2, _⟩ := h
  have hc2 : f.mp = true ∧ f.i % 2 = 1 := by simpa [TFr.cmp] using hc
  obtain ⟨h3, t, h4, h5⟩ := h2 hc2.1 hc2.2
  exact ⟨h3, t, drop_pred hc2.2 h4, by simpa using h5⟩
/-- an innermost one that has no more elements is left -/
theorem TInv.pop {T : PT} {out : List UInt8} {d : Bool} {f : TFr} {S : List TFr} (h : TInv T out d (f :: S)) (he : f.i = f.l.length) : TInv T out (d || f.bad out) S := by
  obtain ⟨h1, h2, h3⟩ := h
  have hd : f.l.drop f.i = [] := List.drop_eq_nil_of_le (by omega)
  refine ⟨?_, ?_, ?_⟩
  · obtain ⟨_, _, h5⟩ := h1
    rw [hd] at h5
    simpa [PT.tightL] using h5
  · rw [restB, hd] at h2
    simpa [PT.tightL] using h2
  · rw [← h3, restD]
    have : f.dis = f.bad out := by
      unfold TFr.dis TFr.bad
      rw [hd]
      cases hc : f.cmp
      · have h6 : (f.mp && disNames f.bb (f.l.drop (2 * (f.i / 2)))) = false := by
          cases hm : f.mp
          · rfl
          · have : f.i % 2 ≠ 1 := by simpa [TFr.cmp, hm] using hc
            rw [show 2 * (f.i / 2) = f.i by omega, hd]; rfl
        rw [h6]; rfl
      · obtain ⟨_, t, h7, h8⟩ := TFr.cmp_name h1 hc
        have hm : f.mp = true := by unfold TFr.cmp at hc; simp at hc; exact hc.1
        rw [h7, disNames_cons, hd, hm, h8]
        simp [PT.disL, disNames]
    rw [this, Bool.or_assoc]
/-- an element begins -/
theorem TInv.push {T : PT} {out : List UInt8} {d : Bool} {f : TFr} {S : List TFr} (h : TInv T out d (f :: S)) {k n x : Int} {s : List UInt8} {l : List PT} (ht : f.l[f.i]? = some (.mk k n x s l)) :
    TInv T (out ++ hd1 k n x s l.length) (d || f.bad out) (newFr k n l ++ ⟨f.mp, f.l, f.i + 1, f.st1 out, f.bb1 out⟩ :: S) ∧ frM (newFr k n l ++ ⟨f.mp, f.l, f.i + 1, f.st1 out, f.bb1 out⟩ :: S) < frM (f :: S) := by
  obtain ⟨h1, h2, h3⟩ := h
  obtain ⟨hlt, he⟩ := List.getElem?_eq_some_iff.1 ht
  have hd : f.l.drop f.i = .mk k n x s l :: f.l.drop (f.i + 1) := by rw [List.drop_eq_getElem_cons hlt, he]
  have hB : PT.tightL hdFor (f.l.drop f.i) = hd1 k n x s l.length ++ ((if opn1 k n = true then PT.tightL hdFor l else []) ++ PT.tightL hdFor (f.l.drop (f.i + 1))) := by
    rw [hd, PT.tightL, tight_split, List.append_assoc]
  refine ⟨⟨?_, ?_, ?_⟩, ?_⟩
  · obtain ⟨h4, h5, h6⟩ := h1
    rw [List.nil_append, hB] at h6
    refine newFr_ok ⟨by show f.i + 1 ≤ f.l.length; omega, fun hm ho => ?_, okFr_more _ _ _ _ h6⟩
    simp only at hm ho
    have hev : f.i % 2 ≠ 1 := by omega
    have hst : f.st1 out = out.length := by unfold TFr.st1; simp [hm, hev]
    rw [hst]
    refine ⟨by simp, _, by simpa using ht, ?_⟩
    rw [List.drop_left, tight_split]
  · rw [newFr_B, restB]
    rw [restB, hB] at h2
    simpa [List.append_assoc] using h2
  · rw [newFr_D k n x s, restD, ← h3, restD]
    have : f.dis = (f.bad out || ((PT.mk k n x s l).dis || (TFr.mk f.mp f.l (f.i + 1) (f.st1 out) (f.bb1 out)).dis)) := by
      unfold TFr.dis
      rw [hd, PT.disL]
      simp only
      cases hc : f.cmp
      · have hb : f.bad out = false := by unfold TFr.bad; rw [hc]; rfl
        have hbb : f.bb1 out = f.bb := by unfold TFr.bb1; rw [hc]; rfl
        rw [hb, hbb]
        cases hm : f.mp
        · simp [Bool.or_assoc]
        · have : f.i % 2 ≠ 1 := by simpa [TFr.cmp, hm] using hc
          rw [show 2 * ((f.i + 1) / 2) = 2 * (f.i / 2) by omega]
          simp [Bool.or_assoc]
      · obtain ⟨_, t, h7, h8⟩ := TFr.cmp_name h1 hc
        have hm : f.mp = true := by unfold TFr.cmp at hc; simp at hc; exact hc.1
        have ho : f.i % 2 = 1 := by unfold TFr.cmp at hc; simp at hc; exact hc.2
        have hb : f.bad out = !bltB f.bb (t.tight hdFor) := by unfold TFr.bad; rw [hc, h8]; rfl
        have hbb : f.bb1 out = t.tight hdFor := by unfold TFr.bb1; rw [hc, h8]; rfl
        rw [hb, hbb, h7, disNames_cons, hm, hd, show 2 * ((f.i + 1) / 2) = f.i + 1 by omega]
        simp only [Bool.true_and, List.drop_succ_cons, List.drop_zero]
        cases bltB f.bb (t.tight hdFor) <;> cases (PT.mk k n x s l).dis <;> cases PT.disL (f.l.drop (f.i + 1)) <;> simp
    rw [this]
    cases d <;> cases f.bad out <;> cases (PT.mk k n x s l).dis <;> simp
  · have h7 := newFr_M k n x s l (⟨f.mp, f.l, f.i + 1, f.st1 out, f.bb1 out⟩ :: S)
    rw [frM] at h7 ⊢
    simp only at h7
    rw [hd, PT.cntL]
    omega
theorem frM_pop (f : TFr) (S : List TFr) : frM S < frM (f :: S) := by rw [frM]; omega
/-- how long the bytes are -/
theorem hdB_le9 (h : Hd) (hw : h.w ≤ 8) : (hdB h).length ≤ 9 := by
  by_cases o : hdOk h
  · rw [hdB_len o]; omega
  · rw [hdB_no o]; simp
theorem hdFor_le (k n : Int) : (hdB (hdFor k n)).length ≤ 9 := by
  refine hdB_le9 _ ?_
  have h : (if n > 23 then widR n else 0) ≤ 8 := by
    unfold widR
    repeat' split
    all_goals decide
  unfold hdFor
  by_cases o : hdOk ⟨k, n, if n > 23 then widR n else 0⟩
  · rw [if_pos o]; exact h
  · rw [if_neg o]; decide
theorem hd1_le (k n x : Int) (s : List UInt8) (len : Nat) : (hd1 k n x s len).length ≤ 9 + s.length := by
  have hh : ∀ m v : Int, (hdB ⟨7, v, 0⟩).length ≤ 9 := fun m v => by
    by_cases o : hdOk ⟨7, v, 0⟩
    · rw [hdB_len o]; simp
    · rw [hdB_no o]; simp
  have h1 : ∀ v : Int, (hdB ⟨7, v, 1⟩).length ≤ 9 := fun v => by
    by_cases o : hdOk ⟨7, v, 1⟩
    · rw [hdB_len o]; simp
    · rw [hdB_no o]; simp
  have h4 : ∀ v : Int, (hdB ⟨7, v, 4⟩).length ≤ 9 := fun v => by
    by_cases o : hdOk ⟨7, v, 4⟩
    · rw [hdB_len o]; simp
    · rw [hdB_no o]; simp
  unfold hd1
  have a := fun m v => hdFor_le m v
  repeat' split
  all_goals first
    | (simp; done)
    | (have := hh 0 22; omega)
    | (have := hh 0 21; omega)
    | (have := hh 0 20; omega)
    | (have := a 1 (-1 - n); omega)
    | (have := a 0 n; omega)
    | (have := h4 (fltBits n x); omega)
    | (have := h1 (32 + n); omega)
    | (have := a 3 s.length; rw [List.length_append]; omega)
    | (have := a 2 s.length; rw [List.length_append]; omega)
    | (have := a 4 len; omega)
    | (have := a 5 (len / 2 : Nat); omega)
    | (have := a 6 n; omega)
theorem tightL_le (l : List PT) (h : ∀ t ∈ l, (t.tight hdFor).length ≤ 9 + 10 * t.sz) : (PT.tightL hdFor l).length ≤ 9 * l.length + 10 * PT.szL l := by
  induction l with
  | nil => simp [PT.tightL]
  | cons t l ih =>
    have h1 := h t List.mem_cons_self
    have h2 := ih fun u hu => h u (List.mem_cons_of_mem _ hu)
    rw [PT.tightL, PT.szL, List.length_append, List.length_cons]
    omega
theorem tight_le (T : PT) : (T.tight hdFor).length ≤ 9 + 10 * T.sz := by
  induction T using PT.ind with
  | h k n x s l ih =>
    have h1 := hd1_le k n x s l.length
    have h2 := tightL_le l ih
    rw [tight_split, PT.sz, List.length_append]
    split
    · omega
    · simp; omega
end Go.Proofs.YtilgncebhgplaaaDoor
/- CountOf and DeepOf of the model. -/
namespace Go.Proofs.YtilgncebhgplaaaDoor
open Go.RowKit
theorem cntL_le (l : List PT) (M : Nat) (h : ∀ t ∈ l, t.sz ≤ M) : PT.cntL l ≤ l.length + PT.szL l := by
  induction l with
  | nil => simp [PT.cntL]
  | cons t l ih =>
    have h1 := cnt_le_sz t
    have h2 := ih (fun u hu => h u (by simp [hu]))
    simp only [PT.cntL, PT.szL, List.length_cons]
    omega
theorem take_step (l : List AT) (i : Nat) (h : i < l.length) : i < (AT.ptL l).length ∧ (AT.ptL l)[i]? = some (l[i]).pt := by
  rw [AT.ptL_length]
  exact ⟨h, by simp [AT.ptL_eq, List.getElem?_eq_getElem h]⟩
theorem ptL_get (l : List AT) (i : Nat) (h : i < l.length) : (AT.ptL l)[i]'(by rw [AT.ptL_length]; exact h) = (l[i]).pt := by simp [AT.ptL_eq]
theorem box5 (w : World) (k n x : Int) (s : ByteArray) (a : Option Addr) (len cap : Nat) (t : TypeId) {wr : World} (hb : Below (w.heap.size + 1) (w.alloc (.cells #[.int .i64 k, .int .i64 n, .int .i64 x, .string s, .slice a len cap] t)) wr) :
    wr.cell? ⟨w.heap.size, 0, none⟩ = some (.int .i64 k) ∧ wr.cell? ⟨w.heap.size, 1, none⟩ = some (.int .i64 n) ∧ wr.cell? ⟨w.heap.size, 2, none⟩ = some (.int .i64 x) ∧ wr.cell? ⟨w.heap.size, 3, none⟩ = some (.string s) ∧ wr.cell? ⟨w.heap.size, 4, none⟩ = some (.slice a len cap) := by
  refine ⟨?_, ?_, ?_, ?_, ?_⟩ <;> exact (hb.cell (by simp)).trans (by simp [go_sem])
theorem szL_ge {l : List AT} {t : AT} (h : t ∈ l) : t.pt.sz ≤ PT.szL (AT.ptL l) := sz_mem (by rw [AT.ptL_eq]; exact List.mem_map_of_mem h)
end Go.Proofs.YtilgncebhgplaaaDoor
