import Derived.Test.YtnikcgmbkmbloaaG0
import Derived.Test.YtnikcgmbkmbloaaG24
import Derived.Test.YtnikcgmbkmbloaaG18
import Derived.Test.YtnikcgmbkmbloaaG12
/- What tokens are parsed to: plain; a tree's tokens are parsed back, and what is parsed is no deeper than told. No program. -/
namespace Go.Proofs.Ytnikcgmbkmbloaa
open Go
/-- what is parsed: the code, the tree, the tokens that are left -/
structure PR where
  c : Nat
  v : PT
  r : List Tok
def failP (c : Nat) : PR := ⟨c, .mk 0 0 0 [] [], []⟩
def isT (t : Tok) (c : UInt8) : Bool := decide (t.k = 1 ∧ t.s = [c])
def numP (d : Option (Int × Int)) (r : List Tok) : PR := match d with
  | some (n, x) => ⟨0, if x = 0 then .mk 3 n 0 [] [] else .mk 6 n x [] [], r⟩
  | none => failP 2
def wordP (s : List UInt8) (r : List Tok) : PR := if s = wNull then ⟨0, .mk 1 0 0 [] [], r⟩ else if s = wTrue then ⟨0, .mk 2 1 0 [] [], r⟩ else if s = wFalse then ⟨0, .mk 2 0 0 [] [], r⟩ else failP 1
/-- a name and a colon, where names are asked for -/
def nameP (k : Int) (acc : List PT) (ts : List Tok) : Option (List PT × List Tok) :=
  if k = 10 then (match ts with
    | t :: u :: r => if t.k = 2 ∧ isT u 58 = true then some (acc ++ [.mk 7 0 0 t.s []], r) else none
    | _ => none)
  else some (acc, ts)
/-- behind an element: the end, or a comma and what follows -/
def endP (k : Int) (e : UInt8) (acc : List PT) (p : PR) (go : List PT → List Tok → PR) : PR :=
  if p.c = 0 then (match p.r with
    | [] => failP 1
    | t :: r => if isT t e = true then ⟨0, .mk k 0 0 [] (acc ++ [p.v]), r⟩ else if isT t 44 = true then go (acc ++ [p.v]) r else failP 1)
  else failP p.c
def boxP (k : Int) (e : UInt8) (ts : List Tok) (go : List Tok → PR) : PR := match ts with
  | t :: r => if isT t e = true then ⟨0, .mk k 0 0 [] [], r⟩ else go (t :: r)
  | [] => go []
def tokP (D : Int → Int → Option (Int × Int)) (t : Tok) (r : List Tok) (go : Int → UInt8 → PR) : PR :=
  if t.k = 2 then ⟨0, .mk 7 0 0 t.s [], r⟩ else if t.k = 3 then numP (D t.n t.x) r else if t.k = 4 then wordP t.s r
  else if isT t 91 = true then go 9 93 else if isT t 123 = true then go 10 125 else failP 1
def headP (ts : List Tok) (go : Tok → List Tok → PR) : PR := match ts with
  | [] => failP 1
  | t :: r => go t r
mutual
/-- a tree at depth d, no deeper than M -/
def pTree (D : Int → Int → Option (Int × Int)) (M : Int) : Nat → Int → List Tok → PR
  | 0, _, _ => failP 1
  | f + 1, d, ts => if M < d then failP 2 else headP ts fun t r => tokP D t r fun k e => boxP k e r fun ts => pMany D M f d k e [] ts
def pMany (D : Int → Int → Option (Int × Int)) (M : Int) : Nat → Int → Int → UInt8 → List PT → List Tok → PR
  | 0, _, _, _, _, _ => failP 1
  | f + 1, d, k, e, acc, ts => match nameP k acc ts with
    | none => failP 1
    | some (acc', r) => endP k e acc' (pTree D M f (d + 1) r) fun acc'' r' => pMany D M f d k e acc'' r'
end
/-- what stands for all the tokens -/
def parseP (D : Int → Int → Option (Int × Int)) (M : Int) (ts : List Tok) : Nat × PT :=
  let p := pTree D M (2 * ts.length + 2) 1 ts
  if p.c = 0 then (if p.r = [] then (0, p.v) else (1, .mk 0 0 0 [] [])) else (p.c, .mk 0 0 0 [] [])
section
variable {D : Int → Int → Option (Int × Int)} {M : Int}
theorem isT_sg (c d : UInt8) : isT (sg c) d = (c == d) := by unfold isT sg; by_cases h : c = d <;> simp [h]
theorem headP_cons (t : Tok) (r : List Tok) (go : Tok → List Tok → PR) : headP (t :: r) go = go t r := rfl
theorem tokP_list (r : List Tok) (go : Int → UInt8 → PR) : tokP D (sg 91) r go = go 9 93 := by unfold tokP; simp [sg, isT]
theorem tokP_map (r : List Tok) (go : Int → UInt8 → PR) : tokP D (sg 123) r go = go 10 125 := by unfold tokP; simp [sg, isT]
theorem endP_end {k : Int} {e : UInt8} {acc : List PT} {v : PT} {r : List Tok} {go : List PT → List Tok → PR} : endP k e acc ⟨0, v, sg e :: r⟩ go = ⟨0, .mk k 0 0 [] (acc ++ [v]), r⟩ := by
  unfold endP; simp [isT_sg]
theorem endP_more {k : Int} {e : UInt8} {acc : List PT} {v : PT} {r : List Tok} {go : List PT → List Tok → PR} (he : e ≠ 44) : endP k e acc ⟨0, v, sg 44 :: r⟩ go = go (acc ++ [v]) r := by
  unfold endP; simp [isT_sg, Ne.symm he]
theorem endP_bad {k : Int} {e : UInt8} {acc : List PT} {c : Nat} {go : List PT → List Tok → PR} (hc : c ≠ 0) : endP k e acc (failP c) go = failP c := by
  unfold endP failP; simp [hc]
theorem deep_mk (k n x : Int) (s : List UInt8) (l : List PT) : (PT.mk k n x s l).deep = PT.deepL l + 1 := by rw [PT.deep]
theorem deepL_cons (t : PT) (l : List PT) : PT.deepL (t :: l) = max t.deep (PT.deepL l) := by rw [PT.deepL]
theorem deep_pos (t : PT) : 1 ≤ t.deep := by cases t; rw [PT.deep]; omega
/-- a tree's first token is no end of a list -/
theorem tks_head (t : PT) (h : t.Fits) : ∃ c q, t.tks = c :: q ∧ isT c 93 = false ∧ isT c 125 = false := by
  cases h with
  | null => exact ⟨_, _, rfl, by decide, by decide⟩
  | bool n h => exact ⟨_, _, rfl, by unfold isT; simp, by unfold isT; simp⟩
  | int n h => exact ⟨_, _, rfl, by unfold isT; simp, by unfold isT; simp⟩
  | dec n x h hx => exact ⟨_, _, rfl, by unfold isT; simp, by unfold isT; simp⟩
  | text rs h => exact ⟨_, _, rfl, by unfold isT; simp, by unfold isT; simp⟩
  | list l h => exact ⟨sg 91, PT.tksL false 0 l ++ [sg 93], by rw [PT.tks]; rfl, by decide, by decide⟩
  | map l h he hn => exact ⟨sg 123, PT.tksL true 0 l ++ [sg 125], by rw [PT.tks]; rfl, by decide, by decide⟩
/-- what a tree's tokens are parsed to -/
def BackT (D : Int → Int → Option (Int × Int)) (M : Int) (T : PT) : Prop := ∀ (f : Nat) (d : Int) (r : List Tok), 2 * T.cnt ≤ f → pTree D M f d (T.tks ++ r) = if d + T.deep ≤ M + 1 then ⟨0, T, r⟩ else failP 2
/-- a list's elements -/
theorem back_list (d : Int) (hd : d ≤ M) : ∀ (l : List PT) (i f : Nat) (acc : List PT) (t : PT) (r : List Tok), (∀ u ∈ t :: l, BackT D M u) → 2 * PT.cntL (t :: l) + 1 ≤ f →
    pMany D M f d 9 93 acc (t.tks ++ (PT.tksL false (i + 1) l ++ sg 93 :: r)) = if d + 1 + PT.deepL (t :: l) ≤ M + 1 then ⟨0, .mk 9 0 0 [] (acc ++ t :: l), r⟩ else failP 2
  | l, i, 0, acc, t, r, hb, hf => by omega
  | [], i, f + 1, acc, t, r, hb, hf => by
    have hc : PT.cntL [t] = t.cnt + 0 := by rw [PT.cntL, PT.cntL]
    rw [PT.tksL, pMany, List.nil_append]
    unfold nameP
    simp only [show ¬ (9 : Int) = 10 by decide, if_false]
    rw [hb t List.mem_cons_self f (d + 1) _ (by omega), deepL_cons, show PT.deepL [] = 0 by rw [PT.deepL], Nat.max_zero]
    split
    · rw [endP_end]
    · rw [endP_bad (by decide)]
  | u :: l, i, f + 1, acc, t, r, hb, hf => by
    have hc : PT.cntL (t :: u :: l) = t.cnt + PT.cntL (u :: l) := by rw [PT.cntL]
    have hp : 1 ≤ t.cnt := by cases t; rw [PT.cnt]; omega
    rw [PT.tksL, pMany]
    unfold nameP
    simp only [show ¬ (9 : Int) = 10 by decide, if_false]
    rw [hb t List.mem_cons_self f (d + 1) _ (by omega), deepL_cons]
    have hs : sepT false (i + 1) = [sg 44] := by unfold sepT; simp
    rw [hs]
    have ih := back_list d hd l (i + 1) f (acc ++ [t]) u r (fun w hw => hb w (List.mem_cons_of_mem _ hw)) (by omega)
    by_cases h1 : d + 1 + t.deep ≤ M + 1
    · rw [if_pos h1, List.append_assoc, List.append_assoc, List.singleton_append, endP_more (by decide), ih, List.append_assoc, List.singleton_append]
      by_cases h2 : d + 1 + PT.deepL (u :: l) ≤ M + 1
      · rw [if_pos h2, if_pos (by omega)]
      · rw [if_neg h2, if_neg (by omega)]
    · rw [if_neg h1, endP_bad (by decide), if_neg (by omega)]
/-- a map's names and values -/
theorem back_map (d : Int) (hd : d ≤ M) : ∀ (l : List PT) (j f : Nat) (acc : List PT) (s : List UInt8) (u : PT) (r : List Tok), (∀ w ∈ u :: l, BackT D M w) → (∀ i w, l[i]? = some w → i % 2 = 0 → ∃ s, w = .mk 7 0 0 s []) → l.length % 2 = 0 → 2 * PT.cntL (u :: l) + 1 ≤ f →
    pMany D M f d 10 125 acc (⟨2, s, 0, 0⟩ :: (PT.tksL true (2 * j + 1) (u :: l) ++ sg 125 :: r)) = if d + 1 + PT.deepL (u :: l) ≤ M + 1 then ⟨0, .mk 10 0 0 [] (acc ++ .mk 7 0 0 s [] :: u :: l), r⟩ else failP 2
  | l, j, 0, acc, s, u, r, hb, hn, he, hf => by omega
  | [], j, f + 1, acc, s, u, r, hb, hn, he, hf => by
    have hc : PT.cntL [u] = u.cnt + 0 := by rw [PT.cntL, PT.cntL]
    have hs : sepT true (2 * j + 1) = [sg 58] := by unfold sepT; simp
    rw [PT.tksL, PT.tksL, pMany, hs, List.append_nil]
    simp only [nameP, if_true, List.nil_append, List.cons_append, isT_sg, beq_self_eq_true, and_self]
    rw [hb u List.mem_cons_self f (d + 1) _ (by omega), deepL_cons, show PT.deepL [] = 0 by rw [PT.deepL], Nat.max_zero]
    split
    · rw [endP_end, List.append_assoc]; rfl
    · rw [endP_bad (by decide)]
  | [x], j, f + 1, acc, s, u, r, hb, hn, he, hf => by simp at he
  | t :: v :: l, j, f + 1, acc, s, u, r, hb, hn, he, hf => by
    obtain ⟨s', rfl⟩ := hn 0 t rfl rfl
    have hc : PT.cntL (u :: .mk 7 0 0 s' [] :: v :: l) = u.cnt + (1 + PT.cntL (v :: l)) := by rw [PT.cntL, PT.cntL, PT.cnt, show PT.cntL [] = 0 by rw [PT.cntL]]
    have hs : sepT true (2 * j + 1) = [sg 58] := by unfold sepT; simp
    have hs2 : sepT true (2 * j + 1 + 1) = [sg 44] := by unfold sepT; simp; omega
    have ht : (PT.mk 7 0 0 s' []).tks = [⟨2, s', 0, 0⟩] := rfl
    rw [PT.tksL, PT.tksL, pMany, hs, hs2, ht]
    simp only [nameP, if_true, List.nil_append, List.cons_append, isT_sg, beq_self_eq_true, and_self]
    rw [List.append_assoc, hb u List.mem_cons_self f (d + 1) _ (by omega), deepL_cons, deepL_cons, deep_mk, show PT.deepL [] = 0 by rw [PT.deepL]]
    have hv := deepL_cons v l
    have hvp := deep_pos v
    have ih := back_map d hd l (j + 1) f (acc ++ [.mk 7 0 0 s [], u]) s' v r (fun w hw => hb w (List.mem_cons_of_mem _ (List.mem_cons_of_mem _ hw))) (fun i w hw hi => hn (i + 2) w hw (by omega)) (by simp at he; omega) (by omega)
    by_cases h1 : d + 1 + u.deep ≤ M + 1
    · rw [if_pos h1, List.cons_append, List.cons_append, endP_more (by decide)]
      rw [show 2 * j + 1 + 1 + 1 = 2 * (j + 1) + 1 by omega, List.append_assoc, show [PT.mk 7 0 0 s []] ++ [u] = [PT.mk 7 0 0 s [], u] from rfl, ih, List.append_assoc]
      by_cases h2 : d + 1 + PT.deepL (v :: l) ≤ M + 1
      · rw [if_pos h2, if_pos (by omega)]; rfl
      · rw [if_neg h2, if_neg (by omega)]
    · rw [if_neg h1, endP_bad (by decide), if_neg (by omega)]
/-- a tree's own tokens are parsed to it, if it isn't too deep; otherwise the code is that of a limit -/
theorem back_tree (hD : ∀ n x, decOk n x = true → D n x = some (n, x)) (T : PT) : T.Fits → BackT D M T := by
  refine PT.ind (P := fun T => T.Fits → BackT D M T) (fun k n x s l ih h => ?_) T
  intro f d r hf
  cases f with
  | zero => rw [PT.cnt] at hf; omega
  | succ f =>
  rw [pTree, deep_mk]
  by_cases hM : M < d
  · rw [if_pos hM, if_neg (by omega)]
  rw [if_neg hM]
  cases h with
  | null => rw [if_pos (by rw [PT.deepL]; omega)]; rfl
  | bool n h => rw [if_pos (by rw [PT.deepL]; omega)]; rcases h with rfl | rfl <;> rfl
  | int n h =>
    rw [if_pos (by rw [PT.deepL]; omega)]
    show numP (D n 0) r = _
    rw [hD n 0 h]; rfl
  | dec n x h hx =>
    rw [if_pos (by rw [PT.deepL]; omega)]
    show numP (D n x) r = _
    rw [hD n x h]; simp [numP, hx]
  | text rs h => rw [if_pos (by rw [PT.deepL]; omega)]; rfl
  | list l h =>
    have hb : ∀ u ∈ l, BackT D M u := fun u hu => ih u hu (h u hu)
    rw [PT.tks, show isLeafK 9 = false by decide]
    simp only [Bool.false_eq_true, if_false, show ¬ (9 : Int) = 10 by decide, List.cons_append, List.append_assoc, List.nil_append]
    rw [headP_cons, tokP_list]
    cases l with
    | nil => rw [if_pos (by rw [PT.deepL]; omega), PT.tksL]; rfl
    | cons t l =>
      rw [PT.cnt] at hf
      have := back_list (D := D) (M := M) d (by omega) l 0 f [] t r hb (by omega)
      rw [List.nil_append] at this
      rw [PT.tksL, show sepT false 0 = [] from rfl, List.nil_append, List.append_assoc]
      have hne : boxP 9 93 (t.tks ++ (PT.tksL false (0 + 1) l ++ sg 93 :: r)) (fun ts => pMany D M f d 9 93 [] ts) = pMany D M f d 9 93 [] (t.tks ++ (PT.tksL false (0 + 1) l ++ sg 93 :: r)) := by
        obtain ⟨c, q, hq, hc⟩ := tks_head t (h t List.mem_cons_self)
        rw [hq, List.cons_append]; unfold boxP; simp only; rw [hc.1]; rfl
      rw [hne, this]
      by_cases h2 : d + 1 + (PT.deepL (t :: l) : Nat) ≤ M + 1
      · rw [if_pos h2, if_pos (by omega)]
      · rw [if_neg h2, if_neg (by omega)]
  | map l h he hn =>
    have hb : ∀ u ∈ l, BackT D M u := fun u hu => ih u hu (h u hu)
    have hnm : ∀ i w, l[i]? = some w → i % 2 = 0 → ∃ s, w = .mk 7 0 0 s [] := fun i w hw hi => by
      have hk := hn i w hw hi
      have hf := h w (List.mem_of_getElem? hw)
      cases hf <;> simp [PT.kd] at hk
      exact ⟨_, rfl⟩
    rw [PT.tks, show isLeafK 10 = false by decide]
    simp only [Bool.false_eq_true, if_false, if_true, List.cons_append, List.append_assoc, List.nil_append]
    rw [headP_cons, tokP_map]
    match l, hf, hb, hnm, he, h with
    | [], _, _, _, _, _ => rw [if_pos (by rw [PT.deepL]; omega), PT.tksL]; rfl
    | [x], _, _, _, he, _ => simp at he
    | t :: u :: l, hf, hb, hnm, he, h =>
      obtain ⟨s', rfl⟩ := hnm 0 t rfl rfl
      have ht : (PT.mk 7 0 0 s' []).tks = [⟨2, s', 0, 0⟩] := rfl
      have hc : PT.cntL (.mk 7 0 0 s' [] :: u :: l) = 1 + PT.cntL (u :: l) := by rw [PT.cntL, PT.cnt, show PT.cntL [] = 0 by rw [PT.cntL]]
      rw [PT.cnt, hc] at hf
      have := back_map (D := D) (M := M) d (by omega) l 0 f [] s' u r (fun w hw => hb w (List.mem_cons_of_mem _ hw)) (fun i w hw hi => hnm (i + 2) w hw (by omega)) (by simp at he; omega) (by omega)
      rw [List.nil_append] at this
      rw [PT.tksL, show sepT true 0 = [] from rfl, List.nil_append, ht, List.append_assoc, List.singleton_append]
      have hne : ∀ q : List Tok, boxP 10 125 (⟨2, s', 0, 0⟩ :: q) (fun ts => pMany D M f d 10 125 [] ts) = pMany D M f d 10 125 [] (⟨2, s', 0, 0⟩ :: q) := fun q => rfl
      rw [hne, show 0 + 1 = 2 * 0 + 1 from rfl]
      have hv := deepL_cons u l
      have hvp := deep_pos u
      rw [this, deepL_cons (.mk 7 0 0 s' []), deep_mk, show PT.deepL [] = 0 by rw [PT.deepL]]
      by_cases h2 : d + 1 + (PT.deepL (u :: l) : Nat) ≤ M + 1
      · rw [if_pos h2, if_pos (by omega)]
      · rw [if_neg h2, if_neg (by omega)]
end
end Go.Proofs.Ytnikcgmbkmbloaa
/- What is parsed is a right tree, no deeper than told; how much room a parse wants. No program. -/
namespace Go.Proofs.Ytnikcgmbkmbloaa
open Go
section
variable {D : Int → Int → Option (Int × Int)} {M : Int}
def GoodL (ts : List Tok) : Prop := ∀ t ∈ ts, t.k = 2 → ∃ rs : List Int, (∀ r ∈ rs, okR r) ∧ t.s = flat rs
def AccOk (M d k : Int) (acc : List PT) : Prop := (∀ t ∈ acc, t.Fits ∧ d + 1 + t.deep ≤ M + 1) ∧ (k = 10 → acc.length % 2 = 0 ∧ ∀ i t, acc[i]? = some t → i % 2 = 0 → t.kd = 7)
/-- what holds of a good end -/
def EndOk (M d : Int) (ts : List Tok) (p : PR) : Prop := p.c = 0 → p.v.Fits ∧ d + p.v.deep ≤ M + 1 ∧ p.r <:+ ts ∧ p.r.length < ts.length
theorem deepL_le (l : List PT) (b : Nat) (h : ∀ t ∈ l, t.deep ≤ b) : PT.deepL l ≤ b := by
  induction l with
  | nil => rw [PT.deepL]; omega
  | cons t l ih => rw [deepL_cons]; have := h t List.mem_cons_self; have := ih fun u hu => h u (List.mem_cons_of_mem _ hu); omega
theorem accOk_box {d k : Int} {acc : List PT} (hk : k = 9 ∨ k = 10) (hd : d ≤ M) (h : AccOk M d k acc) : (PT.mk k 0 0 [] acc).Fits ∧ d + (PT.mk k 0 0 [] acc).deep ≤ M + 1 := by
  constructor
  · rcases hk with rfl | rfl
    · exact .list _ fun t ht => (h.1 t ht).1
    · exact .map _ (fun t ht => (h.1 t ht).1) (h.2 rfl).1 (h.2 rfl).2
  · rw [deep_mk]
    have := deepL_le acc (M - d).toNat fun t ht => by have := (h.1 t ht).2; omega
    omega
theorem accOk_nil (d k : Int) : AccOk M d k [] := ⟨by simp, fun _ => ⟨rfl, by simp⟩⟩
theorem failP_ok {d : Int} {ts : List Tok} {c : Nat} (h : c ≠ 0) : EndOk M d ts (failP c) := fun e => absurd e h
theorem numP_ok (hD : ∀ n x N X, D n x = some (N, X) → decOk N X = true) {d n x : Int} {t : Tok} {r : List Tok} (hd : d ≤ M) : EndOk M d (t :: r) (numP (D n x) r) := by
  cases h : D n x with
  | none => exact failP_ok (by decide)
  | some p =>
    obtain ⟨N, X⟩ := p
    have hv := hD n x N X h
    intro _
    unfold numP
    simp only
    by_cases hX : X = 0
    · subst hX
      rw [if_pos rfl]
      exact ⟨.int N hv, by rw [deep_mk, PT.deepL]; omega, List.suffix_cons _ _, by simp⟩
    · rw [if_neg hX]
      exact ⟨.dec N X hv hX, by rw [deep_mk, PT.deepL]; omega, List.suffix_cons _ _, by simp⟩
theorem wordP_ok {d : Int} {s : List UInt8} {t : Tok} {r : List Tok} (hd : d ≤ M) : EndOk M d (t :: r) (wordP s r) := by
  unfold wordP
  split
  · exact fun _ => ⟨.null, by rw [deep_mk, PT.deepL]; omega, List.suffix_cons _ _, by simp⟩
  · split
    · exact fun _ => ⟨.bool 1 (.inr rfl), by rw [deep_mk, PT.deepL]; omega, List.suffix_cons _ _, by simp⟩
    · split
      · exact fun _ => ⟨.bool 0 (.inl rfl), by rw [deep_mk, PT.deepL]; omega, List.suffix_cons _ _, by simp⟩
      · exact failP_ok (by decide)
theorem goodL_suf {a b : List Tok} (h : GoodL b) (s : a <:+ b) : GoodL a := fun t ht => h t (s.subset ht)
theorem endOk_suf {d : Int} {a b : List Tok} {p : PR} (h : EndOk M d a p) (s : a <:+ b) : EndOk M d b p := fun hc => by
  obtain ⟨h1, h2, h3, h4⟩ := h hc
  exact ⟨h1, h2, h3.trans s, Nat.lt_of_lt_of_le h4 s.length_le⟩
/-- what is parsed is right -/
theorem parsed (hD : ∀ n x N X, D n x = some (N, X) → decOk N X = true) : ∀ f : Nat,
    (∀ (d : Int) (ts : List Tok), GoodL ts → EndOk M d ts (pTree D M f d ts)) ∧
    (∀ (d k : Int) (e : UInt8) (acc : List PT) (ts : List Tok), d ≤ M → (k = 9 ∨ k = 10) → GoodL ts → AccOk M d k acc → EndOk M d ts (pMany D M f d k e acc ts))
  | 0 => ⟨fun d ts _ => by rw [pTree]; exact failP_ok (by decide), fun d k e acc ts _ _ _ _ => by rw [pMany]; exact failP_ok (by decide)⟩
  | f + 1 => by
    obtain ⟨ih1, ih2⟩ := parsed hD f
    constructor
    · intro d ts hg
      rw [pTree]
      by_cases hM : M < d
      · rw [if_pos hM]; exact failP_ok (by decide)
      rw [if_neg hM]
      have hd : d ≤ M := by omega
      match ts, hg with
      | [], _ => exact failP_ok (by decide)
      | t :: r, hg =>
        rw [headP_cons]
        have box : ∀ (k : Int) (e : UInt8), (k = 9 ∨ k = 10) → EndOk M d (t :: r) (boxP k e r fun ts => pMany D M f d k e [] ts) := fun k e hk => by
          have hr := goodL_suf hg (List.suffix_cons t r)
          have hi := endOk_suf (ih2 d k e [] r hd hk hr (accOk_nil d k)) (List.suffix_cons t r)
          unfold boxP
          match r, hr, hi with
          | [], _, hi => exact hi
          | u :: r, hr, hi =>
            simp only
            split
            · intro _
              have := accOk_box hk hd (accOk_nil (M := M) d k)
              exact ⟨this.1, this.2, (List.suffix_cons u r).trans (List.suffix_cons t (u :: r)), by simp; omega⟩
            · exact hi
        unfold tokP
        split
        · rename_i hk
          obtain ⟨rs, hrs, hs⟩ := hg t List.mem_cons_self hk
          rw [hs]
          exact fun _ => ⟨.text rs hrs, by rw [deep_mk, PT.deepL]; omega, List.suffix_cons _ _, by simp⟩
        · split
          · exact numP_ok hD hd
          · split
            · exact wordP_ok hd
            · split
              · exact box 9 93 (.inl rfl)
              · split
                · exact box 10 125 (.inr rfl)
                · exact failP_ok (by decide)
    · intro d k e acc ts hd hk hg ha
      rw [pMany]
      -- behind a name
      have step : ∀ (acc' : List PT) (r : List Tok), r <:+ ts → (∀ v : PT, v.Fits → d + 1 + v.deep ≤ M + 1 → AccOk M d k (acc' ++ [v])) → EndOk M d ts (endP k e acc' (pTree D M f (d + 1) r) fun acc'' r' => pMany D M f d k e acc'' r') := fun acc' r hs hv => by
        have h1 := ih1 (d + 1) r (goodL_suf hg hs)
        generalize pTree D M f (d + 1) r = p at *
        unfold endP
        by_cases hc : p.c = 0
        · rw [if_pos hc]
          obtain ⟨q1, q2, q3, q4⟩ := h1 hc
          have hacc := hv p.v q1 q2
          have hsl := hs.length_le
          match hp : p.r with
          | [] => exact failP_ok (by decide)
          | t :: r' =>
            simp only
            rw [hp] at q3 q4
            simp only [List.length_cons] at q4
            have hs' : r' <:+ ts := ((List.suffix_cons t r').trans q3).trans hs
            split
            · exact fun _ => ⟨(accOk_box hk hd hacc).1, (accOk_box hk hd hacc).2, hs', by show r'.length < _; omega⟩
            · split
              · exact endOk_suf (ih2 d k e _ r' hd hk (goodL_suf hg hs') hacc) hs'
              · exact failP_ok (by decide)
        · rw [if_neg hc]; exact failP_ok hc
      rcases hk with rfl | rfl
      · have : nameP 9 acc ts = some (acc, ts) := by unfold nameP; rfl
        rw [this]
        refine step acc ts (List.suffix_refl _) fun v h1 h2 => ⟨fun t ht => ?_, fun h => by cases h⟩
        rcases List.mem_append.1 ht with h | h
        · exact ha.1 t h
        · rw [List.mem_singleton.1 h]; exact ⟨h1, h2⟩
      · match ts, hg, step with
        | [], _, _ => exact failP_ok (by decide)
        | [t], _, _ => exact failP_ok (by decide)
        | t :: u :: r, hg, step =>
          by_cases hn : t.k = 2 ∧ isT u 58 = true
          · have : nameP 10 acc (t :: u :: r) = some (acc ++ [.mk 7 0 0 t.s []], r) := by unfold nameP; rw [if_pos rfl]; simp only; rw [if_pos hn]
            rw [this]
            obtain ⟨rs, hrs, hs⟩ := hg t List.mem_cons_self hn.1
            obtain ⟨he, hnm⟩ := ha.2 rfl
            refine step _ r ((List.suffix_cons u r).trans (List.suffix_cons t _)) fun v h1 h2 => ⟨fun w hw => ?_, fun _ => ⟨by simp; omega, fun i w hw hi => ?_⟩⟩
            · have hvp := deep_pos v
              rcases List.mem_append.1 hw with h | h
              · rcases List.mem_append.1 h with h | h
                · exact ha.1 w h
                · rw [List.mem_singleton.1 h]; exact ⟨by rw [hs]; exact .text rs hrs, by rw [deep_mk, PT.deepL]; omega⟩
              · rw [List.mem_singleton.1 h]; exact ⟨h1, h2⟩
            · rw [List.append_assoc] at hw
              rcases Nat.lt_or_ge i acc.length with g | g
              · rw [List.getElem?_append_left g] at hw; exact hnm i w hw hi
              · rw [List.getElem?_append_right g] at hw
                rcases Nat.lt_or_ge (i - acc.length) 1 with g2 | g2
                · rw [show i - acc.length = 0 by omega] at hw
                  simp at hw
                  rw [← hw]; rfl
                · rw [List.getElem?_eq_none (by simp; omega)] at hw; cases hw
          · have : nameP 10 acc (t :: u :: r) = none := by unfold nameP; rw [if_pos rfl]; simp only; rw [if_neg hn]
            rw [this]; exact failP_ok (by decide)
/-! How much room a parse wants. -/
def Short (ts : List Tok) (p : PR) : Prop := p.c = 0 → p.r.length < ts.length
theorem short : ∀ f : Nat, (∀ (d : Int) (ts : List Tok), Short ts (pTree D M f d ts)) ∧ (∀ (d k : Int) (e : UInt8) (acc : List PT) (ts : List Tok), Short ts (pMany D M f d k e acc ts))
  | 0 => ⟨fun d ts => by rw [pTree]; exact fun h => absurd h (by decide), fun d k e acc ts => by rw [pMany]; exact fun h => absurd h (by decide)⟩
  | f + 1 => by
    obtain ⟨ih1, ih2⟩ := short f
    constructor
    · intro d ts
      rw [pTree]
      by_cases hM : M < d
      · rw [if_pos hM]; exact fun h => by cases h
      rw [if_neg hM]
      match ts with
      | [] => exact fun h => by cases h
      | t :: r =>
        rw [headP_cons]
        have box : ∀ (k : Int) (e : UInt8), Short (t :: r) (boxP k e r fun ts => pMany D M f d k e [] ts) := fun k e => by
          have hi := ih2 d k e [] r
          unfold boxP
          match r, hi with
          | [], hi => exact fun hc => Nat.lt_succ_of_lt (hi hc)
          | u :: r, hi =>
            simp only
            split
            · intro _; show r.length < _; simp; omega
            · exact fun hc => Nat.lt_succ_of_lt (hi hc)
        unfold tokP
        split
        · intro _; simp
        · split
          · unfold numP
            split
            · intro _; simp
            · exact fun h => by cases h
          · split
            · unfold wordP
              split
              · intro _; simp
              · split
                · intro _; simp
                · split
                  · intro _; simp
                  · exact fun h => by cases h
            · split
              · exact box 9 93
              · split
                · exact box 10 125
                · exact fun h => by cases h
    · intro d k e acc ts
      rw [pMany]
      have step : ∀ (acc' : List PT) (r : List Tok), r.length ≤ ts.length → Short ts (endP k e acc' (pTree D M f (d + 1) r) fun acc'' r' => pMany D M f d k e acc'' r') := fun acc' r hs => by
        have h1 := ih1 (d + 1) r
        generalize pTree D M f (d + 1) r = p at *
        unfold endP
        by_cases hc : p.c = 0
        · rw [if_pos hc]
          have h2 := h1 hc
          match hp : p.r with
          | [] => exact fun h => by cases h
          | t :: r' =>
            simp only
            rw [hp, List.length_cons] at h2
            split
            · intro _; show r'.length < _; omega
            · split
              · exact fun hc => by have := ih2 d k e (acc' ++ [p.v]) r' hc; omega
              · exact fun h => by cases h
        · rw [if_neg hc]; exact fun h => absurd h hc
      unfold nameP
      split
      · exact fun h => by cases h
      · rename_i acc' r heq
        refine step acc' r ?_
        split at heq
        · match ts, heq with
          | t :: u :: r2, heq =>
            simp only at heq
            split at heq
            · injection heq with heq; injection heq with _ h2; rw [← h2]; simp; omega
            · cases heq
        · injection heq with heq; injection heq with _ h2; rw [h2]; exact Nat.le_refl _
theorem endP_congr {k : Int} {e : UInt8} {acc : List PT} {p : PR} {go go' : List PT → List Tok → PR} (n : Nat) (hp : p.c = 0 → p.r.length < n) (h : ∀ a r, r.length + 1 < n → go a r = go' a r) : endP k e acc p go = endP k e acc p go' := by
  unfold endP
  by_cases hc : p.c = 0
  · rw [if_pos hc, if_pos hc]
    have h2 := hp hc
    match hr : p.r with
    | [] => rfl
    | t :: r =>
      rw [hr, List.length_cons] at h2
      simp only
      split
      · rfl
      · split
        · exact h _ r h2
        · rfl
  · rw [if_neg hc, if_neg hc]
theorem nameP_len {k : Int} {acc acc' : List PT} {ts r : List Tok} (h : nameP k acc ts = some (acc', r)) : r.length ≤ ts.length := by
  unfold nameP at h
  split at h
  · match ts, h with
    | t :: u :: r2, h =>
      simp only at h
      split at h
      · injection h with h; injection h with _ h2; rw [← h2]; simp; omega
      · cases h
  · injection h with h; injection h with _ h2; rw [h2]; exact Nat.le_refl _
/-- more room changes nothing -/
theorem stable : ∀ f : Nat, (∀ (g : Nat) (d : Int) (ts : List Tok), 2 * ts.length + 2 ≤ f → 2 * ts.length + 2 ≤ g → pTree D M f d ts = pTree D M g d ts) ∧
    (∀ (g : Nat) (d k : Int) (e : UInt8) (acc : List PT) (ts : List Tok), 2 * ts.length + 3 ≤ f → 2 * ts.length + 3 ≤ g → pMany D M f d k e acc ts = pMany D M g d k e acc ts)
  | 0 => ⟨fun g d ts h _ => by omega, fun g d k e acc ts h _ => by omega⟩
  | f + 1 => by
    obtain ⟨ih1, ih2⟩ := stable f
    constructor
    · intro g d ts hf hg
      cases g with
      | zero => omega
      | succ g =>
      rw [pTree, pTree]
      by_cases hM : M < d
      · rw [if_pos hM, if_pos hM]
      rw [if_neg hM, if_neg hM]
      match ts, hf, hg with
      | [], _, _ => rfl
      | t :: r, hf, hg =>
        simp only [List.length_cons] at hf hg
        rw [headP_cons, headP_cons]
        have box : ∀ (k : Int) (e : UInt8), (boxP k e r fun ts => pMany D M f d k e [] ts) = boxP k e r fun ts => pMany D M g d k e [] ts := fun k e => by
          unfold boxP
          match r, hf, hg with
          | [], hf, hg => exact ih2 g d k e [] [] (by simp at hf ⊢; omega) (by simp at hg ⊢; omega)
          | u :: r, hf, hg =>
            simp only
            rw [ih2 g d k e [] (u :: r) (by omega) (by omega)]
        exact congrArg (tokP D t r) (funext fun k => funext (box k))
    · intro g d k e acc ts hf hg
      cases g with
      | zero => omega
      | succ g =>
      rw [pMany, pMany]
      cases hn : nameP k acc ts with
      | none => rfl
      | some q =>
        obtain ⟨acc', r⟩ := q
        have hl := nameP_len hn
        simp only
        rw [ih1 g (d + 1) r (by omega) (by omega)]
        refine endP_congr r.length (fun hc => (short g).1 (d + 1) r hc) fun a r' hr => ?_
        exact ih2 g d k e a r' (by omega) (by omega)
theorem cntL_le_tks {l : List PT} (m : Bool) (i : Nat) (h : ∀ t ∈ l, t.cnt ≤ t.tks.length) : PT.cntL l ≤ (PT.tksL m i l).length := by
  induction l generalizing i with
  | nil => rw [PT.cntL]; omega
  | cons t l ih =>
    rw [PT.cntL, PT.tksL]
    have h1 := h t List.mem_cons_self
    have h2 := ih (i + 1) fun u hu => h u (List.mem_cons_of_mem _ hu)
    simp only [List.length_append]
    omega
theorem cnt_le_tks (T : PT) : T.Fits → T.cnt ≤ T.tks.length := by
  refine PT.ind (P := fun T => T.Fits → T.cnt ≤ T.tks.length) (fun k n x s l ih h => ?_) T
  cases h with
  | null => decide
  | bool n h => rw [PT.cnt, PT.cntL, PT.tks]; exact Nat.le_refl 1
  | int n h => rw [PT.cnt, PT.cntL, PT.tks]; exact Nat.le_refl 1
  | dec n x h hx => rw [PT.cnt, PT.cntL, PT.tks]; exact Nat.le_refl 1
  | text rs h => rw [PT.cnt, PT.cntL, PT.tks]; exact Nat.le_refl 1
  | list l h =>
    rw [PT.cnt, PT.tks]
    have := cntL_le_tks false 0 fun t ht => ih t ht (h t ht)
    simp [isLeafK]; omega
  | map l h he hn =>
    rw [PT.cnt, PT.tks]
    have := cntL_le_tks true 0 fun t ht => ih t ht (h t ht)
    simp [isLeafK]; omega
/-- a tree's own tokens -/
theorem parse_tree (hD : ∀ n x, decOk n x = true → D n x = some (n, x)) {T : PT} (h : T.Fits) : parseP D M T.tks = if (T.deep : Int) ≤ M then (0, T) else (2, .mk 0 0 0 [] []) := by
  have hb := back_tree (D := D) (M := M) hD T h (2 * T.tks.length + 2) 1 [] (by have := cnt_le_tks T h; omega)
  rw [List.append_nil] at hb
  unfold parseP
  by_cases hd : (T.deep : Int) ≤ M
  · rw [if_pos (by omega)] at hb
    rw [hb, if_pos hd]; rfl
  · rw [if_neg (by omega)] at hb
    rw [hb, if_neg hd]; rfl
/-- what is parsed whole -/
theorem parse_ok (hD : ∀ n x N X, D n x = some (N, X) → decOk N X = true) {ts : List Tok} (hg : GoodL ts) (h : (parseP D M ts).1 = 0) : (parseP D M ts).2.Fits ∧ ((parseP D M ts).2.deep : Int) ≤ M := by
  have hp := (parsed (M := M) hD (2 * ts.length + 2)).1 1 ts hg
  unfold parseP at h ⊢
  simp only at h ⊢
  by_cases hc : (pTree D M (2 * ts.length + 2) 1 ts).c = 0
  · rw [if_pos hc] at h ⊢
    obtain ⟨h1, h2, _⟩ := hp hc
    split at h
    · rename_i hr; rw [if_pos hr]; exact ⟨h1, (by omega : ((pTree D M (2 * ts.length + 2) 1 ts).v.deep : Int) ≤ M)⟩
    · cases h
  · rw [if_neg hc] at h; exact absurd h hc
theorem parse_bad {ts : List Tok} (h : (parseP D M ts).1 ≠ 0) : (parseP D M ts).2 = .mk 0 0 0 [] [] := by
  unfold parseP at h ⊢
  simp only at h ⊢
  split
  · rename_i hc
    rw [if_pos hc] at h
    split
    · rename_i hr; rw [if_pos hr] at h; exact absurd rfl h
    · rfl
  · rfl
theorem goodL_of {ts : List Tok} (h : ∀ t ∈ ts, GoodTok t) : GoodL ts := fun t ht hk => by
  have := h t ht
  cases this with
  | sign c h => cases hk
  | text rs h => exact ⟨rs, h, rfl⟩
  | num n x h => cases hk
  | word w h => cases hk
end
end Go.Proofs.Ytnikcgmbkmbloaa
/- Trees of the first way: the plain test, and what it says; what is parsed is valid. No program. -/
namespace Go.Proofs.Ytnikcgmbkmbloaa
open Go
/-- no two of them are the same -/
def onceL : List PT → Bool
  | [] => true
  | t :: l => l.all (fun u => !(t.same u)) && onceL l
def fitK (k : Int) (l : List PT) : Bool := decide (k = 1 ∨ k = 2 ∨ k = 3 ∨ k = 6 ∨ k = 7 ∨ k = 9) || (decide (k = 10) && ((evens l).all (fun t => t.kd == 7) && onceL (evens l)))
mutual
def PT.fitB : PT → Bool
  | .mk k _ _ _ l => PT.fitBL l && fitK k l
def PT.fitBL : List PT → Bool
  | [] => true
  | t :: l => t.fitB && PT.fitBL l
end
theorem okL_mem {l : List PT} (h : PT.okL l = true) : ∀ t ∈ l, t.ok = true := by
  induction l with
  | nil => simp
  | cons t l ih =>
    rw [PT.okL, Bool.and_eq_true] at h
    intro u hu
    rcases List.mem_cons.1 hu with rfl | hu
    · exact h.1
    · exact ih h.2 u hu
theorem okL_of {l : List PT} (h : ∀ t ∈ l, t.ok = true) : PT.okL l = true := by
  induction l with
  | nil => rfl
  | cons t l ih => rw [PT.okL, h t List.mem_cons_self, ih fun u hu => h u (List.mem_cons_of_mem _ hu)]; rfl
theorem fitBL_mem {l : List PT} (h : PT.fitBL l = true) : ∀ t ∈ l, t.fitB = true := by
  induction l with
  | nil => simp
  | cons t l ih =>
    rw [PT.fitBL, Bool.and_eq_true] at h
    intro u hu
    rcases List.mem_cons.1 hu with rfl | hu
    · exact h.1
    · exact ih h.2 u hu
theorem fitBL_of {l : List PT} (h : ∀ t ∈ l, t.fitB = true) : PT.fitBL l = true := by
  induction l with
  | nil => rfl
  | cons t l ih => rw [PT.fitBL, h t List.mem_cons_self, ih fun u hu => h u (List.mem_cons_of_mem _ hu)]; rfl
theorem evens_even {l : List PT} (h : ∀ t ∈ evens l, t.kd = 7) : ∀ i t, l[i]? = some t → i % 2 = 0 → t.kd = 7 := fun i t hi he => by
  have hl : i < l.length := (List.getElem?_eq_some_iff.1 hi).1
  have hg := evens_get l (i / 2) (by omega)
  have e : l[2 * (i / 2)]'(by omega) = t := by
    have : 2 * (i / 2) = i := by omega
    have h2 := (List.getElem?_eq_some_iff.1 hi).2
    simpa only [this] using h2
  rw [e] at hg
  exact h t (List.mem_of_getElem? hg)
theorem even_evens {l : List PT} (h : ∀ i t, l[i]? = some t → i % 2 = 0 → t.kd = 7) : ∀ t ∈ evens l, t.kd = 7 := by
  induction l using evens.induct with
  | case1 => intro t ht; cases ht
  | case2 x => intro t ht; rw [List.mem_singleton.1 ht]; exact h 0 x rfl rfl
  | case3 x y l ih =>
    intro t ht
    simp only [evens, List.mem_cons] at ht
    rcases ht with rfl | ht
    · exact h 0 t rfl rfl
    · exact ih (fun i t hi he => h (i + 2) t hi (by omega)) t ht
/-- a right tree that passes the test -/
theorem fits_of (T : PT) : T.ok = true → T.fitB = true → T.Fits := by
  refine PT.ind (P := fun T => T.ok = true → T.fitB = true → T.Fits) (fun k n x s l ih h hf => ?_) T
  rw [PT.ok, Bool.and_eq_true] at h
  rw [PT.fitB, Bool.and_eq_true] at hf
  obtain ⟨hn, hl⟩ := h
  obtain ⟨hfl, hk⟩ := hf
  have hsub : ∀ t ∈ l, t.Fits := fun t ht => ih t ht (okL_mem hl t ht) (fitBL_mem hfl t ht)
  unfold nodeF at hn
  rw [Bool.and_eq_true] at hn
  obtain ⟨h1, h2⟩ := hn
  have hnil : l.length = 0 → l = [] := List.length_eq_zero_iff.1
  have hkk : k = 1 ∨ k = 2 ∨ k = 3 ∨ k = 6 ∨ k = 7 ∨ k = 9 ∨ (k = 10 ∧ (evens l).all (fun t => t.kd == 7) = true) := by
    unfold fitK at hk
    simp only [Bool.or_eq_true, Bool.and_eq_true, decide_eq_true_eq] at hk
    rcases hk with (h | h | h | h | h | h) | ⟨h, h3, _⟩ <;> simp [*]
  rcases hkk with rfl | rfl | rfl | rfl | rfl | rfl | ⟨rfl, hev⟩
  · simp [zF] at h2
    obtain ⟨⟨⟨rfl, rfl⟩, rfl⟩, h2⟩ := h2
    rw [h2]; exact .null
  · simp [zF] at h2
    obtain ⟨⟨rfl, rfl⟩, h2⟩ := h2
    simp [okF] at h1
    rw [h2]; exact .bool n (by omega)
  · simp [zF] at h2
    obtain ⟨⟨rfl, rfl⟩, h2⟩ := h2
    simp [okF] at h1
    rw [h2]; exact .int n (decOk_zero h1.1 h1.2)
  · simp [zF] at h2
    obtain ⟨rfl, h2⟩ := h2
    simp [okF] at h1
    rw [h2]; exact .dec n x h1.2 (by omega)
  · simp [zF] at h2
    obtain ⟨⟨rfl, rfl⟩, h2⟩ := h2
    simp [okF] at h1
    rw [h2]
    cases hr : runes s with
    | none => rw [hr] at h1; cases h1
    | some rs =>
      rw [← flat_runes _ s rs (Nat.le_refl _) hr]
      exact .text rs (runes_okR _ s rs (Nat.le_refl _) hr)
  · simp [zF] at h2
    obtain ⟨⟨rfl, rfl⟩, rfl⟩ := h2
    exact .list l hsub
  · simp [zF] at h2
    obtain ⟨⟨rfl, rfl⟩, rfl⟩ := h2
    simp [okF] at h1
    exact .map l hsub (by omega) (evens_even fun t ht => by simpa using List.all_eq_true.1 hev t ht)
/-- what fits is valid -/
theorem fits_ok (T : PT) : T.Fits → T.ok = true := by
  refine PT.ind (P := fun T => T.Fits → T.ok = true) (fun k n x s l ih h => ?_) T
  rw [PT.ok, Bool.and_eq_true]
  cases h with
  | null => exact ⟨rfl, rfl⟩
  | bool n h => rcases h with rfl | rfl <;> exact ⟨by decide, rfl⟩
  | int n h =>
    have := decOk_range h
    exact ⟨by unfold nodeF okF zF; simp; omega, rfl⟩
  | dec n x h hx =>
    have := decOk_range h
    exact ⟨by unfold nodeF okF zF; simp [h]; omega, rfl⟩
  | text rs h => exact ⟨by unfold nodeF okF zF; simp [runes_flat], rfl⟩
  | list l h => exact ⟨by unfold nodeF okF zF; simp, okL_of fun t ht => ih t ht (h t ht)⟩
  | map l h he hn => exact ⟨by unfold nodeF okF zF; simp; omega, okL_of fun t ht => ih t ht (h t ht)⟩
end Go.Proofs.Ytnikcgmbkmbloaa
