/- Heads of the compact format: plain facts. No program. -/
import Derived.Test.YtblaaiggmhadfaaDoorBigMath
namespace Go.Proofs.YtblaaiggmhadfaaDoor
/-- a head: major type, argument, width -/
structure Hd where
  k : Int
  n : Int
  w : Int
def hdOk (h : Hd) : Prop := (0 ≤ h.k ∧ h.k ≤ 7) ∧ (0 ≤ h.n ∧ h.n ≤ 1000000000000000) ∧ ((h.w = 0 ∧ h.n ≤ 23) ∨ (widOk h.w ∧ fitB h.n h.w) ∨ (h.w = -1 ∧ h.n = 0 ∧ h.k ≠ 0 ∧ h.k ≠ 1 ∧ h.k ≠ 6))
instance : DecidablePred hdOk := fun h => by unfold hdOk; infer_instance
def hdInfo (h : Hd) : Int := if h.w = -1 then 31 else if h.w = 1 then 24 else if h.w = 2 then 25 else if h.w = 4 then 26 else if h.w = 8 then 27 else h.n
/-- what PutHead appends -/
def hdB (h : Hd) : List UInt8 := if hdOk h then UInt8.ofNat (32 * h.k + hdInfo h).toNat :: be h.n.toNat h.w.toNat else []
def hd0 : Hd := ⟨0, 0, 0⟩
/-- what is read: the head, the place behind it, the code -/
structure HdR where
  h : Hd
  next : Nat
  code : Nat
def badH (c : Nat) : HdR := ⟨hd0, 0, c⟩
def wideH (l : List UInt8) (i k w : Nat) : HdR :=
  if i + 1 + w ≤ l.length then (if val ((l.drop (i + 1)).take w) ≤ 1000000000000000 then ⟨⟨k, val ((l.drop (i + 1)).take w), w⟩, i + 1 + w, 0⟩ else badH 2) else badH 1
def infoH (l : List UInt8) (i k f : Nat) : HdR :=
  if f < 24 then ⟨⟨k, f, 0⟩, i + 1, 0⟩ else if f = 31 then (if k = 0 ∨ k = 1 ∨ k = 6 then badH 1 else ⟨⟨k, 0, -1⟩, i + 1, 0⟩) else if 27 < f then badH 1 else wideH l i k (2 ^ (f - 24))
def getH (l : List UInt8) (i : Nat) : HdR := match l[i]? with
  | none => badH 1
  | some c => infoH l i (c.toNat / 32) (c.toNat % 32)
def hdFor (k n : Int) : Hd := if hdOk ⟨k, n, if n > 23 then widR n else 0⟩ then ⟨k, n, if n > 23 then widR n else 0⟩ else hd0
theorem hdOk_cases {h : Hd} (o : hdOk h) : (0 ≤ h.k ∧ h.k ≤ 7) ∧ (0 ≤ h.n ∧ h.n ≤ 1000000000000000) ∧ ((h.w = 0 ∧ h.n ≤ 23) ∨ (h.w = 1 ∧ h.n < 256) ∨ (h.w = 2 ∧ h.n < 65536) ∨ (h.w = 4 ∧ h.n < 4294967296) ∨ h.w = 8 ∨ (h.w = -1 ∧ h.n = 0 ∧ h.k ≠ 0 ∧ h.k ≠ 1 ∧ h.k ≠ 6)) := by
  obtain ⟨h1, h2, h3⟩ := o
  refine ⟨h1, h2, ?_⟩
  rcases h3 with h3 | ⟨_, h3⟩ | h3
  · exact .inl h3
  · have := fit_un h3; omega
  · omega
theorem hd_of {k n w : Int} (h1 : 0 ≤ k ∧ k ≤ 7) (h2 : 0 ≤ n ∧ n ≤ 1000000000000000) (h3 : (w = 0 ∧ n ≤ 23) ∨ (w = 1 ∧ n < 256) ∨ (w = 2 ∧ n < 65536) ∨ (w = 4 ∧ n < 4294967296) ∨ w = 8 ∨ (w = -1 ∧ n = 0 ∧ k ≠ 0 ∧ k ≠ 1 ∧ k ≠ 6)) : hdOk ⟨k, n, w⟩ := by
  refine ⟨h1, h2, ?_⟩
  simp only
  rcases h3 with h3 | h3 | h3 | h3 | h3 | h3
  · exact .inl h3
  · have : fitB n w := fit_mk (by omega)
    exact .inr (.inl ⟨fit_wid this, this⟩)
  · have : fitB n w := fit_mk (by omega)
    exact .inr (.inl ⟨fit_wid this, this⟩)
  · have : fitB n w := fit_mk (by omega)
    exact .inr (.inl ⟨fit_wid this, this⟩)
  · have : fitB n w := fit_mk (by omega)
    exact .inr (.inl ⟨fit_wid this, this⟩)
  · exact .inr (.inr h3)
theorem hdB_yes {h : Hd} (o : hdOk h) : hdB h = UInt8.ofNat (32 * h.k + hdInfo h).toNat :: be h.n.toNat h.w.toNat := by unfold hdB; rw [if_pos o]
theorem hdB_no {h : Hd} (o : ¬ hdOk h) : hdB h = [] := by unfold hdB; rw [if_neg o]
theorem hdB_len {h : Hd} (o : hdOk h) : (hdB h).length = 1 + h.w.toNat := by rw [hdB_yes o, List.length_cons, be_length]; omega
theorem info_range {h : Hd} (o : hdOk h) : 0 ≤ hdInfo h ∧ hdInfo h ≤ 31 := by
  have := hdOk_cases o
  unfold hdInfo
  split <;> (try split) <;> (try split) <;> (try split) <;> (try split) <;> omega
/-- a head's bytes are read back, with anything around them -/
theorem head_get {h : Hd} (o : hdOk h) (a r : List UInt8) : getH (a ++ (hdB h ++ r)) a.length = ⟨h, a.length + (hdB h).length, 0⟩ := by
  have hr := info_range o
  have hc := hdOk_cases o
  obtain ⟨k, n, w⟩ := h
  simp only at hc
  rw [hdB_len o, hdB_yes o]
  simp only
  unfold getH
  rw [List.cons_append, show (a ++ UInt8.ofNat (32 * k + hdInfo ⟨k, n, w⟩).toNat :: (be n.toNat w.toNat ++ r))[a.length]? = some (UInt8.ofNat (32 * k + hdInfo ⟨k, n, w⟩).toNat) by simp]
  simp only
  have hlt : (32 * k + hdInfo ⟨k, n, w⟩).toNat < 256 := by omega
  have hv : (UInt8.ofNat (32 * k + hdInfo ⟨k, n, w⟩).toNat).toNat = (32 * k + hdInfo ⟨k, n, w⟩).toNat := by
    rw [UInt8.toNat_ofNat']; omega
  rw [hv]
  have hk : (32 * k + hdInfo ⟨k, n, w⟩).toNat / 32 = k.toNat := by omega
  have hf : (32 * k + hdInfo ⟨k, n, w⟩).toNat % 32 = (hdInfo ⟨k, n, w⟩).toNat := by omega
  rw [hk, hf]
  have hkk : ((k.toNat : Nat) : Int) = k := by omega
  have hnn : ((n.toNat : Nat) : Int) = n := by omega
  -- the widths of one, two, four and eight bytes
  have wide : ∀ m : Nat, w = m → n.toNat < 256 ^ m → wideH (a ++ UInt8.ofNat (32 * k + hdInfo ⟨k, n, w⟩).toNat :: (be n.toNat w.toNat ++ r)) a.length k.toNat m = ⟨⟨k, n, w⟩, a.length + (1 + w.toNat), 0⟩ := fun m hm hlt => by
    have hwm : w.toNat = m := by omega
    have hd : ((a ++ UInt8.ofNat (32 * k + hdInfo ⟨k, n, w⟩).toNat :: (be n.toNat w.toNat ++ r)).drop (a.length + 1)).take m = be n.toNat m := by
      rw [show a ++ UInt8.ofNat (32 * k + hdInfo ⟨k, n, w⟩).toNat :: (be n.toNat w.toNat ++ r) = (a ++ [UInt8.ofNat (32 * k + hdInfo ⟨k, n, w⟩).toNat]) ++ (be n.toNat w.toNat ++ r) by simp, show a.length + 1 = (a ++ [UInt8.ofNat (32 * k + hdInfo ⟨k, n, w⟩).toNat]).length by simp, List.drop_left, hwm]
      have := List.take_left (l₁ := be n.toNat m) (l₂ := r)
      rwa [be_length] at this
    unfold wideH
    rw [hd, val_be _ _ hlt, if_pos (by simp [hwm]; omega), if_pos (by omega), hkk, hnn, hwm, ← hm]
    congr 1
    omega
  rcases hc.2.2 with g | g | g | g | g | g
  · have hi : hdInfo ⟨k, n, w⟩ = n := by unfold hdInfo; simp only; rw [if_neg (by omega), if_neg (by omega), if_neg (by omega), if_neg (by omega), if_neg (by omega)]
    rw [hi]
    unfold infoH
    rw [if_pos (by omega), hkk, hnn, g.1]; rfl
  · have hi : hdInfo ⟨k, n, w⟩ = 24 := by unfold hdInfo; simp only; rw [if_neg (by omega), if_pos (by omega)]
    have := wide 1 g.1 (by omega)
    rw [hi] at this ⊢
    exact this
  · have hi : hdInfo ⟨k, n, w⟩ = 25 := by unfold hdInfo; simp only; rw [if_neg (by omega), if_neg (by omega), if_pos (by omega)]
    have := wide 2 g.1 (by omega)
    rw [hi] at this ⊢
    exact this
  · have hi : hdInfo ⟨k, n, w⟩ = 26 := by unfold hdInfo; simp only; rw [if_neg (by omega), if_neg (by omega), if_neg (by omega), if_pos (by omega)]
    have := wide 4 g.1 (by omega)
    rw [hi] at this ⊢
    exact this
  · have hi : hdInfo ⟨k, n, w⟩ = 27 := by unfold hdInfo; simp only; rw [if_neg (by omega), if_neg (by omega), if_neg (by omega), if_neg (by omega), if_pos (by omega)]
    have := wide 8 g (by omega)
    rw [hi] at this ⊢
    exact this
  · have hi : hdInfo ⟨k, n, w⟩ = 31 := by unfold hdInfo; simp only; rw [if_pos (by omega)]
    rw [hi]
    unfold infoH
    rw [if_neg (by decide), if_pos (by decide), if_neg (by omega), hkk, g.1, g.2.1]; rfl
theorem wide_ok {l : List UInt8} {i k w : Nat} (hk : k ≤ 7) (hw : w = 1 ∨ w = 2 ∨ w = 4 ∨ w = 8) (h : (wideH l i k w).code = 0) :
    hdOk (wideH l i k w).h ∧ (wideH l i k w).next = i + 1 + w ∧ (wideH l i k w).next ≤ l.length ∧ (wideH l i k w).h.k = k ∧ (wideH l i k w).h.w = w ∧ be (wideH l i k w).h.n.toNat w = (l.drop (i + 1)).take w := by
  unfold wideH at h ⊢
  by_cases h1 : i + 1 + w ≤ l.length
  · rw [if_pos h1] at h ⊢
    by_cases h2 : val ((l.drop (i + 1)).take w) ≤ 1000000000000000
    · rw [if_pos h2] at h ⊢
      have hlen : ((l.drop (i + 1)).take w).length = w := by simp; omega
      have hlt := val_lt ((l.drop (i + 1)).take w)
      rw [hlen] at hlt
      have hb := be_val ((l.drop (i + 1)).take w)
      rw [hlen] at hb
      refine ⟨hd_of (by omega) (by omega) ?_, rfl, h1, rfl, rfl, by simpa using hb⟩
      rcases hw with rfl | rfl | rfl | rfl <;> simp at hlt ⊢ <;> omega
    · rw [if_neg h2] at h; cases h
  · rw [if_neg h1] at h; cases h
/-- what is read is a right head, and its bytes are those that were read -/
theorem get_ok {l : List UInt8} {i : Nat} (h : (getH l i).code = 0) : hdOk (getH l i).h ∧ i < (getH l i).next ∧ (getH l i).next ≤ l.length ∧ hdB (getH l i).h = (l.drop i).take ((getH l i).next - i) := by
  unfold getH at h ⊢
  cases hc : l[i]? with
  | none => rw [hc] at h; cases h
  | some c =>
    rw [hc] at h
    simp only at h ⊢
    have hi : i < l.length := (List.getElem?_eq_some_iff.1 hc).1
    have hci : l[i] = c := (List.getElem?_eq_some_iff.1 hc).2
    have h256 := UInt8.toNat_lt c
    have one : ∀ (hd : Hd), hdOk hd → hd.w ≤ 0 → 32 * hd.k + hdInfo hd = c.toNat → hdOk hd ∧ i < i + 1 ∧ i + 1 ≤ l.length ∧ hdB hd = (l.drop i).take (i + 1 - i) := fun hd o hw hs => by
      refine ⟨o, by omega, hi, ?_⟩
      rw [hdB_yes o, hs, show hd.w.toNat = 0 by omega, show i + 1 - i = 1 by omega, List.drop_eq_getElem_cons hi, hci]
      simp [be]
    unfold infoH at h ⊢
    by_cases h24 : c.toNat % 32 < 24
    · rw [if_pos h24] at h ⊢
      exact one _ (hd_of (by omega) (by omega) (.inl ⟨rfl, by omega⟩)) (by simp) (by
        unfold hdInfo; simp only
        rw [if_neg (by omega), if_neg (by omega), if_neg (by omega), if_neg (by omega), if_neg (by omega)]; omega)
    rw [if_neg h24] at h ⊢
    by_cases h31 : c.toNat % 32 = 31
    · rw [if_pos h31] at h ⊢
      by_cases hk : c.toNat / 32 = 0 ∨ c.toNat / 32 = 1 ∨ c.toNat / 32 = 6
      · rw [if_pos hk] at h; cases h
      · rw [if_neg hk] at h ⊢
        exact one _ (hd_of (by omega) (by omega) (.inr (.inr (.inr (.inr (.inr ⟨rfl, rfl, by omega, by omega, by omega⟩)))))) (by simp) (by
          unfold hdInfo; simp only
          rw [if_pos trivial]; omega)
    rw [if_neg h31] at h ⊢
    by_cases h27 : 27 < c.toNat % 32
    · rw [if_pos h27] at h; cases h
    rw [if_neg h27] at h ⊢
    have hw : 2 ^ (c.toNat % 32 - 24) = 1 ∨ 2 ^ (c.toNat % 32 - 24) = 2 ∨ 2 ^ (c.toNat % 32 - 24) = 4 ∨ 2 ^ (c.toNat % 32 - 24) = 8 := by
      have : c.toNat % 32 = 24 ∨ c.toNat % 32 = 25 ∨ c.toNat % 32 = 26 ∨ c.toNat % 32 = 27 := by omega
      rcases this with e | e | e | e <;> rw [e] <;> decide
    obtain ⟨q1, q2, q3, q4, q5, q6⟩ := wide_ok (by omega) hw h
    have hinf : 32 * (wideH l i (c.toNat / 32) (2 ^ (c.toNat % 32 - 24))).h.k + hdInfo (wideH l i (c.toNat / 32) (2 ^ (c.toNat % 32 - 24))).h = c.toNat := by
      unfold hdInfo
      rw [q4, q5]
      have : c.toNat % 32 = 24 ∨ c.toNat % 32 = 25 ∨ c.toNat % 32 = 26 ∨ c.toNat % 32 = 27 := by omega
      rcases this with e | e | e | e <;> rw [e] <;> simp <;> omega
    refine ⟨q1, by omega, q3, ?_⟩
    rw [hdB_yes q1, hinf, q5, show ((2 ^ (c.toNat % 32 - 24) : Nat) : Int).toNat = 2 ^ (c.toNat % 32 - 24) by omega, q6, q2, List.drop_eq_getElem_cons hi, hci, show i + 1 + 2 ^ (c.toNat % 32 - 24) - i = 2 ^ (c.toNat % 32 - 24) + 1 by omega, List.take_succ_cons]
    simp
/-- the shortest head of an argument -/
theorem for_ok {h : Hd} (o : hdOk h) (hw : 0 ≤ h.w) : hdOk (hdFor h.k h.n) ∧ (hdB (hdFor h.k h.n)).length ≤ (hdB h).length := by
  have hc := hdOk_cases o
  obtain ⟨k, n, w⟩ := h
  simp only at hc hw ⊢
  have ok : hdOk ⟨k, n, if n > 23 then widR n else 0⟩ := by
    refine hd_of hc.1 hc.2.1 ?_
    by_cases hn : n > 23
    · rw [if_pos hn]
      unfold widR
      rw [if_neg (by omega)]
      split
      · exact .inr (.inl ⟨rfl, by omega⟩)
      · split
        · exact .inr (.inr (.inl ⟨rfl, by omega⟩))
        · split
          · exact .inr (.inr (.inr (.inl ⟨rfl, by omega⟩)))
          · exact .inr (.inr (.inr (.inr (.inl rfl))))
    · rw [if_neg hn]; exact .inl ⟨rfl, by omega⟩
  unfold hdFor
  rw [if_pos ok]
  refine ⟨ok, ?_⟩
  rw [hdB_len ok, hdB_len o]
  simp only
  have : (if n > 23 then widR n else 0) ≤ w := by
    by_cases hn : n > 23
    · rw [if_pos hn]
      unfold widR
      rw [if_neg (by omega)]
      split
      · omega
      · split
        · omega
        · split <;> omega
    · rw [if_neg hn]; exact hw
  omega
end Go.Proofs.YtblaaiggmhadfaaDoor
