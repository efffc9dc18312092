/- A piece of bytes in new memory: the program's and the model's answers. -/
import Derived.Test.YtnbknhbboofiiaaBig
import Derived.Test.YtnbknhbboofiiaaCut
import Derived.Test.YtnbknhbboofiiaaJoin
namespace Go.Proofs.Ytnbknhbboofiiaa
open Go.RowKit
def pieceL (l : List UInt8) (a n : Int) : List UInt8 := if holdB l.length a n then (l.drop a.toNat).take n.toNat else []
theorem pieceL_yes {l : List UInt8} {a n : Int} (h : holdB l.length a n) : pieceL l a n = (l.drop a.toNat).take n.toNat := by unfold pieceL; rw [if_pos h]
theorem pieceL_no {l : List UInt8} {a n : Int} (h : ¬ holdB l.length a n) : pieceL l a n = [] := by unfold pieceL; rw [if_neg h]
theorem pieceL_len (l : List UInt8) (a n : Int) : (pieceL l a n).length ≤ l.length := by
  unfold pieceL; split
  · rw [List.length_take, List.length_drop]; omega
  · exact Nat.zero_le _
def FreshT (w : World) (l : List UInt8) (t : Bool) (e : Ending) (w' : World) : Prop := ∃ v', e = .returned (.tuple #[v', .bool t]) ∧ v' ≠ .slice none 0 0 ∧ w'.ownsRow w.heap.size 5 1 v' l.length (bv l) ∧ Below w.heap.size w w'
theorem fresh_nil (w : World) : FreshT w [] false (.returned (.tuple #[.slice (some ⟨w.heap.size, 0, none⟩) 0 0, .bool false])) (w.alloc (.cells #[] 5)) :=
  ⟨_, rfl, (by intro e; cases e), World.ownsRow_made w #[] 0 (Nat.le_refl _) (by decide) rfl, below_alloc w _⟩
theorem slice_impl (w : World) (b o cap : Nat) (l : List UInt8) (a n : Int) (hc : ∀ j u, (bv l)[j]? = some u → w.cell? ⟨b, o + j, none⟩ = some u) (hcap : l.length ≤ cap) (hm : cap ≤ maxLen) (hl : l.length ≤ 1099511627776) (ha : a ≤ 9223372036854775807) :
    Calls Try.prog 28 #[.slice (some ⟨b, o, none⟩) l.length cap, .int .i64 a, .int .i64 n] w (FreshT w (pieceL l a n) (decide (holdB l.length a n))) := by
  by_cases h : holdB l.length a n
  · rw [pieceL_yes h, decide_eq_true h]
    have c1 := holds_yes (ad := some ⟨b, o, none⟩) (cap := cap) h (by omega) w
    obtain ⟨h1, h2, h3⟩ := h
    obtain ⟨i, rfl⟩ : ∃ i : Nat, a = i := ⟨a.toNat, by omega⟩
    obtain ⟨k, rfl⟩ : ∃ k : Nat, n = k := ⟨n.toNat, by omega⟩
    have c2 := cut_any w b o cap l i k hc (by omega) hcap hm
    simp only [Int.toNat_natCast]
    have hs : ((l.drop i).take k).length = k := by rw [List.length_take, List.length_drop]; omega
    generalize (l.drop i).take k = s at *
    have HS := Lib.hid hs
    have hk40 : k ≤ 1099511627776 := by omega
    clear hs hc h1 h2 h3 ha
    go_enter Try.func28, Try.ntmps28
    go_wp2_with fail
    refine c1.mono ?_
    rintro e w' ⟨rfl, rfl⟩
    go_wp2_with fail
    refine c2.mono ?_
    rintro e w' ⟨o', rfl, hc, rfl⟩
    have HK40 := Lib.hid hk40
    have cj := joined_any w (.slice (some ⟨b, o', none⟩) k k) (.slice none 0 0) s [] ⟨b, o', k, by rw [bv_length, HS.out], hc⟩ (.inl ⟨rfl, rfl⟩) (by have := HS.out; omega) (by simp)
    rw [List.append_nil] at cj
    clear c1 c2 hc hk40
    go_wp2_with fail
    refine cj.mono ?_
    rintro e w' ⟨v', rfl, hn, ho, hb⟩
    have HR := Lib.hid (And.intro hn (And.intro ho hb))
    clear hn ho hb cj
    go_wp2
    go_ret2
    exact ⟨_, rfl, HR.out.1, HR.out.2.1, HR.out.2.2⟩
  · rw [pieceL_no h, decide_eq_false h]
    have c1 := holds_no (ad := some ⟨b, o, none⟩) (cap := cap) h (by omega) ha w
    clear h hc
    go_enter Try.func28, Try.ntmps28
    go_wp2_with fail
    refine c1.mono ?_
    rintro e w' ⟨rfl, rfl⟩
    go_wp2
    go_ret2
    exact fresh_nil w
theorem slice_spec (w : World) (b o cap : Nat) (l : List UInt8) (a n : Int) (hc : ∀ j u, (bv l)[j]? = some u → w.cell? ⟨b, o + j, none⟩ = some u) (hcap : l.length ≤ cap) (hm : cap ≤ maxLen) (hl : l.length ≤ 1099511627776) (ha : a ≤ 9223372036854775807) :
    Calls Try.prog 29 #[.slice (some ⟨b, o, none⟩) l.length cap, .int .i64 a, .int .i64 n] w (FreshT w (pieceL l a n) (decide (holdB l.length a n))) := by
  obtain ⟨i0, hi, hz0, hz1, hz2⟩ := info_parts byteInfo'
  have hlz : (l.length : Int) ≤ 1099511627776 := by omega
  by_cases h : holdB l.length a n
  · rw [pieceL_yes h, decide_eq_true h]
    obtain ⟨h1, h2, h3⟩ := h
    obtain ⟨i, rfl⟩ : ∃ i : Nat, a = i := ⟨a.toNat, by omega⟩
    obtain ⟨k, rfl⟩ : ∃ k : Nat, n = k := ⟨n.toNat, by omega⟩
    simp only [Int.toNat_natCast]
    have hs : ((l.drop i).take k).length = k := by rw [List.length_take, List.length_drop]; omega
    have g1 : (i : Int) ≤ l.length := by omega
    have g2 : ¬ (l.length : Int) - i < k := by omega
    have g3 : (i : Int) ≤ i + k := by omega
    have g4 : (i : Int) + k ≤ cap := by omega
    have g5 : (cap : Int) ≤ 9223372036854775807 := by unfold maxLen at hm; omega
    have HC := Lib.hid (fun j u => sub_cells (i := i) (k := k) hc j u)
    generalize (l.drop i).take k = s at *
    have HS := Lib.hid hs
    have hk40 : k ≤ 1099511627776 := by omega
    have HK := Lib.hid hk40
    have g6 : ¬ (i : Int) < 0 := by omega
    have g7 : ¬ (k : Int) < 0 := by omega
    have g8 : ¬ (l.length : Int) < i := by omega
    have C1 := Lib.hid (fun o' (j : Nat) (u : Value) (hu : (bv s)[j]? = some u) => (by rw [addr_add, (below_alloc w o').cell (p := ⟨b, o + i + j, none⟩) (cell_lt (HC.out j u hu))]; exact HC.out j u hu : (w.alloc o').cell? ((⟨b, o + i, none⟩ : Addr).add j) = some u))
    by_cases hk0 : k = 0
    · subst hk0
      obtain rfl : s = [] := List.eq_nil_of_length_eq_zero hs
      clear hs hc h1 h2 h3 ha hm hl hk40 hcap HK HS HC C1
      by_cases hci : cap = i
      · go_enter Try.func29, Try.ntmps29
        go_wp2
        go_ret2
        exact ⟨_, rfl, (by intro e; cases e), World.ownsRow_made w #[] 0 (Nat.le_refl _) (by decide) rfl, below_alloc w _⟩
      · go_enter Try.func29, Try.ntmps29
        go_wp2
        go_ret2
        exact ⟨_, rfl, (by intro e; cases e), World.ownsRow_made w #[] 0 (Nat.le_refl _) (by decide) rfl, below_alloc w _⟩
    · have hci : ¬ cap = i := by omega
      clear hs hc h1 h2 h3 ha hm hl hk40 hcap
      go_enter Try.func29, Try.ntmps29
      go_wp2_with (at_builtin; refine wpList_append_own _ rfl _ _ 22 rfl w.heap.size 5 i0 (.int .u8 0) 1 1 Try.underlying22 hi hz0 hz1 hz2 rfl (by decide) _ _ _ rfl (World.ownsRow_made w #[] 0 (Nat.le_refl _) (by decide) rfl) ⟨b, o + i, none⟩ (i + k - i) _ (bv s) rfl ?c0 (C1.out _) (bv_cell s) ?c3 ?c4 ?c5 ?_)
      case c0 => exact HS.out
      all_goals try (have := HK.out; first | omega | (unfold maxLen; omega))
      intro v1 w1 hown hgrow hnil
      have hb1 : Below w.heap.size w w1 := (below_alloc w _).trans (grown_belowN hgrow (by simp) (by simp [Value.ownBlock]))
      have HR := Lib.hid (And.intro hnil (And.intro hown hb1))
      clear hgrow hnil hown hb1
      go_wp2
      go_ret2
      exact ⟨_, rfl, (by simpa using HR.out.1), (by rw [HS.out]; simpa using HR.out.2.1), HR.out.2.2⟩
  · rw [pieceL_no h, decide_eq_false h]
    by_cases h1 : a < 0
    · clear h hc hm hl hcap
      go_enter Try.func29, Try.ntmps29
      go_wp2
      go_ret2
      exact fresh_nil w
    by_cases h2 : n < 0
    · clear h hc hm hl hcap
      go_enter Try.func29, Try.ntmps29
      go_wp2
      go_ret2
      exact fresh_nil w
    by_cases h3 : (l.length : Int) < a
    · clear h hc hm hl hcap
      go_enter Try.func29, Try.ntmps29
      go_wp2
      go_ret2
      exact fresh_nil w
    · have h4 : (l.length : Int) - a < n := by have : ¬ n ≤ l.length - a := fun k => h ⟨by omega, by omega, k⟩; omega
      clear h hc hm hl hcap
      go_enter Try.func29, Try.ntmps29
      go_wp2
      go_ret2
      exact fresh_nil w
end Go.Proofs.Ytnbknhbboofiiaa
