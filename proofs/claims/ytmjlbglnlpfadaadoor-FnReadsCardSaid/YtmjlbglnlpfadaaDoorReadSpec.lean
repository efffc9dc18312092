/- What the model's l4Digits, l4Value and ReadNumber return. -/
import Derived.Test.YtmjlbglnlpfadaaDoorJoinNum
namespace Go.Proofs.YtmjlbglnlpfadaaDoor
open Go.RowKit
theorem isD_in (c : UInt8) : decide ((48 : Int) ≤ (c.toNat : Int) ∧ (c.toNat : Int) ≤ 57) = isD c := by
  unfold isD; rw [decide_eq_decide]; omega
set_option maxRecDepth 100000 in
theorem l4digits_any (l : List UInt8) (i : Nat) (w : World) (hi : i ≤ l.length) (hl : l.length ≤ 1048576) : Calls Tryd.prog 38 #[.string ⟨l.toArray⟩, .int .i64 i] w fun e w' => e = .returned (.int .i64 (dEnd l i)) ∧ w = w' := by
  have hL : (l.length : Int) ≤ 1048576 := by omega
  have hI : (i : Int) ≤ l.length := by omega
  go_enter Tryd.func38, Tryd.ntmps38
  go_wp2
  go_loop [1] (fun t => ∃ k : Nat, t = .int .i64 k ∧ Hid (dEnd l k = dEnd l i) ∧ (k : Int) ≤ l.length) (fun t => l.length - (intOf t).toNat)
  case atStart => exact ⟨i, rfl, Lib.hid rfl, hI⟩
  case round =>
    obtain ⟨k, rfl, he, hk⟩ := hrel
    by_cases hlt : (k : Int) < l.length
    · have hkl : k < l.length := by omega
      have ix := fun W1 => str_index l k hkl W1
      have hx : decide ((48 : Int) ≤ ((l[k]).toNat : Int) ∧ ((l[k]).toNat : Int) ≤ 57) = atD l k := by rw [isD_in, atD_get hkl]
      have hx2 : ((l[k]).toNat : Int) ≤ 255 := by have := (l[k]).toNat_lt; omega
      generalize (l[k]).toNat = x at *
      have ci := fun w1 => in_any (x : Int) 48 57 w1
      rw [hx] at ci
      clear hx
      cases hd : atD l k
      · rw [hd] at ci
        have hE : Hid (k = dEnd l i) := Lib.hid (by rw [← he.out, dEnd_stop hd])
        clear he hd
        go_wp2_with (go_at_call 30; refine (ci _).mono ?_; rintro e w' ⟨rfl, rfl⟩)
        go_ret
        exact ⟨by rw [← hE.out]; rfl, rfl⟩
      · rw [hd] at ci
        have he2 : Hid (dEnd l (k + 1) = dEnd l i) := Lib.hid (by rw [← he.out, dEnd_step hd])
        clear he hd
        go_wp2_with (go_at_call 30; refine (ci _).mono ?_; rintro e w' ⟨rfl, rfl⟩)
        go_round
        case rel => exact ⟨k + 1, by go_num, he2, by omega⟩
        case measure => simp [intOf]; omega
    · have hE : Hid (k = dEnd l i) := Lib.hid (by rw [← he.out, dEnd_stop (atD_out (by omega))])
      clear he
      go_wp2
      go_ret
      exact ⟨by rw [← hE.out]; rfl, rfl⟩
theorem lead_snoc (t : List UInt8) (c : UInt8) : lead (t ++ [c]) = if lead t = [] ∧ c = 48 then [] else lead t ++ [c] := by
  induction t with
  | nil =>
    unfold lead
    by_cases h : c = 48
    · subst h; rfl
    · rw [if_neg (by intro e; exact h e.2)]
      show List.dropWhile (· == 48) [c] = [] ++ [c]
      rw [List.dropWhile_cons, if_neg (by simpa using h)]; rfl
  | cons d r ih =>
    by_cases h : d = 48
    · subst h; exact ih
    · have e1 : lead (d :: r ++ [c]) = d :: r ++ [c] := by unfold lead; rw [List.cons_append, List.dropWhile_cons, if_neg (by simpa using h)]
      have e2 : lead (d :: r) = d :: r := by unfold lead; rw [List.dropWhile_cons, if_neg (by simpa using h)]
      rw [e1, e2, if_neg (by intro e; cases e.1)]
theorem lead_take (l : List UInt8) (k : Nat) : (lead (l.take k)).length ≤ (lead l).length := by
  induction l generalizing k with
  | nil => rw [List.take_nil]; exact Nat.le_refl _
  | cons c r ih =>
    cases k with
    | zero => exact Nat.zero_le _
    | succ k =>
      rw [List.take_succ_cons]
      by_cases h : c = 48
      · subst h; exact ih k
      · have e2 : ∀ s, lead (c :: s) = c :: s := fun s => by unfold lead; rw [List.dropWhile_cons, if_neg (by simpa using h)]
        rw [e2, e2]; simp; omega
def l4V (l : List UInt8) (most : Nat) : Value := if (lead l).length ≤ most then .tuple #[.int .i64 (decVal 0 l), .bool true] else .tuple #[.int .i64 0, .bool false]
theorem l4V_no {l : List UInt8} {m : Nat} (h : ¬ (lead l).length ≤ m) : l4V l m = .tuple #[.int .i64 0, .bool false] := by unfold l4V; rw [if_neg h]
theorem l4V_yes {l : List UInt8} {m : Nat} (h : (lead l).length ≤ m) : l4V l m = .tuple #[.int .i64 (decVal 0 l), .bool true] := by unfold l4V; rw [if_pos h]
theorem lead_val {l : List UInt8} (hd : ∀ c ∈ l, isD c = true) (h : (lead l).length ≤ 17) : decVal 0 l < 100000000000000000 := by
  rw [← decVal_lead]; exact val_lt17 (lead_mem hd) h
set_option maxRecDepth 100000 in
set_option maxHeartbeats 1000000 in
theorem l4value_any (l : List UInt8) (most : Nat) (w : World) (hd : ∀ c ∈ l, isD c = true) (hm : most ≤ 17) (hl : l.length ≤ 2097152) : Calls Tryd.prog 39 #[.string ⟨l.toArray⟩, .int .i64 most] w fun e w' => e = .returned (l4V l most) ∧ w = w' := by
  have hL : (l.length : Int) ≤ 2097152 := by omega
  have hM : (most : Int) ≤ 17 := by omega
  have HD := Lib.hid hd
  clear hd hl
  go_enter Tryd.func39, Tryd.ntmps39
  go_wp2
  go_loop [6, 7, 8] (fun a b t => ∃ n k i : Nat, a = .int .i64 n ∧ b = .int .i64 k ∧ t = .int .i64 i ∧ (i : Int) ≤ l.length ∧ (k : Int) ≤ most ∧ Hid (n = decVal 0 (l.take i) ∧ k = (lead (l.take i)).length)) (fun _ _ t => l.length - (intOf t).toNat)
  case atStart => exact ⟨0, 0, 0, rfl, rfl, rfl, by omega, by omega, Lib.hid ⟨rfl, rfl⟩⟩
  case round =>
    obtain ⟨n, k, i, rfl, rfl, rfl, hi, hk, hr⟩ := hrel
    by_cases hlt : (i : Int) < l.length
    · have hil : i < l.length := by omega
      obtain ⟨h1, h2⟩ := hr.out
      have hnb := lead_val (l := l.take i) (fun c hc => HD.out c (List.mem_of_mem_take hc)) (by omega)
      rw [← h1] at hnb
      have hv := val_take hil
      rw [← h1] at hv
      have hs := lead_snoc (l.take i) l[i]
      rw [← List.take_succ_eq_append_getElem hil] at hs
      have hx := isD_iff (HD.out l[i] (List.getElem_mem hil))
      unfold isDig at hx
      have ix := fun W1 => str_index l i hil W1
      obtain ⟨x, hxe⟩ : ∃ x : Nat, x = (l[i]).toNat := ⟨_, rfl⟩
      have h48 : l[i] = 48 ↔ x = 48 := by
        rw [hxe]; constructor
        · intro e; rw [e]; rfl
        · intro e; exact UInt8.toNat_inj.1 e
      rw [← hxe] at hx ix hv
      have x0 : (48 : Int) ≤ x := by omega
      have x1 : (x : Int) ≤ 57 := by omega
      have hn0 : (n : Int) ≤ 100000000000000000 := by omega
      have wu : IntKind.u8.wrap ((x : Int) - 48) = (x : Int) - 48 := IntWalk.u8_in _ (by omega)
      by_cases hz : x = 48 ∧ k = 0
      · obtain ⟨hz1, hz2⟩ := hz
        have hnew : Hid (n * 10 + (x - 48) = decVal 0 (l.take (i + 1)) ∧ k = (lead (l.take (i + 1))).length) := Lib.hid ⟨hv.symm, by rw [hs, if_pos ⟨List.length_eq_zero_iff.1 (by omega), h48.2 hz1⟩]; exact hz2⟩
        have b1 : ((x : Int) != 48) = false := by rw [hz1]; rfl
        have b2 : ¬ (0 : Int) < k := by omega
        clear hx h1 h2 hr hv hs h48 hnb hxe hm hil hz1 hz2
        go_wp2
        go_round
        case rel => exact ⟨n * 10 + (x - 48), k, i + 1, by congr 1; omega, rfl, by go_num, by omega, hk, hnew⟩
        case measure => simp [intOf]; omega
      · have hlen : (lead (l.take (i + 1))).length = k + 1 := by
          rw [hs, if_neg (by intro e; exact hz ⟨h48.1 e.2, by rw [h2, e.1]; rfl⟩), List.length_append, ← h2]; rfl
        by_cases hkm : (k : Int) + 1 ≤ most
        · have hnew : Hid (n * 10 + (x - 48) = decVal 0 (l.take (i + 1)) ∧ k + 1 = (lead (l.take (i + 1))).length) := Lib.hid ⟨hv.symm, hlen.symm⟩
          clear hx h1 h2 hr hv hs h48 hnb hxe hlen hm hil
          by_cases hx48 : x = 48
          · have b1 : ((x : Int) != 48) = false := by rw [hx48]; rfl
            have b2 : (0 : Int) < k := by omega
            clear hz
            go_wp2
            go_round
            case rel => exact ⟨n * 10 + (x - 48), k + 1, i + 1, by congr 1; omega, by go_num, by go_num, by omega, by omega, hnew⟩
            case measure => simp [intOf]; omega
          · have b1 : ((x : Int) != 48) = true := by simp; omega
            clear hz
            go_wp2
            go_round
            case rel => exact ⟨n * 10 + (x - 48), k + 1, i + 1, by congr 1; omega, by go_num, by go_num, by omega, by omega, hnew⟩
            case measure => simp [intOf]; omega
        · have hno : Hid (l4V l most = .tuple #[.int .i64 0, .bool false]) := Lib.hid (l4V_no (by have := lead_take l (i + 1); omega))
          clear hx h1 h2 hr hv hs h48 hnb hxe hlen hm hil
          by_cases hx48 : x = 48
          · have b1 : ((x : Int) != 48) = false := by rw [hx48]; rfl
            have b2 : (0 : Int) < k := by omega
            clear hz
            go_wp2
            go_ret2
            exact ⟨by rw [hno.out]; rfl, rfl⟩
          · have b1 : ((x : Int) != 48) = true := by simp; omega
            clear hz
            go_wp2
            go_ret2
            exact ⟨by rw [hno.out]; rfl, rfl⟩
    · have hyes : Hid (l4V l most = .tuple #[.int .i64 n, .bool true]) := Lib.hid (by
        obtain ⟨h1, h2⟩ := hr.out
        rw [List.take_of_length_le (by omega)] at h1 h2
        rw [l4V_yes (by omega), h1])
      clear hr
      go_wp2
      go_ret2
      exact ⟨by rw [hyes.out]; rfl, rfl⟩
end Go.Proofs.YtmjlbglnlpfadaaDoor
