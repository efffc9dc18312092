/- A fact on lists: one more element of a copy. -/
import Derived.Test.YtilgncebhgplaaaRows
namespace Go.Proofs.Ytilgncebhgplaaa
theorem fill_set {α : Type} (xs z : List α) (k : Nat) (hk : k < xs.length) (hz : xs.length = z.length) : (xs.take k ++ z.drop k).set k xs[k] = xs.take (k + 1) ++ z.drop (k + 1) := by
  have hzk : k < z.length := by omega
  rw [List.set_append]
  have h1 : (xs.take k).length = k := by simp; omega
  rw [h1, if_neg (by omega), Nat.sub_self, List.drop_eq_getElem_cons hzk, List.set_cons_zero, List.take_succ_eq_append_getElem hk, List.append_assoc]
  rfl
end Go.Proofs.Ytilgncebhgplaaa
