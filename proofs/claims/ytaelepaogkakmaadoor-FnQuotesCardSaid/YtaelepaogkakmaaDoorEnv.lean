/- What reading quoted text wants of the package-level variables: the tables of unicode/utf8, and strconv's error of the syntax. -/
import Derived.Test.YtaelepaogkakmaaDoorDecode
import Derived.Test.YtaelepaogkakmaaDoorTabs
namespace Go.Proofs.YtaelepaogkakmaaDoor
open Go.RowKit
def Env (w : World) : Prop := Tabs w ∧ ∃ ts ps, w.var? Tryd.prog "strconv.ErrSyntax" = some #[.iface ts ps]
theorem evar_below {P : Program} {w w' : World} {n : String} {cs : Array Value} (hb : Below w.heap.size w w') (h : w.var? P n = some cs) : w'.var? P n = some cs := by
  unfold World.var? at h ⊢
  cases hg : P.globalNamed n with
  | none => rw [hg] at h; cases h
  | some g =>
    rw [hg] at h
    have hlt : g < w.heap.size := by
      rcases Nat.lt_or_ge g w.heap.size with h' | h'
      · exact h'
      · simp [Array.getElem?_eq_none h'] at h
    simp only [Option.bind_some] at h ⊢
    rw [hb.block g hlt]
    exact h
theorem Env.below {w w' : World} (h : Env w) (hb : Below w.heap.size w w') : Env w' := by
  obtain ⟨hT, ts, ps, hS⟩ := h
  exact ⟨hT.below hb, ts, ps, evar_below hb hS⟩
theorem env_of {a b c : String × DataW Unit} {r : List (String × DataW Unit)} {W : World} (h : laidMet Tryd.prog (a :: b :: c :: ("unicode/utf8.acceptRanges", Rows.laid_unicode_utf8_acceptRanges) :: ("strconv.ErrRange", Rows.laid_strconv_ErrRange) :: ("strconv.ErrSyntax", Rows.laid_strconv_ErrSyntax) :: ("unicode/utf8.first", Rows.laid_unicode_utf8_first) :: r) W) : Env W := by
  have h1 := h.tail.tail.tail.tail.tail
  obtain ⟨a1, _, hv1, _⟩ := laid_sentinel h1 gES gESType Tryd.underlying62 rowErr Tryd.underlying94 Tryd.underlying96 rfl rfl Tryd.underlying9 cellsErr cellsStr
  have e1 : (Rows.laid_unicode_utf8_first : DataW Unit) = Lib.firstData := by kernel_rfl
  have e2 : (Rows.laid_unicode_utf8_acceptRanges : DataW Unit) = Lib.acceptData := by kernel_rfl
  rw [e1, e2] at h
  refine ⟨utf8Tabs_of_readsT (P := Tryd.prog) (ρ := U8ren) ⟨Tryd.underlying5, Tryd.underlying89, Tryd.underlying91, Tryd.underlying92⟩ ⟨by kernel_rfl, by kernel_rfl, by kernel_rfl, by kernel_rfl, by kernel_rfl, by kernel_rfl, by kernel_rfl⟩
    (Lib.laidMet.reads h (.tail _ (.tail _ (.tail _ (.tail _ (.tail _ (.tail _ (.head _)))))))) (Lib.laidMet.reads h (.tail _ (.tail _ (.tail _ (.head _))))), _, _, hv1⟩
theorem decode_string (l : List UInt8) (i : Nat) (hi : i < l.length) (w : World) (hT : Tabs w) : Calls Tryd.prog 69 #[.string ((ByteArray.mk l.toArray).extract i l.length)] w fun e w' => e = .returned (.tuple #[.int .i32 (dec l i).1, .int .i64 (dec l i).2]) ∧ Below w.heap.size w w' := by
  have h := Tryd.utf8_DecodeRuneInString ((ByteArray.mk l.toArray).extract i l.length) w hT
  have hx : (ByteArray.mk l.toArray).extract i l.length = ⟨(l.drop i).toArray⟩ := by
    apply ByteArray.ext
    rw [ByteArray.data_extract]
    apply Array.ext'
    rw [Array.toList_extract]
    show (l.drop i).take (l.length - i) = l.drop i
    rw [List.take_of_length_le (by simp)]
  have e : Lib.decodeGo ((ByteArray.mk l.toArray).extract i l.length) = dec l i := by
    rw [hx]
    unfold Lib.decodeGo
    rw [if_neg (by rw [size_m]; simp; omega)]
    exact dec_drop0 l i
  rw [e] at h
  exact h
theorem decode_string_end (l : List UInt8) (i : Nat) (hi : i = l.length) (w : World) (hT : Tabs w) : Calls Tryd.prog 69 #[.string ((ByteArray.mk l.toArray).extract i l.length)] w fun e w' => e = .returned (.tuple #[.int .i32 65533, .int .i64 0]) ∧ Below w.heap.size w w' := by
  have h := Tryd.utf8_DecodeRuneInString ((ByteArray.mk l.toArray).extract i l.length) w hT
  have hx : (ByteArray.mk l.toArray).extract i l.length = ⟨([] : List UInt8).toArray⟩ := by
    subst hi
    apply ByteArray.ext
    rw [ByteArray.data_extract]
    apply Array.ext'
    rw [Array.toList_extract]
    simp
  have e : Lib.decodeGo ((ByteArray.mk l.toArray).extract i l.length) = (65533, 0) := by
    rw [hx]
    rfl
  rw [e] at h
  exact h
end Go.Proofs.YtaelepaogkakmaaDoor
