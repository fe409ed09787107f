/- Layer 12: the words of the language, as the listed package variable holds them. -/
import Derived.Test.YtagangneoibbcaaDoorLyLaid
import Derived.Test.YtagangneoibbcaaDoorLyTk
set_option linter.unusedVariables false
namespace Go.Proofs.YtagangneoibbcaaDoor
set_option maxRecDepth 100000
open Go.ChangeShapes Go.WideShapes Go.ChangeAt Go.RowKit

def wordsL : List ByteArray := [⟨#[97, 100, 100]⟩, ⟨#[98, 111, 111, 108]⟩, ⟨#[98, 121, 116, 101, 115]⟩, ⟨#[99, 104, 97, 110, 103, 101]⟩, ⟨#[100, 101, 108]⟩, ⟨#[101, 108, 115, 101]⟩, ⟨#[102, 97, 108, 115, 101]⟩, ⟨#[102, 111, 114]⟩, ⟨#[103, 101, 116]⟩, ⟨#[104, 97, 115]⟩, ⟨#[104, 101, 108, 112, 101, 114]⟩, ⟨#[105, 102]⟩, ⟨#[105, 109]⟩, ⟨#[105, 110]⟩, ⟨#[105, 110, 116]⟩, ⟨#[108, 101, 110]⟩, ⟨#[108, 101, 116]⟩, ⟨#[112, 111, 105, 110, 116]⟩, ⟨#[112, 114, 111, 99]⟩, ⟨#[112, 117, 116]⟩, ⟨#[114, 97, 105, 115, 101]⟩, ⟨#[114, 101]⟩, ⟨#[114, 101, 116, 117, 114, 110]⟩, ⟨#[116, 97, 98, 108, 101]⟩, ⟨#[116, 111]⟩, ⟨#[116, 114, 117, 101]⟩, ⟨#[119, 104, 105, 108, 101]⟩]
def wordsV : List Value := wordsL.map Value.string
theorem mapM_get {α β : Type} (f : α → Option β) : ∀ (l : List α) (xs : List β), l.mapM f = some xs → ∀ (i : Nat) (a : α), l[i]? = some a → ∃ b, xs[i]? = some b ∧ f a = some b
  | [], xs, _, i, a, hi => by simp at hi
  | x :: l, xs, h, i, a, hi => by
    rw [List.mapM_cons] at h
    simp only [Option.bind_eq_bind, Option.bind_eq_some_iff, Option.pure_def, Option.some.injEq] at h
    obtain ⟨y, hy, ys, hys, rfl⟩ := h
    cases i with
    | zero =>
      simp only [List.getElem?_cons_zero, Option.some.injEq] at hi
      subst hi
      exact ⟨y, by simp, hy⟩
    | succ i =>
      simp only [List.getElem?_cons_succ] at hi
      obtain ⟨b, h1, h2⟩ := mapM_get f l ys hys i a hi
      exact ⟨b, by simpa using h1, h2⟩
theorem laid_str {H : Type} {enc : TypeId × Value → H} {P : Program} {w : World} {base : Nat} {sp : Nat → Bool} {held : Bool} {fuel : Nat} {t : TypeId} {c : Value} {y : DataW H × List MemPlace}
    (ht : P.underlying t = some .string) (h : DataW.trod enc P w base sp held fuel t [c] = some y) : ∃ s, c = .string s ∧ y.1 = .lit (.string s.data.toList) := by
  cases fuel with
  | zero => simp [DataW.trod] at h
  | succ fuel =>
    cases c <;> simp [DataW.trod, ht] at h
    rename_i s
    obtain ⟨-, rfl⟩ := h
    exact ⟨s, rfl, rfl⟩
theorem words_name : Tryd.prog.globalNamed "keystone/lexis.words" = some 0 := by kernel_rfl
theorem words_type : (Tryd.prog.globals[0]?).map (·.type) = some 55 := by kernel_rfl
theorem words_cells : Tryd.prog.cellsOf 55 = 27 := by kernel_rfl
theorem str_cells : Tryd.prog.cellsOf 9 = 1 := by kernel_rfl
theorem words_data : Rows.laid_keystone_lexis_words = (.agg (wordsL.map fun b => DataW.lit (.string b.data.toList)) : DataW Unit) := rfl
theorem words_trod {W : World} {fuel : Nat} {l : List Value} {p : List MemPlace} (h : DataW.trod (fun _ => ()) Tryd.prog W 0 (fun _ => true) false fuel 55 l = some (Rows.laid_keystone_lexis_words, p)) : l = wordsV := by
  cases fuel with
  | zero => simp [DataW.trod] at h
  | succ fuel =>
    simp only [DataW.trod, Tryd.underlying55, words_cells, str_cells] at h
    split at h
    · rename_i hl
      simp only [Option.map_eq_some_iff] at h
      obtain ⟨xs, hm, hx⟩ := h
      have h3 := congrArg Prod.fst hx
      rw [words_data] at h3
      have h3 : xs.map (·.1) = wordsL.map fun b => DataW.lit (.string b.data.toList) := by injection h3
      apply List.ext_getElem?
      intro i
      by_cases hi : i < 27
      · obtain ⟨y, hy, hf⟩ := mapM_get _ _ _ hm i i (by rw [List.getElem?_range hi])
        have hil : i < l.length := by omega
        have hc : (l.drop (i * 1)).take 1 = [l[i]] := by
          rw [Nat.mul_one, List.drop_eq_getElem_cons hil, List.take_succ_cons, List.take_zero]
        rw [hc] at hf
        obtain ⟨s, hs, hy1⟩ := laid_str Tryd.underlying9 hf
        have h4 : (xs.map (·.1))[i]? = some y.1 := by rw [List.getElem?_map, hy]; rfl
        rw [h3, List.getElem?_map, hy1] at h4
        have hw : i < wordsL.length := by show i < 27; exact hi
        rw [List.getElem?_eq_getElem hw] at h4
        simp only [Option.map_some, Option.some.injEq, DataW.lit.injEq, Lit.string.injEq] at h4
        rw [List.getElem?_eq_getElem hil, hs]
        unfold wordsV
        rw [List.getElem?_map, List.getElem?_eq_getElem hw]
        simp only [Option.map_some, Option.some.injEq, Value.string.injEq]
        apply ByteArray.ext
        apply Array.ext'
        exact h4.symm
      · rw [List.getElem?_eq_none (by omega), List.getElem?_eq_none (by show 27 ≤ i; omega)]
    · cases h
/-- The words lie in their variable. -/
def WordsAt (w : World) : Prop := w.rangeAt 0 0 wordsV
theorem words_of_laid {W : World} (h : laidMetH Tryd.prog Rows.lexisNamesRow.laid W) : WordsAt W := by
  have hp : laidMet Tryd.prog [("math/bits.deBruijn32tab", Rows.laid_math_bits_deBruijn32tab), ("math/bits.deBruijn64tab", Rows.laid_math_bits_deBruijn64tab), ("internal/strconv.uint64pow10", Rows.laid_internal_strconv_uint64pow10), ("strconv.ErrRange", Rows.laid_strconv_ErrRange), ("strconv.ErrSyntax", Rows.laid_strconv_ErrSyntax), ("keystone/lexis.words", Rows.laid_keystone_lexis_words)] W := by
    rw [MakeChecks.laidMetH_plain _ _ _ (by kernel_rfl)] at h; exact h
  obtain ⟨ps, ⟨g, t, cs, fuel, p, q, hg, ht, hv, hd, ⟨g1, t1, cs1, f1, p1, q1, hg1, ht1, hv1, hd1, ⟨g2, t2, cs2, f2, p2, q2, hg2, ht2, hv2, hd2, ⟨g3, t3, cs3, f3, p3, q3, hg3, ht3, hv3, hd3, ⟨g4, t4, cs4, f4, p4, q4, hg4, ht4, hv4, hd4, ⟨g5, t5, cs5, f5, p5, q5, hg5, ht5, hv5, hd5, _, _⟩, _⟩, _⟩, _⟩, _⟩, _⟩, _⟩ := hp
  obtain rfl := Option.some.inj (words_name.symm.trans hg5)
  obtain rfl := Option.some.inj (words_type.symm.trans ht5)
  have he := words_trod hd5
  intro j v hj
  rw [Nat.zero_add, World.var?_cell hg5 hv5 j, ← hj, ← he]
  simp
end Go.Proofs.YtagangneoibbcaaDoor
