/- Arguments of laws: lists of texts. -/
import Derived.Test.YtlhpoliiojekeaaOpen
import Derived.Test.YtlhpoliiojekeaaFilled
import Derived.SliceStrings
namespace Go.Proofs.Ytlhpoliiojekeaa
open Go.Joins Go.Deep Go.ChangeShapes Go.WideShapes Go.ChangeAt Go.RowKit
section
variable {H : Type} {enc : TypeId × Value → H} {P : Program} {w : World} {held : Bool}
theorem open_texts {t e : TypeId} {fuel : Nat} {v : Value} {y : DataW H × List MemPlace} (ht : P.underlying t = some (.slice e)) (he : P.underlying e = some .string) (hc : P.cellsOf e = 1)
    (h : DataW.trod enc P w 0 (fun _ => true) held fuel t [v] = some y) :
    ∃ A len cap ks, v = .slice A len cap ∧ SA w A len ks ∧ len ≤ cap ∧ cap ≤ maxLen ∧
      ((y.1 = .nil ∧ cap = 0) ∨ ∃ elems rest, y.1 = .slice elems rest ∧ elems.length + rest.length = cap) := by
  rcases open_strings ht he hc h with ⟨hcs, hy⟩ | ⟨a, l, c, ss, hcs, _, hl, hm, hs, hy, hcell, _⟩
  · obtain rfl : v = .slice none 0 0 := by simpa using hcs
    exact ⟨none, 0, 0, [], rfl, ⟨rfl, fun h => absurd h (by omega)⟩, Nat.le_refl _, by simp [maxLen], .inl ⟨by rw [hy], rfl⟩⟩
  · obtain rfl : v = .slice (some a) l c := by simpa using hcs
    have hs' : ss.length = c := by simpa using hs
    refine ⟨some a, l, c, ss.take l, rfl, ⟨by simp; omega, fun _ => ⟨a, rfl, fun j k hk => ?_⟩⟩, hl, hm, .inr ⟨_, _, by rw [hy], ?_⟩⟩
    · have hj : j < l := by
        have := (List.getElem?_eq_some_iff.1 hk).1
        rw [List.length_take] at this; omega
      rw [hcell j (by omega), List.getD_eq_getElem?_getD]
      rw [List.getElem?_take_of_lt hj] at hk
      rw [hk]; rfl
    · simp [strs]; omega
end
end Go.Proofs.Ytlhpoliiojekeaa
