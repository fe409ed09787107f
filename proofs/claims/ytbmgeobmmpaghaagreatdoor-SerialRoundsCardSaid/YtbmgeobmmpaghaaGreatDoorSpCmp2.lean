/- Layer 9: two pairs compared. -/
import Derived.Test.YtbmgeobmmpaghaaGreatDoorSpCmp
import Derived.Test.YtbmgeobmmpaghaaGreatDoorSiP
set_option linter.unusedVariables false
namespace Go.Proofs.YtbmgeobmmpaghaaGreatDoor
set_option maxRecDepth 100000
set_option maxRecDepth 100000
open Go.RowKit

def cmpPr (a b : Int × ByteArray) : Int := orP [cmpI a.1 b.1, cmpS a.2 b.2]
theorem cmpPr_lt (a b : Int × ByteArray) : decide (cmpPr a b < 0) = pairLt a b := by
  unfold cmpPr orP pairLt
  by_cases h : a.1 = b.1
  · have h0 := (cmpI_zero a.1 b.1).2 h
    rw [List.find?_cons_of_neg (by simpa using h0)]
    by_cases h2 : a.2 = b.2
    · have h3 := (cmpS_zero a.2 b.2).2 h2
      rw [List.find?_cons_of_neg (by simpa using h3)]
      rw [h2, klB_irrefl]
      simp [h]
    · have h3 : ¬ cmpS a.2 b.2 = 0 := fun e => h2 ((cmpS_zero _ _).1 e)
      rw [List.find?_cons_of_pos (by simpa using h3)]
      simp only [Option.getD_some]
      rw [cmpS_lt]
      simp [h]
  · have h0 : ¬ cmpI a.1 b.1 = 0 := fun e => h ((cmpI_zero _ _).1 e)
    rw [List.find?_cons_of_pos (by simpa using h0)]
    simp only [Option.getD_some]
    rw [cmpI_lt]
    simp [h]
theorem row_at {w : World} {g : Nat} {vs : Array Value} {e : TypeId} {xs : List Int} (h : w.heap[g]? = some (.cells vs e (0, 0))) (hv : vs.toList = numV xs) : ∀ j x, xs[j]? = some x → w.cell? ⟨g, j, none⟩ = some (.int .i64 x) := fun j x hx => by
  have := cell_of_row w g j _ _ _ h
  rw [this]
  have h2 : vs.toList[j]? = some (.int .i64 x) := by rw [hv]; simp [numV, hx]
  rw [Array.getElem?_toList] at h2
  exact h2
end Go.Proofs.YtbmgeobmmpaghaaGreatDoor
