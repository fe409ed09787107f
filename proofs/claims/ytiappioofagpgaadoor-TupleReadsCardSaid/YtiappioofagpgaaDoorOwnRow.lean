/- A slice of bytes that the call made, written at a place. -/
import Derived.Test.YtiappioofagpgaaDoorOwnB
namespace Go.Proofs.YtiappioofagpgaaDoor
set_option maxRecDepth 100000
open Go.RowKit

theorem OB.row {base : Nat} {w : World} {v : Value} {zs : List Int} (h : OB base w v zs) (hn : 0 < zs.length) : ∃ g cap, v = .slice (some ⟨g, 0, none⟩) zs.length cap ∧ base ≤ g ∧ zs.length ≤ cap := by
  rcases h.own.2 with ⟨_, h0⟩ | ⟨g, cap, cur, hv, hb, _, hc, _⟩
  · omega
  · exact ⟨g, cap, hv, hb, hc⟩
theorem OB.cellAt {base g cap : Nat} {w : World} {zs : List Int} (h : OB base w (.slice (some ⟨g, 0, none⟩) zs.length cap) zs) {j : Nat} (hj : j < zs.length) : w.cell? ⟨g, j, none⟩ = some (.int .u8 (zs.getD j 0)) := by
  rw [h.own.cellAt j (by omega)]
  simp [List.getD_eq_getElem?_getD, List.getElem?_eq_getElem hj]
theorem OB.frozenAt {base g cap : Nat} {w : World} {zs : List Int} (h : OB base w (.slice (some ⟨g, 0, none⟩) zs.length cap) zs) (j : Nat) : w.frozen? ⟨g, j, none⟩ = false := h.own.frozenAt j
theorem OB.stored {base g cap : Nat} {w : World} {zs : List Int} (h : OB base w (.slice (some ⟨g, 0, none⟩) zs.length cap) zs) (j : Nat) (z : Int) (hz : 0 ≤ z ∧ z ≤ 255) :
    OB base (w.setCell ⟨g, j, none⟩ (.int .u8 z)) (.slice (some ⟨g, 0, none⟩) (zs.set j z).length cap) (zs.set j z) := by
  have h1 := (h.own.stored j (.int .u8 z)).1
  refine ⟨?_, fun x hx => ?_⟩
  · rw [List.length_set, List.map_set]; exact h1
  · rcases List.mem_or_eq_of_mem_set hx with hx | rfl
    · exact h.byte x hx
    · exact hz
end Go.Proofs.YtiappioofagpgaaDoor
