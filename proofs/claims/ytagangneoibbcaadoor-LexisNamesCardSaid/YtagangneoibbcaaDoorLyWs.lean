/- Layer 12: Words and isWord. -/
import Derived.Test.YtagangneoibbcaaDoorLyWd
set_option linter.unusedVariables false
namespace Go.Proofs.YtagangneoibbcaaDoor
set_option maxRecDepth 100000
set_option maxRecDepth 100000
open Go.RowKit

theorem WordsAt.below {w w' : World} (h : WordsAt w) (hb : Below w.heap.size w w') : WordsAt w' := fun j v hj => keep_below (h j v hj) hb
theorem wordsV_len : wordsV.length = 27 := rfl
theorem wordsV_one : wordsV.toArray.all (·.oneCell') = true := by simp [wordsV, wordsL, Value.oneCell']
theorem frozen_row {X : World} {g : Nat} {cs : Array Value} {t : TypeId} (h : X.heap[g]? = some (.cells cs t (0, 0))) (o : Nat) : X.frozen? ⟨g, o, none⟩ = false := by simp [World.frozen?, h]
/-- A list of the words of one's own. -/
def WordsIs (w : World) (e : Ending) (w' : World) : Prop := ∃ g, e = .returned (.slice (some ⟨g, 0, none⟩) 27 27) ∧ w.heap.size ≤ g ∧ w'.rangeAt g 0 wordsV ∧ w'.there g 0 27 ∧ Below w.heap.size w w'
set_option maxHeartbeats 4000000 in
theorem wWords (w : World) (h : WordsAt w) : Calls Tryd.prog 16 #[] w (WordsIs w) := by
  have HW := Lib.hid (show w.rangeAt 0 0 wordsV from h)
  have HI := Lib.hid (show (Tryd.prog.info? 55).map (·.size) = some wordsV.length by rfl)
  have HI2 := Lib.hid (show (Tryd.prog.info? 55).map (·.size) = some wordsV.toArray.size by rfl)
  have HO := Lib.hid wordsV_one
  have HT := Lib.hid (show (w.alloc (.cells #[Value.string ⟨#[]⟩, Value.string ⟨#[]⟩, Value.string ⟨#[]⟩, Value.string ⟨#[]⟩, Value.string ⟨#[]⟩, Value.string ⟨#[]⟩, Value.string ⟨#[]⟩, Value.string ⟨#[]⟩, Value.string ⟨#[]⟩, Value.string ⟨#[]⟩, Value.string ⟨#[]⟩, Value.string ⟨#[]⟩, Value.string ⟨#[]⟩, Value.string ⟨#[]⟩, Value.string ⟨#[]⟩, Value.string ⟨#[]⟩, Value.string ⟨#[]⟩, Value.string ⟨#[]⟩, Value.string ⟨#[]⟩, Value.string ⟨#[]⟩, Value.string ⟨#[]⟩, Value.string ⟨#[]⟩, Value.string ⟨#[]⟩, Value.string ⟨#[]⟩, Value.string ⟨#[]⟩, Value.string ⟨#[]⟩, Value.string ⟨#[]⟩] 55)).there w.heap.size 0 wordsV.toArray.size from fun j hj => by
    have hj2 : j < 27 := hj
    have hq := heap_alloc_new w (.cells #[Value.string ⟨#[]⟩, Value.string ⟨#[]⟩, Value.string ⟨#[]⟩, Value.string ⟨#[]⟩, Value.string ⟨#[]⟩, Value.string ⟨#[]⟩, Value.string ⟨#[]⟩, Value.string ⟨#[]⟩, Value.string ⟨#[]⟩, Value.string ⟨#[]⟩, Value.string ⟨#[]⟩, Value.string ⟨#[]⟩, Value.string ⟨#[]⟩, Value.string ⟨#[]⟩, Value.string ⟨#[]⟩, Value.string ⟨#[]⟩, Value.string ⟨#[]⟩, Value.string ⟨#[]⟩, Value.string ⟨#[]⟩, Value.string ⟨#[]⟩, Value.string ⟨#[]⟩, Value.string ⟨#[]⟩, Value.string ⟨#[]⟩, Value.string ⟨#[]⟩, Value.string ⟨#[]⟩, Value.string ⟨#[]⟩, Value.string ⟨#[]⟩] 55)
    refine ⟨?_, frozen_row hq _⟩
    rw [Nat.zero_add, cell_of_row _ _ _ _ _ _ hq, Array.getElem?_eq_getElem (by exact hj2)]
    rfl)
  obtain ⟨WF, hWF⟩ : ∃ X, World.setCells (w.alloc (.cells #[Value.string ⟨#[]⟩, Value.string ⟨#[]⟩, Value.string ⟨#[]⟩, Value.string ⟨#[]⟩, Value.string ⟨#[]⟩, Value.string ⟨#[]⟩, Value.string ⟨#[]⟩, Value.string ⟨#[]⟩, Value.string ⟨#[]⟩, Value.string ⟨#[]⟩, Value.string ⟨#[]⟩, Value.string ⟨#[]⟩, Value.string ⟨#[]⟩, Value.string ⟨#[]⟩, Value.string ⟨#[]⟩, Value.string ⟨#[]⟩, Value.string ⟨#[]⟩, Value.string ⟨#[]⟩, Value.string ⟨#[]⟩, Value.string ⟨#[]⟩, Value.string ⟨#[]⟩, Value.string ⟨#[]⟩, Value.string ⟨#[]⟩, Value.string ⟨#[]⟩, Value.string ⟨#[]⟩, Value.string ⟨#[]⟩, Value.string ⟨#[]⟩] 55)) w.heap.size 0 wordsV = X := ⟨_, rfl⟩
  have F1 := Lib.hid (show WF.rangeAt w.heap.size 0 wordsV by rw [← hWF]; exact World.rangeAt_setCells_same _ _ _ _ HT.out)
  have F2 := Lib.hid (show WF.there w.heap.size 0 27 by rw [← hWF]; exact World.there_setCells HT.out _ _ _)
  have F3 := Lib.hid (show Below w.heap.size w WF by rw [← hWF]; exact ((Out.of_below ((Below.refl _ _).alloc (Nat.le_refl _) _) (fun _ => False)).setCells (g := w.heap.size) (.inr (Nat.le_refl _)) 0 _).below (Nat.le_refl _) (fun _ _ h => h))
  have hsc : (storeCells ⟨w.heap.size, 0, none⟩ wordsV).run Tryd.prog (w.alloc (.cells #[Value.string ⟨#[]⟩, Value.string ⟨#[]⟩, Value.string ⟨#[]⟩, Value.string ⟨#[]⟩, Value.string ⟨#[]⟩, Value.string ⟨#[]⟩, Value.string ⟨#[]⟩, Value.string ⟨#[]⟩, Value.string ⟨#[]⟩, Value.string ⟨#[]⟩, Value.string ⟨#[]⟩, Value.string ⟨#[]⟩, Value.string ⟨#[]⟩, Value.string ⟨#[]⟩, Value.string ⟨#[]⟩, Value.string ⟨#[]⟩, Value.string ⟨#[]⟩, Value.string ⟨#[]⟩, Value.string ⟨#[]⟩, Value.string ⟨#[]⟩, Value.string ⟨#[]⟩, Value.string ⟨#[]⟩, Value.string ⟨#[]⟩, Value.string ⟨#[]⟩, Value.string ⟨#[]⟩, Value.string ⟨#[]⟩, Value.string ⟨#[]⟩] 55)) = .ok () WF := by
    have h1 := run_storeCells_cells (P := Tryd.prog) w.heap.size 0 wordsV 0 (w.alloc (.cells #[Value.string ⟨#[]⟩, Value.string ⟨#[]⟩, Value.string ⟨#[]⟩, Value.string ⟨#[]⟩, Value.string ⟨#[]⟩, Value.string ⟨#[]⟩, Value.string ⟨#[]⟩, Value.string ⟨#[]⟩, Value.string ⟨#[]⟩, Value.string ⟨#[]⟩, Value.string ⟨#[]⟩, Value.string ⟨#[]⟩, Value.string ⟨#[]⟩, Value.string ⟨#[]⟩, Value.string ⟨#[]⟩, Value.string ⟨#[]⟩, Value.string ⟨#[]⟩, Value.string ⟨#[]⟩, Value.string ⟨#[]⟩, Value.string ⟨#[]⟩, Value.string ⟨#[]⟩, Value.string ⟨#[]⟩, Value.string ⟨#[]⟩, Value.string ⟨#[]⟩, Value.string ⟨#[]⟩, Value.string ⟨#[]⟩, Value.string ⟨#[]⟩] 55)) (fun j hj => (HT.out j hj).1) (fun j hj => (HT.out j hj).2) (fun v hv => (Array.all_eq_true_iff_forall_mem.1 HO.out) v (by simpa using hv))
    rw [← hWF]
    simpa using h1
  clear h hWF
  go_enter Tryd.func16, Tryd.ntmps16
  go_wp2_with (first
    | (with_reducible refine wpList_load_mid rfl 55 (.global 0) rfl 0 0 rfl wordsV _ HW.out Tryd.underlying55 rfl HI.out ?_))
  go_ret
  exact ⟨w.heap.size, rfl, Nat.le_refl _, F1.out, F2.out, F3.out⟩
end Go.Proofs.YtagangneoibbcaaDoor
