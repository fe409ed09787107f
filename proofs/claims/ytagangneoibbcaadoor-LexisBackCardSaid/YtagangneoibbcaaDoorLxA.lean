/- Layer 12: the small calls of the reader. -/
import Derived.Test.YtagangneoibbcaaDoorLxP
import Derived.Test.YtagangneoibbcaaDoorDRow
import Derived.BigQuiet
import Derived.Deep.QuietTactic
import Derived.StillTailTactics
import Derived.Deep.RegionHeld3
import Derived.Deep.Cut
import Derived.Deep.DeepCutAuto
import Derived.Deep.RegionWith
import Derived.Deep.RegionLaw
import Derived.Deep.LoopGhost
import Derived.Lib.SliceRun
import Derived.LoopTactic
import Derived.OwnWalk
import Derived.Outline
import Derived.Laws.StructEq
import Derived.Laws.Cover1
import Derived.Laws.BytesString
import Derived.Laws.ComplexArith
set_option linter.unusedVariables false
namespace Go.Proofs.YtagangneoibbcaaDoor
set_option maxRecDepth 100000
set_option maxRecDepth 100000
open Go.RowKit

theorem ret_bool {a b : Bool} (h : a = b) : Ending.returned (.bool a) = .returned (.bool b) := by rw [h]
set_option maxHeartbeats 1000000 in
theorem wGap (c : Int) (w : World) : Calls Tryd.prog 41 #[.int .i32 c] w fun e w' => e = .returned (.bool (gapB c)) ∧ w = w' := by
  obtain ⟨q, hq⟩ : ∃ q, gapB c = q := ⟨_, rfl⟩
  have HQ := Lib.hid hq
  rw [hq]
  clear hq
  go_enter Tryd.func41, Tryd.ntmps41
  rcases h1 : (c == 32) with _ | _
  all_goals rcases h2 : (c == 9) with _ | _
  all_goals rcases h3 : (c == 10) with _ | _
  all_goals rcases h4 : (c == 13) with _ | _
  all_goals first | (exfalso; simp at h1 h2 h3 h4; omega) | skip
  all_goals (go_wp2; go_ret; exact ⟨ret_bool (by rw [← HQ.out]; unfold gapB; simp at h1 h2 h3 h4; simp; omega), rfl⟩)
set_option maxHeartbeats 1000000 in
theorem wLetter (c : Int) (w : World) : Calls Tryd.prog 42 #[.int .i32 c] w fun e w' => e = .returned (.bool (lowB c)) ∧ w = w' := by
  have HQ : Hid (lowB c = decide (97 ≤ c ∧ c ≤ 122)) := Lib.hid rfl
  generalize lowB c = q at HQ ⊢
  go_enter Tryd.func42, Tryd.ntmps42
  by_cases h1 : 97 ≤ c
  all_goals by_cases h2 : c ≤ 122
  all_goals (go_wp2; go_ret; exact ⟨ret_bool (by rw [HQ.out]; simp [h1, h2]), rfl⟩)
set_option maxHeartbeats 1000000 in
theorem wDigit (c : Int) (w : World) : Calls Tryd.prog 43 #[.int .i32 c] w fun e w' => e = .returned (.bool (digB c)) ∧ w = w' := by
  have HQ : Hid (digB c = decide (48 ≤ c ∧ c ≤ 57)) := Lib.hid rfl
  generalize digB c = q at HQ ⊢
  go_enter Tryd.func43, Tryd.ntmps43
  by_cases h1 : 48 ≤ c
  all_goals by_cases h2 : c ≤ 57
  all_goals (go_wp2; go_ret; exact ⟨ret_bool (by rw [HQ.out]; simp [h1, h2]), rfl⟩)
set_option maxHeartbeats 1000000 in
theorem wPlain (c : Int) (w : World) : Calls Tryd.prog 59 #[.int .i32 c] w fun e w' => e = .returned (.bool (plnB c)) ∧ w = w' := by
  have HQ : Hid (plnB c = decide (32 ≤ c ∧ c ≤ 126 ∧ c ≠ 34 ∧ c ≠ 92)) := Lib.hid rfl
  generalize plnB c = q at HQ ⊢
  go_enter Tryd.func59, Tryd.ntmps59
  by_cases h1 : 32 ≤ c
  all_goals by_cases h2 : c ≤ 126
  all_goals rcases h3 : (c != 34) with _ | _
  all_goals rcases h4 : (c != 92) with _ | _
  all_goals first | (exfalso; simp at h3 h4; omega) | skip
  all_goals (go_wp2; go_ret; exact ⟨ret_bool (by rw [HQ.out]; simp at h3 h4; simp [h1, h2, h3, h4]), rfl⟩)
end Go.Proofs.YtagangneoibbcaaDoor
