/- Layer 12: the reference's small calls, and skip. -/
import Derived.Test.YtagangneoibbcaaDoorLyTk
set_option linter.unusedVariables false
namespace Go.Proofs.YtagangneoibbcaaDoor
set_option maxRecDepth 100000
set_option maxRecDepth 100000
open Go.RowKit

set_option maxHeartbeats 1000000 in
theorem wrLow (c : Int) (w : World) : Calls Tryd.prog 33 #[.int .u8 c] w fun e w' => e = .returned (.bool (lowB c)) ∧ w = w' := by
  have HQ : Hid (lowB c = decide (97 ≤ c ∧ c ≤ 122)) := Lib.hid rfl
  generalize lowB c = q at HQ ⊢
  go_enter Tryd.func33, Tryd.ntmps33
  by_cases h1 : 97 ≤ c
  all_goals by_cases h2 : c ≤ 122
  all_goals (go_wp2; go_ret; exact ⟨ret_bool (by rw [HQ.out]; simp [h1, h2]), rfl⟩)
set_option maxHeartbeats 1000000 in
theorem wrDigit (c : Int) (w : World) : Calls Tryd.prog 50 #[.int .u8 c] w fun e w' => e = .returned (.bool (digB c)) ∧ w = w' := by
  have HQ : Hid (digB c = decide (48 ≤ c ∧ c ≤ 57)) := Lib.hid rfl
  generalize digB c = q at HQ ⊢
  go_enter Tryd.func50, Tryd.ntmps50
  by_cases h1 : 48 ≤ c
  all_goals by_cases h2 : c ≤ 57
  all_goals (go_wp2; go_ret; exact ⟨ret_bool (by rw [HQ.out]; simp [h1, h2]), rfl⟩)
set_option maxHeartbeats 1000000 in
theorem wrBlank (c : Int) (w : World) : Calls Tryd.prog 49 #[.int .u8 c] w fun e w' => e = .returned (.bool (gapB c)) ∧ w = w' := by
  have HQ : Hid (gapB c = decide (c = 32 ∨ c = 9 ∨ c = 10 ∨ c = 13)) := Lib.hid rfl
  generalize gapB c = q at HQ ⊢
  go_enter Tryd.func49, Tryd.ntmps49
  rcases h1 : (c == 32) with _ | _
  all_goals rcases h2 : (c == 9) with _ | _
  all_goals rcases h3 : (c == 10) with _ | _
  all_goals rcases h4 : (c == 13) with _ | _
  all_goals first | (exfalso; simp at h1 h2 h3 h4; omega) | skip
  all_goals (go_wp2; go_ret; exact ⟨ret_bool (by rw [HQ.out]; simp at h1 h2 h3 h4; simp; omega), rfl⟩)
set_option maxHeartbeats 1000000 in
theorem wrInner (c : Int) (w : World) : Calls Tryd.prog 34 #[.int .u8 c] w fun e w' => e = .returned (.bool (innB c)) ∧ w = w' := by
  have HQ : Hid (innB c = (lowB c || digB c || decide (c = 95))) := Lib.hid rfl
  generalize innB c = q at HQ ⊢
  have CL := Lib.hid fun W => wrLow c W
  have CD := Lib.hid fun W => wrDigit c W
  rcases hl : lowB c with _ | _
  all_goals rcases hd : digB c with _ | _
  all_goals rcases h95 : (c == 95) with _ | _
  all_goals rw [hl] at CL
  all_goals rw [hd] at CD
  all_goals
    rw [hl, hd] at HQ
    have HQ2 := Lib.hid (show decide (c = 95) = _ from h95)
    clear hl hd
    go_enter Tryd.func34, Tryd.ntmps34
    go_wp2_with (first
      | (go_at_call 33; refine (CL.out _).mono ?_; rintro e w1 ⟨rfl, rfl⟩)
      | (go_at_call 50; refine (CD.out _).mono ?_; rintro e w1 ⟨rfl, rfl⟩))
    go_ret
    exact ⟨ret_bool (by rw [HQ.out, HQ2.out]; rfl), rfl⟩
end Go.Proofs.YtagangneoibbcaaDoor
