/- Layer 12: signSize. -/
import Derived.Test.YtagangneoibbcaaDoorLxB
set_option linter.unusedVariables false
namespace Go.Proofs.YtagangneoibbcaaDoor
set_option maxRecDepth 100000
set_option maxRecDepth 100000
open Go.RowKit

theorem ret_i64 {a b : Int} (h : a = b) : Ending.returned (.int .i64 a) = .returned (.int .i64 b) := by rw [h]
set_option maxHeartbeats 4000000 in
theorem wSign1 (c d : Int) (w : World) (hc : c = 40 ∨ c = 41 ∨ c = 123 ∨ c = 125 ∨ c = 44 ∨ c = 59 ∨ c = 58 ∨ c = 43 ∨ c = 45 ∨ c = 42 ∨ c = 47 ∨ c = 37) :
    Calls Tryd.prog 64 #[.int .i32 c, .int .i32 d] w fun e w' => e = .returned (.int .i64 1) ∧ w = w' := by
  rcases hc with rfl | rfl | rfl | rfl | rfl | rfl | rfl | rfl | rfl | rfl | rfl | rfl
  all_goals
    go_enter Tryd.func64, Tryd.ntmps64
    go_wp2
    go_ret
    exact ⟨rfl, rfl⟩
set_option maxHeartbeats 4000000 in
theorem wSign2 (c d : Int) (w : World) (hc : c = 61 ∨ c = 33 ∨ c = 60) :
    Calls Tryd.prog 64 #[.int .i32 c, .int .i32 d] w fun e w' => e = .returned (.int .i64 (if d = 61 then 2 else 1)) ∧ w = w' := by
  by_cases hd : d = 61
  · subst hd
    rcases hc with rfl | rfl | rfl
    all_goals
      go_enter Tryd.func64, Tryd.ntmps64
      go_wp2
      go_ret
      exact ⟨rfl, rfl⟩
  · rw [if_neg hd]
    have h1 : (d == 61) = false := by simpa using hd
    clear hd
    rcases hc with rfl | rfl | rfl
    all_goals
      go_enter Tryd.func64, Tryd.ntmps64
      go_wp2
      go_ret
      exact ⟨rfl, rfl⟩
set_option maxHeartbeats 4000000 in
theorem wSign3 (c d : Int) (w : World) (hc : c = 38 ∨ c = 124) :
    Calls Tryd.prog 64 #[.int .i32 c, .int .i32 d] w fun e w' => e = .returned (.int .i64 (if d = c then 2 else 0)) ∧ w = w' := by
  by_cases hd : d = c
  · subst hd
    rcases hc with rfl | rfl
    all_goals
      go_enter Tryd.func64, Tryd.ntmps64
      go_wp2
      go_ret
      exact ⟨rfl, rfl⟩
  · rw [if_neg hd]
    have h1 : (d == c) = false := by simpa using hd
    clear hd
    rcases hc with rfl | rfl
    all_goals
      go_enter Tryd.func64, Tryd.ntmps64
      go_wp2
      go_ret
      exact ⟨rfl, rfl⟩
set_option maxHeartbeats 4000000 in
theorem wSign0 (c d : Int) (w : World) (h1 : ¬ (c = 40 ∨ c = 41 ∨ c = 123 ∨ c = 125 ∨ c = 44 ∨ c = 59 ∨ c = 58 ∨ c = 43 ∨ c = 45 ∨ c = 42 ∨ c = 47 ∨ c = 37)) (h2 : ¬ (c = 61 ∨ c = 33 ∨ c = 60)) (h3 : ¬ (c = 38 ∨ c = 124)) :
    Calls Tryd.prog 64 #[.int .i32 c, .int .i32 d] w fun e w' => e = .returned (.int .i64 0) ∧ w = w' := by
  have a1 : (c == 40) = false := by simp; omega
  have a2 : (c == 41) = false := by simp; omega
  have a3 : (c == 123) = false := by simp; omega
  have a4 : (c == 125) = false := by simp; omega
  have a5 : (c == 44) = false := by simp; omega
  have a6 : (c == 59) = false := by simp; omega
  have a7 : (c == 58) = false := by simp; omega
  have a8 : (c == 43) = false := by simp; omega
  have a9 : (c == 45) = false := by simp; omega
  have b1 : (c == 42) = false := by simp; omega
  have b2 : (c == 47) = false := by simp; omega
  have b3 : (c == 37) = false := by simp; omega
  have b4 : (c == 61) = false := by simp; omega
  have b5 : (c == 33) = false := by simp; omega
  have b6 : (c == 60) = false := by simp; omega
  have b7 : (c == 38) = false := by simp; omega
  have b8 : (c == 124) = false := by simp; omega
  clear h1 h2 h3
  go_enter Tryd.func64, Tryd.ntmps64
  go_wp2
  go_ret
  exact ⟨rfl, rfl⟩
theorem wSize (c d : Int) (w : World) : Calls Tryd.prog 64 #[.int .i32 c, .int .i32 d] w fun e w' => e = .returned (.int .i64 (signN c d : Nat)) ∧ w = w' := by
  unfold signN
  by_cases h1 : c = 40 ∨ c = 41 ∨ c = 123 ∨ c = 125 ∨ c = 44 ∨ c = 59 ∨ c = 58 ∨ c = 43 ∨ c = 45 ∨ c = 42 ∨ c = 47 ∨ c = 37
  · rw [if_pos h1]; exact wSign1 c d w h1
  · rw [if_neg h1]
    by_cases h2 : c = 61 ∨ c = 33 ∨ c = 60
    · rw [if_pos h2]
      have := wSign2 c d w h2
      by_cases hd : d = 61
      · rw [if_pos hd] at this ⊢; exact this
      · rw [if_neg hd] at this ⊢; exact this
    · rw [if_neg h2]
      by_cases h3 : c = 38 ∨ c = 124
      · rw [if_pos h3]
        have := wSign3 c d w h3
        by_cases hd : d = c
        · rw [if_pos hd] at this ⊢; exact this
        · rw [if_neg hd] at this ⊢; exact this
      · rw [if_neg h3]; exact wSign0 c d w h1 h2 h3
end Go.Proofs.YtagangneoibbcaaDoor
