/- How many blocks a record takes: log.Blocks, the reference's Blocks, the law's live. -/
import Derived.Test.YtapjgancaldgaaaDRow
import Derived.IntWalk
namespace Go.Proofs.Ytapjgancaldgaaa
set_option maxRecDepth 100000
open Go.RowKit

def nblocks (n : Nat) : Nat := if n = 0 then 1 else (n - 1) / 40 + 1
def blocksZ (n : Int) : Int := if n < 0 then 0 else if n = 0 then 1 else (n - 1) / 40 + 1
theorem blocksZ_nat (n : Nat) : blocksZ (n : Int) = (nblocks n : Int) := by
  unfold blocksZ nblocks
  rw [if_neg (by omega)]
  by_cases h : n = 0
  · subst h; rfl
  · rw [if_neg (by omega), if_neg h]; omega
theorem nblocks_pos (n : Nat) : 1 ≤ nblocks n := by unfold nblocks; split <;> omega
theorem nblocks_le (n m : Nat) (h : n ≤ 40 * m) (hm : 1 ≤ m) : nblocks n ≤ m := by unfold nblocks; split <;> omega
theorem nblocks_le_self (n : Nat) : nblocks n ≤ n + 1 := by unfold nblocks; split <;> omega
theorem nblocks_big (n : Nat) (h : n ≤ 65536) : nblocks n ≤ 1639 := by unfold nblocks; split <;> omega

theorem wblocks (n : Int) (w : World) (hn : -9223372036854775808 ≤ n ∧ n ≤ 9223372036854775807) :
    Calls Try.prog 34 #[.int .i64 n] w fun e w' => e = .returned (.int .i64 (blocksZ n)) ∧ w = w' := by
  unfold blocksZ
  by_cases h0 : n < 0
  · rw [if_pos h0]
    go_enter Try.func34, Try.ntmps34
    go_wp2
    go_ret
    exact ⟨rfl, rfl⟩
  · rw [if_neg h0]
    by_cases h1 : n = 0
    · subst h1
      go_enter Try.func34, Try.ntmps34
      go_wp2
      go_ret
      exact ⟨rfl, rfl⟩
    · rw [if_neg h1]
      have h2 : decide (n < 0) = false := by simp; omega
      have h3 : (n == 0) = false := by simpa using h1
      have h4 : 0 ≤ n - 1 := by omega
      have h5 : n - 1 ≤ 9223372036854775807 := by omega
      have h6 : (n - 1) / 40 + 1 ≤ 9223372036854775807 := by omega
      have h7 : 0 ≤ (n - 1) / 40 := by omega
      clear h0 h1
      go_enter Try.func34, Try.ntmps34
      go_wp2
      go_ret
      exact ⟨rfl, rfl⟩
theorem rblocks (n : Int) (w : World) (hn : -9223372036854775808 ≤ n ∧ n ≤ 9223372036854775807) :
    Calls Try.prog 35 #[.int .i64 n] w fun e w' => e = .returned (.int .i64 (blocksZ n)) ∧ w = w' := by
  unfold blocksZ
  by_cases h0 : n < 0
  · rw [if_pos h0]
    go_enter Try.func35, Try.ntmps35
    go_wp2
    go_ret
    exact ⟨rfl, rfl⟩
  · rw [if_neg h0]
    by_cases h1 : n = 0
    · subst h1
      go_enter Try.func35, Try.ntmps35
      go_wp2
      go_ret
      exact ⟨rfl, rfl⟩
    · rw [if_neg h1]
      have h2 : decide (n < 0) = false := by simp; omega
      have h3 : (n == 0) = false := by simpa using h1
      have h4 : 0 ≤ n - 1 := by omega
      have h5 : n - 1 ≤ 9223372036854775807 := by omega
      have h6 : (n - 1) / 40 + 1 ≤ 9223372036854775807 := by omega
      have h7 : 0 ≤ (n - 1) / 40 := by omega
      clear h0 h1
      go_enter Try.func35, Try.ntmps35
      go_wp2
      go_ret
      exact ⟨rfl, rfl⟩
theorem wblocksN (n : Nat) (w : World) (hn : n ≤ 140737490000000) :
    Calls Try.prog 34 #[.int .i64 (n : Int)] w fun e w' => e = .returned (.int .i64 (nblocks n : Int)) ∧ w = w' := by
  rw [← blocksZ_nat]
  exact wblocks _ w (by omega)
theorem rblocksN (n : Nat) (w : World) (hn : n ≤ 140737490000000) :
    Calls Try.prog 35 #[.int .i64 (n : Int)] w fun e w' => e = .returned (.int .i64 (nblocks n : Int)) ∧ w = w' := by
  rw [← blocksZ_nat]
  exact rblocks _ w (by omega)
theorem wlive (w : World) : Calls Try.prog 31 #[] w fun e w' => e = .returned (.bool true) ∧ w = w' := by
  have h1 : Calls Try.prog 34 #[.int .i64 41] w fun e w' => e = .returned (.int .i64 2) ∧ w = w' := wblocks 41 w (by omega)
  have h2 : Calls Try.prog 34 #[.int .i64 0] w fun e w' => e = .returned (.int .i64 1) ∧ w = w' := wblocks 0 w (by omega)
  go_enter Try.func31, Try.ntmps31
  go_wp2_with (first
    | (go_at_call_of 34 (Value.int .i64 41); refine h1.mono ?_; rintro e w' ⟨rfl, rfl⟩)
    | (go_at_call_of 34 (Value.int .i64 0); refine h2.mono ?_; rintro e w' ⟨rfl, rfl⟩))
  go_ret
  exact ⟨rfl, rfl⟩
end Go.Proofs.Ytapjgancaldgaaa
