/- The bytes of a number, on lists. No program is named here. -/
import Derived.WalkKit
namespace Go.Proofs.Ythodmnekljbljaa

def uintB (n : Nat) : List Int := if n < 128 then [(n : Int)] else ((n % 128 + 128 : Nat) : Int) :: uintB (n / 128)
termination_by n
decreasing_by omega

theorem uintB_last (n : Nat) (h : n < 128) : uintB n = [(n : Int)] := by rw [uintB, if_pos h]
theorem uintB_on (n : Nat) (h : ¬ n < 128) : uintB n = ((n % 128 + 128 : Nat) : Int) :: uintB (n / 128) := by rw [uintB, if_neg h]
theorem uintB_on' (n : Nat) (h : ¬ n < 128) : uintB n = ((n : Int) % 128 + 128) :: uintB (n / 128) := by rw [uintB_on n h]; congr 1
theorem uintB_byte (n : Nat) : ∀ z ∈ uintB n, 0 ≤ z ∧ z ≤ 255 := by
  induction n using Nat.strongRecOn with
  | ind n ih =>
    intro z hz
    by_cases h : n < 128
    · rw [uintB_last n h] at hz
      simp at hz; omega
    · rw [uintB_on n h] at hz
      rcases List.mem_cons.1 hz with rfl | hz
      · omega
      · exact ih (n / 128) (by omega) z hz
theorem room_step (m k u : Nat) (h : m * 2 ^ k ≤ u) : m / 128 * 2 ^ (k + 1) ≤ u := by
  have h1 : m / 128 * 2 ≤ m := by omega
  have h2 : m / 128 * 2 ^ (k + 1) = m / 128 * 2 * 2 ^ k := by rw [Nat.pow_succ, Nat.mul_comm (2 ^ k) 2, Nat.mul_assoc]
  rw [h2]
  exact Nat.le_trans (Nat.mul_le_mul_right _ h1) h
theorem room_len (m k u : Nat) (h : m * 2 ^ k ≤ u) (hm : 1 ≤ m) (hu : u < 18446744073709551616) : k < 64 := by
  rcases Nat.lt_or_ge k 64 with h64 | h64
  · exact h64
  · exfalso
    have h1 : 2 ^ 64 ≤ 2 ^ k := Nat.pow_le_pow_right (by omega) h64
    have h2 : 1 * 2 ^ k ≤ m * 2 ^ k := Nat.mul_le_mul_right _ hm
    omega
theorem uintB_len (n : Nat) (hu : n < 18446744073709551616) : (uintB n).length ≤ 10 := by
  have key : ∀ k n, n < 2 ^ (7 * k) → 1 ≤ k → (uintB n).length ≤ k := by
    intro k
    induction k with
    | zero => intro n _ h; omega
    | succ k ih =>
      intro n hn _
      by_cases h : n < 128
      · rw [uintB_last n h]; simp
      · rw [uintB_on n h]
        rcases Nat.eq_zero_or_pos k with rfl | hk
        · simp at hn; omega
        · have h7 : 2 ^ (7 * (k + 1)) = 128 * 2 ^ (7 * k) := by rw [show 7 * (k + 1) = 7 * k + 7 from by omega, Nat.pow_add]; omega
          have := ih (n / 128) (by rw [h7] at hn; omega) hk
          simp; omega
  exact key 10 n (by have : (2 : Nat) ^ (7 * 10) = 1180591620717411303424 := by decide
                     omega) (by omega)

end Go.Proofs.Ythodmnekljbljaa
