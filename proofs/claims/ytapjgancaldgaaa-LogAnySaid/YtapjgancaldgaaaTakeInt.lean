/- The calls of wire.TakeInt and of the reference's TakeInt. -/
import Derived.Test.YtapjgancaldgaaaTake
import Derived.Laws.DeepNot64
namespace Go.Proofs.Ytapjgancaldgaaa
set_option maxRecDepth 100000
open Go.RowKit

theorem dig_lt : ∀ (zs : List Int) (i x : Nat), (∀ z ∈ zs, 0 ≤ z ∧ z ≤ 255) → i ≤ 9 → x < 2 ^ (7 * i) → ∀ n s, dig zs i x = some (n, s) → n < 18446744073709551616 ∧ s ≤ 10
  | [], _, _, _, _, _, n, s, h => by simp [dig] at h
  | z :: zs, i, x, hz, hi, hx, n, s, h => by
    have hzz := hz z (by simp)
    by_cases h9 : i = 9 ∧ 1 < z
    · rw [h9.1, dig_long _ _ _ h9.2] at h; simp at h
    · by_cases h128 : z < 128
      · by_cases h0 : z = 0 ∧ 0 < i
        · rw [h0.1, dig_zero _ _ _ h0.2] at h; simp at h
        · rw [dig_last _ _ _ _ h9 h128 h0] at h
          simp only [Option.some.injEq, Prod.mk.injEq] at h
          obtain ⟨rfl, rfl⟩ := h
          refine ⟨?_, by omega⟩
          rcases Nat.lt_or_ge i 9 with hi9 | hi9
          · exact Nat.lt_of_lt_of_le (acc_lt hx) (Nat.le_trans (Nat.pow_le_pow_right (n := 2) (by omega) (show 7 * (i + 1) ≤ 63 by omega)) (by decide))
          · obtain rfl : i = 9 := by omega
            have h1 : (z % 128).toNat ≤ 1 := by omega
            have h2 : (z % 128).toNat * 2 ^ (7 * 9) ≤ 1 * 2 ^ 63 := Nat.mul_le_mul h1 (by decide)
            have h3 : x < 2 ^ 63 := by simpa using hx
            omega
      · have hi9 : i ≠ 9 := by intro e; exact h9 ⟨e, by omega⟩
        rw [dig_on _ _ _ _ h9 h128] at h
        exact dig_lt zs (i + 1) _ (fun y hy => hz y (by simp [hy])) (by omega) (acc_lt hx) n s h

theorem takeUint_lt (zs : List Int) (hz : ∀ z ∈ zs, 0 ≤ z ∧ z ≤ 255) (at_ : Int) : (takeUint zs at_).1 < 18446744073709551616 ∧ (takeUint zs at_).2.1 ≤ 10 := by
  unfold takeUint
  split
  · simp
  · have h := dig_lt (zs.drop at_.toNat) 0 0 (fun z hzz => hz z (List.mem_of_mem_drop hzz)) (by omega) (by simp)
    generalize dig (zs.drop at_.toNat) 0 0 = o at h
    match o, h with
    | none, _ => simp
    | some (n, s), h => exact h n s rfl

/-- What TakeInt answers. -/
def takeInt (zs : List Int) (at_ : Int) : Int × Nat × Nat :=
  match takeUint zs at_ with
  | (n, s, 0) => (if n % 2 = 1 then -((n / 2 : Nat) : Int) - 1 else ((n / 2 : Nat) : Int), s, 0)
  | (_, _, e) => (0, 0, e)

def Tuple3i (t : Int × Nat × Nat) (e : Ending) : Prop := e = .returned (.tuple #[.int .i64 t.1, .int .i64 (t.2.1 : Nat), .int .i64 (t.2.2 : Nat)])

theorem not_half (u : Nat) (hu : u < 18446744073709551616) : Go.bits .xor .i64 (-1) ((u : Int) / 2) = -((u : Int) / 2) - 1 := by
  rw [show (u : Int) / 2 = ((u / 2 : Nat) : Int) from by omega, i64_not _ (by omega)]
  omega

end Go.Proofs.Ytapjgancaldgaaa
