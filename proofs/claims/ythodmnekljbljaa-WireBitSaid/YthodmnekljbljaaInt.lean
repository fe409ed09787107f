/- The calls of wire.Int and of the reference's Int. -/
import Derived.Test.YthodmnekljbljaaUint
namespace Go.Proofs.Ythodmnekljbljaa
open Go.RowKit

def intN (n : Int) : Nat := if n < 0 then (-2 * n - 1).toNat else (2 * n).toNat
theorem intN_lt (n : Int) (h : -9223372036854775808 ≤ n ∧ n ≤ 9223372036854775807) : intN n < 18446744073709551616 := by
  unfold intN; split <;> omega

theorem compl64 (a : Nat) (ha : a < 2 ^ 64) : (2 ^ 64 - 1) ^^^ a = 2 ^ 64 - 1 - a := by
  apply Nat.eq_of_testBit_eq
  intro i
  rw [Nat.testBit_xor, Nat.testBit_two_pow_sub_one, show 2 ^ 64 - 1 - a = 2 ^ 64 - (a + 1) by omega, Nat.testBit_two_pow_sub_succ ha]
  by_cases h : i < 64
  · simp [h]
  · have hb : a.testBit i = false := Nat.testBit_lt_two_pow (Nat.lt_of_lt_of_le ha (Nat.pow_le_pow_right (by omega) (by omega)))
    simp [h, hb]
theorem neg_u64 (n : Int) (h : -9223372036854775808 ≤ n ∧ n < 0) :
    IntKind.u64.wrap (IntKind.u64.wrap (Go.bits .xor .u64 IntKind.u64.max (IntKind.u64.wrap n) * 2) + 1) = -2 * n - 1 := by
  have h1 : IntKind.u64.wrap n = ((n + 18446744073709551616).toNat : Nat) := by rw [IntKind.wrap_u64]; omega
  have h2 : IntKind.u64.max = ((18446744073709551615 : Nat) : Int) := rfl
  have h3 : 18446744073709551615 ^^^ (n + 18446744073709551616).toNat = 18446744073709551615 - (n + 18446744073709551616).toNat := compl64 _ (by omega)
  rw [h1, h2, u64_xor_nat _ _ (by omega) (by omega), h3, IntWalk.u64_in (_ * 2) (by omega), IntWalk.u64_in _ (by omega)]
  omega

set_option maxHeartbeats 400000 in
set_option maxRecDepth 100000 in
theorem wint (n : Int) (w : World) (hn : -9223372036854775808 ≤ n ∧ n ≤ 9223372036854775807) :
    Calls Try.prog 18 #[.int .i64 n] w (Makes w (uintB (intN n))) := by
  have hlt := intN_lt n hn
  by_cases h0 : n < 0
  · have HN := Lib.hid (show intN n = (-2 * n - 1).toNat by unfold intN; rw [if_pos h0])
    go_enter Try.func18, Try.ntmps18
    go_wp2_with fail
    rw [neg_u64 n ⟨hn.1, h0⟩, show (-2 * n - 1 : Int) = ((intN n : Nat) : Int) from by rw [HN.out]; omega]
    refine (wuint _ _ hlt).mono ?_
    rintro e w1 ⟨v, rfl, hown, hb⟩
    go_wp2
    go_ret
    exact ⟨v, rfl, hown, hb⟩
  · have HN := Lib.hid (show intN n = (2 * n).toNat by unfold intN; rw [if_neg h0])
    go_enter Try.func18, Try.ntmps18
    go_wp2_with fail
    rw [show (n * 2 : Int) = ((intN n : Nat) : Int) from by rw [HN.out]; omega]
    refine (wuint _ _ hlt).mono ?_
    rintro e w1 ⟨v, rfl, hown, hb⟩
    go_wp2
    go_ret
    exact ⟨v, rfl, hown, hb⟩

set_option maxHeartbeats 400000 in
set_option maxRecDepth 100000 in
theorem rint (n : Int) (w : World) (hn : -9223372036854775808 ≤ n ∧ n ≤ 9223372036854775807) :
    Calls Try.prog 19 #[.int .i64 n] w (Makes w (uintB (intN n))) := by
  have hlt := intN_lt n hn
  by_cases h0 : n < 0
  · have HN := Lib.hid (show intN n = (-2 * n - 1).toNat by unfold intN; rw [if_pos h0])
    go_enter Try.func19, Try.ntmps19
    go_wp2_with fail
    rw [show (2 * -(n + 1) + 1 : Int) = ((intN n : Nat) : Int) from by rw [HN.out]; omega]
    refine (ruint _ _ hlt).mono ?_
    rintro e w1 ⟨v, rfl, hown, hb⟩
    go_wp2
    go_ret
    exact ⟨v, rfl, hown, hb⟩
  · have HN := Lib.hid (show intN n = (2 * n).toNat by unfold intN; rw [if_neg h0])
    go_enter Try.func19, Try.ntmps19
    go_wp2_with fail
    rw [show (2 * n : Int) = ((intN n : Nat) : Int) from by rw [HN.out]; omega]
    refine (ruint _ _ hlt).mono ?_
    rintro e w1 ⟨v, rfl, hown, hb⟩
    go_wp2
    go_ret
    exact ⟨v, rfl, hown, hb⟩
end Go.Proofs.Ythodmnekljbljaa
