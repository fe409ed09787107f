/- Numbers as bytes, on lists: what stands at the front of a list as a number. No program is named here. -/
import Derived.WalkKit
import Derived.IntWalk
namespace Go.Proofs.Ytapjgancaldgaaa
set_option maxRecDepth 100000

/-- The number that stands at the front of a list, behind i digits that came to x: the number, and how many bytes it has in all. -/
def dig : List Int → Nat → Nat → Option (Nat × Nat)
  | [], _, _ => none
  | z :: zs, i, x =>
    if i = 9 ∧ 1 < z then none
    else if z < 128 then (if z = 0 ∧ 0 < i then none else some (x + (z % 128).toNat * 2 ^ (7 * i), i + 1))
    else dig zs (i + 1) (x + (z % 128).toNat * 2 ^ (7 * i))

/-- What TakeUint answers: the number, its size, the error. -/
def takeUint (zs : List Int) (at_ : Int) : Nat × Nat × Nat :=
  if at_ < 0 ∨ (zs.length : Int) < at_ then (0, 0, 1)
  else match dig (zs.drop at_.toNat) 0 0 with
    | none => (0, 0, 10)
    | some (n, s) => (n, s, 0)

theorem pow_step (i : Nat) : 2 ^ (7 * (i + 1)) = 128 * 2 ^ (7 * i) := by
  rw [show 7 * (i + 1) = 7 * i + 7 from by omega, Nat.pow_add]; omega

theorem acc_lt {z : Int} {i x : Nat} (hx : x < 2 ^ (7 * i)) : x + (z % 128).toNat * 2 ^ (7 * i) < 2 ^ (7 * (i + 1)) := by
  have h1 : (z % 128).toNat ≤ 127 := by omega
  have h2 : (z % 128).toNat * 2 ^ (7 * i) ≤ 127 * 2 ^ (7 * i) := Nat.mul_le_mul_right _ h1
  rw [pow_step]; omega

theorem dig_end (i x : Nat) : dig [] i x = none := rfl
theorem dig_long (z : Int) (zs : List Int) (x : Nat) (h : 1 < z) : dig (z :: zs) 9 x = none := by
  unfold dig; rw [if_pos ⟨rfl, h⟩]
theorem dig_zero (zs : List Int) (i x : Nat) (hi : 0 < i) : dig (0 :: zs) i x = none := by
  unfold dig; rw [if_neg (by omega), if_pos (by omega), if_pos ⟨rfl, hi⟩]
theorem dig_last (z : Int) (zs : List Int) (i x : Nat) (h9 : ¬ (i = 9 ∧ 1 < z)) (h : z < 128) (h0 : ¬ (z = 0 ∧ 0 < i)) : dig (z :: zs) i x = some (x + (z % 128).toNat * 2 ^ (7 * i), i + 1) := by
  rw [dig, if_neg h9, if_pos h, if_neg h0]
theorem dig_on (z : Int) (zs : List Int) (i x : Nat) (h9 : ¬ (i = 9 ∧ 1 < z)) (h : ¬ z < 128) : dig (z :: zs) i x = dig zs (i + 1) (x + (z % 128).toNat * 2 ^ (7 * i)) := by
  rw [dig, if_neg h9, if_neg h]
def ofDig (o : Option (Nat × Nat)) : Nat × Nat × Nat := match o with | none => (0, 0, 10) | some (n, s) => (n, s, 0)
theorem takeUint_place (zs : List Int) (p : Nat) (h : p ≤ zs.length) : takeUint zs p = ofDig (dig (zs.drop p) 0 0) := by
  unfold takeUint; rw [if_neg (by omega), Int.toNat_natCast]; rfl
theorem or_u64 (X k : Nat) (z : Int) (hX : X < 2 ^ (7 * k)) (hz : 0 ≤ z ∧ z ≤ 255) (hk : k ≤ 9) (h9 : ¬ (k = 9 ∧ 1 < z)) :
    Go.bits .or .u64 (X : Int) (IntKind.u64.wrap (z % 128 * 2 ^ (k * 7))) = ((X + (z % 128).toNat * 2 ^ (7 * k) : Nat) : Int) := by
  have hd : (z % 128) = (((z % 128).toNat : Nat) : Int) := by omega
  have hd2 : (z % 128).toNat ≤ 127 := by omega
  have hm : (z % 128 * 2 ^ (k * 7) : Int) = (((z % 128).toNat * 2 ^ (7 * k) : Nat) : Int) := by
    rw [hd, Int.toNat_natCast, Nat.mul_comm k 7, Int.natCast_mul, Int.natCast_pow]; rfl
  have hlt : (z % 128).toNat * 2 ^ (7 * k) < 18446744073709551616 := by
    rcases Nat.lt_or_ge k 9 with h | h
    · have h1 : (z % 128).toNat * 2 ^ (7 * k) ≤ 127 * 2 ^ 56 := Nat.mul_le_mul hd2 (Nat.pow_le_pow_right (by omega) (by omega))
      omega
    · obtain rfl : k = 9 := by omega
      have h1 : (z % 128).toNat ≤ 1 := by omega
      have h2 : (z % 128).toNat * 2 ^ (7 * 9) ≤ 1 * 2 ^ 63 := Nat.mul_le_mul h1 (by decide)
      omega
  have hXlt : X < 18446744073709551616 := Nat.lt_of_lt_of_le hX (Nat.le_trans (Nat.pow_le_pow_right (n := 2) (by omega) (show 7 * k ≤ 63 by omega)) (by decide))
  rw [hm, IntWalk.u64_in _ (by omega), u64_or_nat _ _ hXlt hlt]
  congr 1
  rw [Nat.or_comm, nat_join (7 * k) _ _ (by rw [Nat.mul_comm]; exact Nat.mul_mod_right _ _) hX]
  omega
theorem add_u64 (X k : Nat) (z : Int) (hX : X < 2 ^ (7 * k)) (hz : 0 ≤ z ∧ z ≤ 255) (hk : k ≤ 9) (h9 : ¬ (k = 9 ∧ 1 < z)) :
    IntKind.u64.wrap ((X : Int) + IntKind.u64.wrap (z % 128 * 2 ^ (7 * k))) = ((X + (z % 128).toNat * 2 ^ (7 * k) : Nat) : Int) := by
  have hd : (z % 128) = (((z % 128).toNat : Nat) : Int) := by omega
  have hm : (z % 128 * 2 ^ (7 * k) : Int) = (((z % 128).toNat * 2 ^ (7 * k) : Nat) : Int) := by
    rw [hd, Int.toNat_natCast, Int.natCast_mul, Int.natCast_pow]; rfl
  have hl := acc_lt (z := z) hX
  have h70 : (z % 128).toNat * 2 ^ (7 * k) + X < 18446744073709551616 := by
    rcases Nat.lt_or_ge k 9 with h | h
    · have h1 : (z % 128).toNat * 2 ^ (7 * k) + X < 2 ^ (7 * (k + 1)) := by rw [Nat.add_comm]; exact hl
      exact Nat.lt_of_lt_of_le h1 (Nat.le_trans (Nat.pow_le_pow_right (n := 2) (by omega) (show 7 * (k + 1) ≤ 63 by omega)) (by decide))
    · obtain rfl : k = 9 := by omega
      have h1 : (z % 128).toNat ≤ 1 := by omega
      have h2 : (z % 128).toNat * 2 ^ (7 * 9) ≤ 1 * 2 ^ 63 := Nat.mul_le_mul h1 (by decide)
      omega
  have key : ∀ P : Nat, P + X < 18446744073709551616 → IntKind.u64.wrap ((X : Int) + IntKind.u64.wrap (P : Int)) = ((X + P : Nat) : Int) := by
    intro P hP
    rw [IntWalk.u64_in (P : Int) (by omega), IntWalk.u64_in _ (by omega)]
    omega
  rw [hm]
  exact key _ h70
theorem drop_cons {zs : List Int} {k : Nat} (hk : k < zs.length) : zs.drop k = zs.getD k 0 :: zs.drop (k + 1) := by
  rw [List.drop_eq_getElem_cons hk]; simp [List.getD_eq_getElem?_getD, List.getElem?_eq_getElem hk]

end Go.Proofs.Ytapjgancaldgaaa
