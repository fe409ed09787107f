/- CRC-32C on lists of bytes: the register, bit by bit. No program is named here. -/
import Derived.WalkKit
namespace Go.Proofs.Ytapjgancaldgaaa.Crc
set_option maxRecDepth 100000

def bit (r : Nat) : Nat := if r % 2 = 1 then (r / 2) ^^^ 2197175160 else r / 2
def bits (r : Nat) : Nat → Nat
  | 0 => r
  | k + 1 => bit (bits r k)
def reg : List Int → Nat → Nat
  | [], r => r
  | z :: zs, r => reg zs (bits (r ^^^ z.toNat) 8)
def sum (zs : List Int) : Nat := 4294967295 ^^^ reg zs 4294967295

theorem bit_lt {r : Nat} (h : r < 4294967296) : bit r < 4294967296 := by
  unfold bit
  split
  · exact Nat.xor_lt_two_pow (n := 32) (by omega) (by omega)
  · omega
theorem bits_lt {r : Nat} (h : r < 4294967296) : ∀ k, bits r k < 4294967296
  | 0 => h
  | k + 1 => bit_lt (bits_lt h k)
theorem xor_lt {a b : Nat} (ha : a < 4294967296) (hb : b < 4294967296) : a ^^^ b < 4294967296 := Nat.xor_lt_two_pow (n := 32) ha hb
theorem reg_lt : ∀ (zs : List Int) (r : Nat), (∀ z ∈ zs, 0 ≤ z ∧ z ≤ 255) → r < 4294967296 → reg zs r < 4294967296
  | [], _, _, hr => hr
  | z :: zs, r, h, hr => by
    have hz := h z (by simp)
    exact reg_lt zs _ (fun x hx => h x (by simp [hx])) (bits_lt (xor_lt hr (by omega)) 8)
theorem sum_lt {zs : List Int} (h : ∀ z ∈ zs, 0 ≤ z ∧ z ≤ 255) : sum zs < 4294967296 := xor_lt (by omega) (reg_lt zs _ h (by omega))
theorem reg_append (xs ys : List Int) (r : Nat) : reg (xs ++ ys) r = reg ys (reg xs r) := by
  induction xs generalizing r with
  | nil => rfl
  | cons x xs ih => exact ih _
theorem reg_take (zs : List Int) (k : Nat) (hk : k < zs.length) (r : Nat) : reg (zs.take (k + 1)) r = bits (reg (zs.take k) r ^^^ (zs.getD k 0).toNat) 8 := by
  have h : zs.take (k + 1) = zs.take k ++ [zs.getD k 0] := by
    rw [List.take_succ_eq_append_getElem hk]; simp [List.getD_eq_getElem?_getD, List.getElem?_eq_getElem hk]
  rw [h, reg_append]; rfl

/-! the code's own form of the step: the shift, and the polynomial under a mask -/
theorem step_mask (r : Nat) (h : r < 4294967296) : (r / 2) ^^^ (2197175160 &&& ((4294967296 - r % 2) % 4294967296)) = bit r := by
  unfold bit
  have h2 : r % 2 = 0 ∨ r % 2 = 1 := by omega
  rcases h2 with h2 | h2
  · rw [h2, if_neg (by decide)]; simp
  · rw [h2, if_pos rfl]
    have : 2197175160 &&& ((4294967296 - 1) % 4294967296) = 2197175160 := by decide
    rw [this]

end Go.Proofs.Ytapjgancaldgaaa.Crc
