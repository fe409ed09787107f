/- The calls of wire.Sum and of the reference's Sum: both hand back CRC-32C of the bytes, and write nothing. -/
import Derived.Test.YthpbcibjohakkaaProg
import Derived.Test.YthpbcibjohakkaaJAA
import Derived.Test.YthpbcibjohakkaaJAN
namespace Go.Proofs.Ythpbcibjohakkaa
set_option maxRecDepth 100000
open Go.RowKit

theorem xor_u32 (a : Nat) (z : Int) (ha : a < 4294967296) (hz : 0 ≤ z ∧ z ≤ 255) : Go.bits .xor .u32 (a : Int) (z % 4294967296) = ((a ^^^ z.toNat : Nat) : Int) := by
  rw [show z % 4294967296 = ((z.toNat : Nat) : Int) from by omega]
  exact u32_xor_nat a _ ha (by omega)

theorem step_u32 (r : Nat) (h : r < 4294967296) : Go.bits .xor .u32 ((r : Int) / 2) (Go.bits .and .u32 2197175160 (-Go.bits .and .u32 (r : Int) 1 % 4294967296)) = ((Crc.bit r : Nat) : Int) := by
  rw [show (1 : Int) = ((1 : Nat) : Int) from rfl, u32_and_nat r 1 h (by omega), nat_mask1]
  rw [show (-(((r % 2 : Nat) : Int)) % 4294967296) = (((4294967296 - r % 2) % 4294967296 : Nat) : Int) from by omega]
  rw [show (2197175160 : Int) = ((2197175160 : Nat) : Int) from rfl, u32_and_nat _ _ (by omega) (by omega)]
  rw [show ((r : Int) / 2) = ((r / 2 : Nat) : Int) from by omega]
  rw [u32_xor_nat _ _ (by omega) (Nat.lt_of_le_of_lt Nat.and_le_left (by omega)), Crc.step_mask r h]
theorem not_u32 (r : Nat) (h : r < 4294967296) : Go.bits .xor .u32 IntKind.u32.max (r : Int) = ((4294967295 ^^^ r : Nat) : Int) := by
  rw [show IntKind.u32.max = ((4294967295 : Nat) : Int) from rfl]
  exact u32_xor_nat _ _ (by omega) h
theorem not_u32' (r : Nat) (h : r < 4294967296) : Go.bits .xor .u32 (r : Int) 4294967295 = ((4294967295 ^^^ r : Nat) : Int) := by
  rw [show (4294967295 : Int) = ((4294967295 : Nat) : Int) from rfl, u32_xor_nat _ _ h (by omega), Nat.xor_comm]
theorem bit_odd (r : Nat) (h : r < 4294967296) (e : (((r : Int) % 2) == 1) = true) : Go.bits .xor .u32 ((r : Int) / 2) 2197175160 = ((Crc.bit r : Nat) : Int) := by
  have e' : r % 2 = 1 := by have := of_decide_eq_true e; omega
  rw [show ((r : Int) / 2) = ((r / 2 : Nat) : Int) from by omega, show (2197175160 : Int) = ((2197175160 : Nat) : Int) from rfl, u32_xor_nat _ _ (by omega) (by omega)]
  unfold Crc.bit; rw [if_pos e']
theorem bit_even (r : Nat) (e : (((r : Int) % 2) == 1) = false) : ((r : Int) / 2) = ((Crc.bit r : Nat) : Int) := by
  have e' : ¬ r % 2 = 1 := by have := of_decide_eq_false e; omega
  unfold Crc.bit; rw [if_neg e']; omega
theorem ret_int {k : IntKind} {a b : Int} (h : a = b) : Ending.returned (.int k a) = .returned (.int k b) := by rw [h]

set_option maxHeartbeats 1000000 in
theorem wsum (A : Option Addr) (n c : Nat) (zs : List Int) (w : World) (h : RB w A n zs) (hn : n ≤ 140737488355328) :
    Calls Try.prog 75 #[.slice A n c] w fun e w' => e = .returned (.int .u32 ((Crc.sum zs : Nat) : Int)) ∧ w = w' := by
  go_enter Try.func75, Try.ntmps75
  go_wp2
  go_loop [3, 9] (fun r i => ∃ k : Nat, k ≤ n ∧ i = .int .i64 k ∧ r = .int .u32 ((Crc.reg (zs.take k) 4294967295 : Nat) : Int)) (fun _ i => n - (intOf i).toNat)
  case atStart => exact ⟨0, Nat.zero_le _, rfl, rfl⟩
  case round =>
    obtain ⟨k, hk, rfl, rfl⟩ := hrel
    have hr : Crc.reg (zs.take k) 4294967295 < 4294967296 := Crc.reg_lt _ _ (fun z hz => h.byte z (List.mem_of_mem_take hz)) (by omega)
    by_cases hlt : k < n
    · obtain ⟨ad, rfl, hc⟩ := h.at_ hlt
      have hz := h.getD k
      have HR := Lib.hid (Crc.reg_take zs k (by rw [h.len]; exact hlt) 4294967295)
      have HX := Lib.hid (xor_u32 (Crc.reg (zs.take k) 4294967295) (zs[k]?.getD 0) hr (by simpa using hz))
      obtain ⟨r0, hr0, hrlt⟩ : ∃ r0, r0 = Crc.reg (zs.take k) 4294967295 ^^^ (zs[k]?.getD 0).toNat ∧ r0 < 4294967296 := ⟨_, rfl, Crc.xor_lt hr (by simp at hz; omega)⟩
      have HR0 := Lib.hid hr0
      clear hr0
      go_wp2
      go_loop [3, 17] (fun r i => ∃ j : Nat, j ≤ 8 ∧ i = .int .i64 j ∧ r = .int .u32 ((Crc.bits r0 j : Nat) : Int)) (fun _ i => 8 - (intOf i).toNat)
      case atStart => exact ⟨0, by omega, rfl, by rw [HX.out, HR0.out]; rfl⟩
      case round =>
        obtain ⟨j, hj, rfl, rfl⟩ := hrel
        have hb := Crc.bits_lt hrlt j
        by_cases hj8 : j < 8
        · have HS := Lib.hid (step_u32 _ hb)
          go_wp2
          go_round
          case rel => exact ⟨j + 1, by omega, by go_num, by rw [HS.out]; rfl⟩
          case measure => simp [intOf]; omega
        · obtain rfl : j = 8 := by omega
          go_wp2
          go_round
          case rel => exact ⟨k + 1, by omega, by go_num, by rw [HR.out, HR0.out]; simp⟩
          case measure => simp [intOf]; omega
    · have hkn : zs.take k = zs := List.take_of_length_le (by have := h.len; omega)
      have HN := Lib.hid (not_u32 _ hr)
      have HK := Lib.hid hkn
      clear hkn
      go_wp2
      go_ret
      exact ⟨ret_int (by rw [HN.out, HK.out]; rfl), rfl⟩

end Go.Proofs.Ythpbcibjohakkaa
