/- The call of keyInt; a text's bytes, read by their numbers. -/
import Derived.Test.YtiappioofagpgaaDoorTText7
import Derived.Test.YtiappioofagpgaaDoorKeyP
import Derived.Test.YtiappioofagpgaaDoorAbove
import Derived.LoopTactic
import Derived.IntWalk
import Derived.Laws.BitsAllLaws
namespace Go.Proofs.YtiappioofagpgaaDoor
open Go.RowKit

theorem strB_get (s : ByteArray) (j : Nat) (h : j < s.size) : (strB s).getD j 0 = (s[j].toNat : Int) := by
  have hs : j < s.data.size := h
  simp only [strB, List.getD_eq_getElem?_getD, List.getElem?_map, Array.getElem?_toList]
  rw [Array.getElem?_eq_getElem hs]
  rfl
theorem num8_succ (L : List Int) (k : Nat) (h : k < L.length) : num8 L (k + 1) = num8 L k * 256 + L.getD k 0 := by
  unfold num8
  rw [List.take_succ_eq_append_getElem h, List.foldl_append]
  simp [List.getD_eq_getElem?_getD, h]
theorem num8_bd (L : List Int) (hb : ∀ z ∈ L, 0 ≤ z ∧ z ≤ 255) : ∀ k, k ≤ L.length → 0 ≤ num8 L k ∧ num8 L k < 256 ^ k
  | 0, _ => by simp [num8]
  | k + 1, h => by
    have ih := num8_bd L hb k (by omega)
    rw [num8_succ L k (by omega)]
    have hz : 0 ≤ L.getD k 0 ∧ L.getD k 0 ≤ 255 := by
      rw [List.getD_eq_getElem?_getD, List.getElem?_eq_getElem (by omega)]
      exact hb _ (List.getElem_mem _)
    rw [Int.pow_succ]
    omega

theorem or_byte (X c : Int) (hX : 0 ≤ X ∧ X < 72057594037927936) (hc : 0 ≤ c ∧ c ≤ 255) : bits BinOp.or IntKind.u64 (IntKind.u64.wrap (X * 256)) (IntKind.u64.wrap c) = X * 256 + c := by
  obtain ⟨x, rfl⟩ := Int.eq_ofNat_of_zero_le hX.1
  obtain ⟨d, rfl⟩ := Int.eq_ofNat_of_zero_le hc.1
  rw [IntWalk.u64_in _ (by omega), IntWalk.u64_in _ (by omega), show ((x : Int) * 256) = ((2 ^ 8 * x : Nat) : Int) from by omega, u64_or_nat _ _ (by omega) (by omega), ← Nat.two_pow_add_eq_or_of_lt (by omega)]
  omega
theorem pow_256 (k : Nat) (h : k < 8) : (256 : Int) ^ k ≤ 72057594037927936 := by
  have : (256 : Nat) ^ k ≤ 256 ^ 7 := Nat.pow_le_pow_right (by omega) (by omega)
  have h2 : ((256 ^ k : Nat) : Int) ≤ ((256 ^ 7 : Nat) : Int) := by exact_mod_cast this
  rw [Int.natCast_pow] at h2
  exact h2

set_option maxHeartbeats 1000000 in
theorem keyInt_is (s : ByteArray) (w : World) (h8 : 8 ≤ s.size) :
    Calls Tryd.prog 19 #[.string s] w fun e w' => e = .returned (.int .i64 (keyI (num8 (strB s) 8))) ∧ w = w' := by
  go_enter Tryd.func19, Tryd.ntmps19
  go_wp2
  go_loop [3, 5] (fun u i => ∃ k : Nat, k ≤ 8 ∧ i = .int .i64 k ∧ u = .int .u64 (num8 (strB s) k)) (fun _ i => 8 - (intOf i).toNat)
  case atStart => exact ⟨0, by omega, rfl, rfl⟩
  case round =>
    obtain ⟨k, hk, rfl, rfl⟩ := hrel
    have hbd := num8_bd (strB s) (strB_byte s) k (by rw [strB_len]; omega)
    by_cases hlt : k < 8
    · have hks : k < s.size := by omega
      have hn := Lib.hid (num8_succ (strB s) k (by rw [strB_len]; omega))
      have hg := Lib.hid (strB_get s k hks)
      go_wp2
      go_round
      case rel => exact ⟨k + 1, by omega, by go_num, by rw [hn.out, hg.out, or_byte _ _ ⟨hbd.1, Int.lt_of_lt_of_le hbd.2 (pow_256 k hlt)⟩ ⟨by omega, by have := (s[k]).toNat_lt; omega⟩]⟩
      case measure => simp [intOf]; omega
    · go_wp2
      have : k = 8 := by omega
      subst this
      go_ret
      exact ⟨rfl, rfl⟩
end Go.Proofs.YtiappioofagpgaaDoor
