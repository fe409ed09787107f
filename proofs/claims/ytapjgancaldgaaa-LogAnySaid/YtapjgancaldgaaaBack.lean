/- What is taken of what was put, with anything behind it, is what was put: on lists. -/
import Derived.Test.YtapjgancaldgaaaOnce
namespace Go.Proofs.Ytapjgancaldgaaa
set_option maxRecDepth 100000
open Go.RowKit

theorem dig_back : ∀ (m i x : Nat) (r : List Int), x + m * 2 ^ (7 * i) < 18446744073709551616 → i ≤ 9 → (0 < i → 1 ≤ m) →
    dig (uintB m ++ r) i x = some (x + m * 2 ^ (7 * i), i + (uintB m).length) := by
  intro m
  induction m using Nat.strongRecOn with
  | ind m ih =>
    intro i x r hlt hi hm
    have h63 : i = 9 → m * 2 ^ 63 < 18446744073709551616 := by
      intro e; subst e; have e2 : (2 : Nat) ^ (7 * 9) = 2 ^ 63 := by decide
      rw [e2] at hlt; omega
    by_cases h : m < 128
    · rw [uintB_last m h, List.cons_append, List.nil_append, dig_last _ _ _ _ (by rintro ⟨e, h1⟩; have := h63 e; omega) (by omega) (by rintro ⟨h0, h1⟩; have := hm h1; omega)]
      have e : ((m : Int) % 128).toNat = m := by omega
      rw [e]
      simp
    · have hi9 : i ≠ 9 := by intro e; have := h63 e; omega
      rw [uintB_on' m h, List.cons_append, dig_on _ _ _ _ (by rintro ⟨e, _⟩; exact hi9 e) (by omega)]
      have e : (((m : Int) % 128 + 128) % 128).toNat = m % 128 := by omega
      have hs : x + (m % 128) * 2 ^ (7 * i) + m / 128 * 2 ^ (7 * (i + 1)) = x + m * 2 ^ (7 * i) := by
        rw [pow_step, Nat.add_assoc]
        congr 1
        rw [← Nat.mul_assoc, ← Nat.add_mul]
        congr 1
        omega
      rw [e, ih (m / 128) (by omega) (i + 1) _ r (by rw [hs]; exact hlt) (by omega) (fun _ => by omega), hs]
      simp
      omega

theorem takeUint_back (u : Nat) (hu : u < 18446744073709551616) (r : List Int) : takeUint (uintB u ++ r) 0 = (u, (uintB u).length, 0) := by
  have h := dig_back u 0 0 r (by simpa using hu) (by omega) (fun h => absurd h (by omega))
  have := takeUint_place (uintB u ++ r) 0 (by omega)
  simp only [List.drop_zero] at this
  rw [h] at this
  simpa [ofDig] using this

theorem takeInt_back (n : Int) (hn : -9223372036854775808 ≤ n ∧ n ≤ 9223372036854775807) (r : List Int) : takeInt (uintB (intN n) ++ r) 0 = (n, (uintB (intN n)).length, 0) := by
  unfold takeInt
  rw [takeUint_back _ (intN_lt n hn)]
  simp only [Prod.mk.injEq, and_true]
  unfold intN
  by_cases h : n < 0
  · rw [if_pos h, if_pos (by omega)]; omega
  · rw [if_neg h, if_neg (by omega)]; omega

theorem takeText_back (s : ByteArray) (hs : s.size < 9223372036854775808) (r : List Int) : takeText (textB s ++ r) 0 s.size = (strB s, (textB s).length, 0) := by
  have ht := takeUint_back s.size (by omega) (strB s ++ r)
  rw [← List.append_assoc] at ht
  have ht2 : takeUint (textB s ++ r) 0 = (s.size, (uintB s.size).length, 0) := ht
  have hlen : (textB s).length = (uintB s.size).length + s.size := by unfold textB; rw [List.length_append, strB_len]
  unfold takeText
  rw [if_neg (by simp; omega), ht2]
  simp only [List.length_append]
  rw [if_neg (by omega), if_neg (by rw [hlen]; simp)]
  simp only [Int.toNat_zero, Nat.zero_add, Prod.mk.injEq, and_true]
  refine ⟨?_, by rw [hlen]⟩
  unfold textB
  rw [List.append_assoc, List.drop_left' rfl, List.take_left' (strB_len s)]

theorem takeFrame_back (b r : List Int) (hb : ∀ z ∈ b, 0 ≤ z ∧ z ≤ 255) (hl : b.length ≤ 1048576) : takeFrame (frameB b ++ r) 0 = (b, b.length + 8, 0) := by
  have hs := Crc.sum_lt hb
  have e0 : w4 (frameB b ++ r) = b.length := by
    unfold frameB; rw [List.append_assoc]; exact w4_word _ (by omega) _
  have e4 : w4 ((frameB b ++ r).drop 4) = Crc.sum b := by
    unfold frameB
    rw [List.append_assoc, List.drop_left' (wordB_len _), List.append_assoc]
    exact w4_word _ hs _
  have e8 : ((frameB b ++ r).drop 8).take b.length = b := by
    unfold frameB
    rw [List.append_assoc, show (8 : Nat) = 4 + 4 from rfl, ← List.drop_drop, List.drop_left' (wordB_len _), List.append_assoc, List.drop_left' (wordB_len _)]
    exact List.take_left' rfl
  have hlen : (frameB b ++ r).length = b.length + 8 + r.length := by rw [List.length_append, frameB_len]
  unfold takeFrame
  simp only [Int.toNat_zero, Nat.zero_add, List.drop_zero]
  rw [if_neg (by omega), if_neg (by omega), e0, if_neg (by omega), e8, e4, if_neg (by simp)]

theorem nums_strB (s : ByteArray) : strOfNums (strB s) = s := strB_inj (strB_nums _ (strB_byte s))
end Go.Proofs.Ytapjgancaldgaaa
