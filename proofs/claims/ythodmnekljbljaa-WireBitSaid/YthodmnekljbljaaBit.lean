/- A frame of which one bit is turned over is no frame with that length: on lists. -/
import Derived.Test.YthodmnekljbljaaBack
namespace Go.Proofs.Ythodmnekljbljaa
open Go.RowKit

theorem bit_inj {r s : Nat} (hr : r < 4294967296) (hs : s < 4294967296) (h : Crc.bit r = Crc.bit s) : r = s := by
  unfold Crc.bit at h
  have key : ∀ x y : Nat, x < 2147483648 → y < 2147483648 → x ^^^ 2197175160 ≠ y := by
    intro x y hx hy e
    have h1 : x ^^^ y = 2197175160 := by rw [← e, ← Nat.xor_assoc, Nat.xor_self, Nat.zero_xor]
    have h2 : x ^^^ y < 2 ^ 31 := Nat.xor_lt_two_pow (by omega) (by omega)
    omega
  have inj : ∀ x y : Nat, x ^^^ 2197175160 = y ^^^ 2197175160 → x = y := fun x y e => by
    have := congrArg (· ^^^ 2197175160) e
    simpa [Nat.xor_assoc] using this
  split at h <;> split at h
  · have := inj _ _ h; omega
  · exact absurd h (key _ _ (by omega) (by omega))
  · exact absurd h.symm (key _ _ (by omega) (by omega))
  · omega

theorem bits_inj {r s : Nat} (hr : r < 4294967296) (hs : s < 4294967296) : ∀ k, Crc.bits r k = Crc.bits s k → r = s
  | 0, h => h
  | k + 1, h => bits_inj hr hs k (bit_inj (Crc.bits_lt hr k) (Crc.bits_lt hs k) h)

theorem xor_right_inj {a b c : Nat} (h : a ^^^ c = b ^^^ c) : a = b := by
  have := congrArg (· ^^^ c) h
  simpa [Nat.xor_assoc] using this
theorem xor_left_inj {a b c : Nat} (h : c ^^^ a = c ^^^ b) : a = b := by
  rw [Nat.xor_comm c a, Nat.xor_comm c b] at h
  exact xor_right_inj h

theorem reg_inj : ∀ (zs : List Int) (r s : Nat), (∀ z ∈ zs, 0 ≤ z ∧ z ≤ 255) → r < 4294967296 → s < 4294967296 → Crc.reg zs r = Crc.reg zs s → r = s
  | [], _, _, _, _, _, h => h
  | z :: zs, r, s, hz, hr, hs, h => by
    have hzz := hz z (by simp)
    have h1 := reg_inj zs _ _ (fun x hx => hz x (by simp [hx])) (Crc.bits_lt (Crc.xor_lt hr (by omega)) 8) (Crc.bits_lt (Crc.xor_lt hs (by omega)) 8) h
    exact xor_right_inj (bits_inj (Crc.xor_lt hr (by omega)) (Crc.xor_lt hs (by omega)) 8 h1)

/-- Another byte at one place: another sum. -/
theorem sum_turned (b : List Int) (j : Nat) (z : Int) (hb : ∀ x ∈ b, 0 ≤ x ∧ x ≤ 255) (hz : 0 ≤ z ∧ z ≤ 255) (hj : j < b.length) (hne : z ≠ b.getD j 0) : Crc.sum (b.set j z) ≠ Crc.sum b := by
  intro e
  have hx : b.getD j 0 ∈ b := by rw [List.getD_eq_getElem?_getD, List.getElem?_eq_getElem hj]; simp
  have hxx := hb _ hx
  have hbs : b = b.take j ++ b.getD j 0 :: b.drop (j + 1) := by rw [← drop_cons hj]; exact (List.take_append_drop j b).symm
  have hset : b.set j z = b.take j ++ z :: b.drop (j + 1) := List.set_eq_take_append_cons_drop .. |>.trans (by rw [if_pos hj])
  have e2 : Crc.reg (b.set j z) 4294967295 = Crc.reg b 4294967295 := by
    unfold Crc.sum at e
    exact xor_left_inj e
  rw [hset] at e2
  conv at e2 => rhs; rw [hbs]
  rw [Crc.reg_append, Crc.reg_append] at e2
  have hp : Crc.reg (b.take j) 4294967295 < 4294967296 := Crc.reg_lt _ _ (fun x hx => hb x (List.mem_of_mem_take hx)) (by omega)
  generalize Crc.reg (b.take j) 4294967295 = R at hp e2
  have e3 := reg_inj (b.drop (j + 1)) _ _ (fun x hx => hb x (List.mem_of_mem_drop hx)) (Crc.bits_lt (Crc.xor_lt hp (by omega)) 8) (Crc.bits_lt (Crc.xor_lt hp (by omega)) 8) e2
  have e4 := xor_left_inj (bits_inj (Crc.xor_lt hp (by omega)) (Crc.xor_lt hp (by omega)) 8 e3)
  apply hne
  omega

/-- Another byte at one of the first four places: another number. -/
theorem w4_turned (ys : List Int) (j : Nat) (z : Int) (hy : ∀ x ∈ ys, 0 ≤ x ∧ x ≤ 255) (hz : 0 ≤ z ∧ z ≤ 255) (h4 : 4 ≤ ys.length) (hj : j < 4) (hne : z ≠ ys.getD j 0) : w4 (ys.set j z) ≠ w4 ys := by
  match ys, h4 with
  | a :: b :: c :: d :: r, _ =>
    have ha := hy a (by simp)
    have hb := hy b (by simp)
    have hc := hy c (by simp)
    have hd := hy d (by simp)
    match j, hj with
    | 0, _ => simp [w4, part] at hne ⊢; omega
    | 1, _ => simp [w4, part] at hne ⊢; omega
    | 2, _ => simp [w4, part] at hne ⊢; omega
    | 3, _ => simp [w4, part] at hne ⊢; omega

theorem w4_far (ys : List Int) (j : Nat) (z : Int) (hj : 4 ≤ j) : w4 (ys.set j z) = w4 ys := by
  have g : ∀ k, k < 4 → (ys.set j z).getD k 0 = ys.getD k 0 := fun k hk => by
    simp only [List.getD_eq_getElem?_getD]
    rw [List.getElem?_set_ne (by omega)]
  simp only [w4, part, g 0 (by omega), g 1 (by omega), g 2 (by omega), g 3 (by omega)]

theorem takeFrame_err (zs : List Int) : (takeFrame zs 0).2.2 = 10 ∨ (takeFrame zs 0).2.2 = 0 := by
  unfold takeFrame
  rw [if_neg (by omega)]
  split
  · exact .inl rfl
  · split
    · exact .inl rfl
    · split
      · exact .inl rfl
      · exact .inr rfl

theorem frame_turned (b r : List Int) (j : Nat) (z : Int) (hb : ∀ x ∈ b, 0 ≤ x ∧ x ≤ 255) (hr : ∀ x ∈ r, 0 ≤ x ∧ x ≤ 255) (hl : b.length ≤ 1048576) (hz : 0 ≤ z ∧ z ≤ 255) (hj : j < b.length + 8) (hne : z ≠ (frameB b ++ r).getD j 0) :
    (takeFrame ((frameB b ++ r).set j z) 0).2.2 = 10 ∨ (takeFrame ((frameB b ++ r).set j z) 0).2.1 ≠ b.length + 8 := by
  rcases takeFrame_err ((frameB b ++ r).set j z) with h | h
  · exact .inl h
  · right
    intro hs
    obtain ⟨l, s, e, ht⟩ : ∃ l s e, takeFrame ((frameB b ++ r).set j z) 0 = (l, s, e) := ⟨_, _, _, rfl⟩
    rw [ht] at h hs
    simp only at h hs
    subst h
    subst hs
    obtain ⟨_, hs, _, _, hl2, hw, hsum⟩ := takeFrame_ok ht
    simp only [Int.toNat_zero, Nat.zero_add, List.drop_zero] at hl2 hw hsum
    have hll : l.length = b.length := by omega
    have hG : ∀ x ∈ frameB b ++ r, 0 ≤ x ∧ x ≤ 255 := by
      intro x hx
      rcases List.mem_append.1 hx with hx | hx
      · exact frameB_byte b hb x hx
      · exact hr x hx
    have hGl : (frameB b ++ r).length = b.length + 8 + r.length := by rw [List.length_append, frameB_len]
    have e0 : w4 (frameB b ++ r) = b.length := by
      unfold frameB; rw [List.append_assoc]; exact w4_word _ (by omega) _
    have e4 : w4 ((frameB b ++ r).drop 4) = Crc.sum b := by
      unfold frameB
      rw [List.append_assoc, List.drop_left' (wordB_len _), List.append_assoc]
      exact w4_word _ (Crc.sum_lt hb) _
    have e8 : ((frameB b ++ r).drop 8).take b.length = b := by
      unfold frameB
      rw [List.append_assoc, show (8 : Nat) = 4 + 4 from rfl, ← List.drop_drop, List.drop_left' (wordB_len _), List.append_assoc, List.drop_left' (wordB_len _)]
      exact List.take_left' rfl
    generalize frameB b ++ r = G at hG hGl e0 e4 e8 hw hl2 hsum hne ht
    rw [hll] at hw hl2
    by_cases h4 : j < 4
    · exact w4_turned G j z hG hz (by omega) h4 hne (by rw [hw, e0])
    · have hd4 : (G.set j z).drop 4 = (G.drop 4).set (j - 4) z := by rw [List.drop_set, if_neg (by omega)]
      rw [hd4] at hsum
      have hg4 : (G.drop 4).getD (j - 4) 0 = G.getD j 0 := by
        simp only [List.getD_eq_getElem?_getD, List.getElem?_drop]
        rw [show 4 + (j - 4) = j from by omega]
      by_cases h8 : j < 8
      · have hd8 : (G.set j z).drop 8 = G.drop 8 := by rw [List.drop_set, if_pos (by omega)]
        rw [hd8, e8] at hl2
        rw [hl2] at hsum
        exact w4_turned (G.drop 4) (j - 4) z (fun x hx => hG x (List.mem_of_mem_drop hx)) hz (by rw [List.length_drop]; omega) (by omega) (by rw [hg4]; exact hne) (by rw [hsum, e4])
      · have hd8 : (G.set j z).drop 8 = (G.drop 8).set (j - 8) z := by rw [List.drop_set, if_neg (by omega)]
        rw [w4_far _ _ _ (by omega), e4] at hsum
        have hg8 : b.getD (j - 8) 0 = G.getD j 0 := by
          have := congrArg (fun l => l.getD (j - 8) 0) e8
          simp only [List.getD_eq_getElem?_getD] at this ⊢
          rw [← this, List.getElem?_take, if_pos (by omega), List.getElem?_drop, show 8 + (j - 8) = j from by omega]
        have hset : l = b.set (j - 8) z := by
          rw [hl2, hd8, List.take_set, e8]
        rw [hset] at hsum
        exact sum_turned b (j - 8) z hb hz (by omega) (by rw [hg8]; exact hne) hsum.symm

theorem turned_byte (x t : Nat) (hx : x ≤ 255) (ht : t < 8) : x ^^^ 2 ^ t ≤ 255 ∧ x ^^^ 2 ^ t ≠ x := by
  have h1 : (2 : Nat) ^ t < 2 ^ 8 := Nat.pow_lt_pow_right (by omega) ht
  have h2 : x ^^^ 2 ^ t < 2 ^ 8 := Nat.xor_lt_two_pow (by omega) h1
  refine ⟨by omega, fun e => ?_⟩
  have h3 : x ^^^ 2 ^ t = x ^^^ 0 := by rw [e, Nat.xor_zero]
  have := xor_left_inj h3
  have h4 : 0 < (2 : Nat) ^ t := Nat.pow_pos (by omega)
  omega
end Go.Proofs.Ythodmnekljbljaa
