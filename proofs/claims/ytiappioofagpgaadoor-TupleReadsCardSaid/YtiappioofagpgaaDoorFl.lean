/- The numbers that a word of 64 bits stands for: which of them are parts of a point, told in two ways. No program is named here. -/
import Derived.Laws.Cover2
import Derived.Laws.FloatArith
import Derived.IntWalk
namespace Go.Proofs.YtiappioofagpgaaDoor
set_option exponentiation.threshold 2000
open Ieee

/-- The word of a sign and a whole number below 2^53 is read as that number. -/
theorem nearest_int (s : Bool) (q : Nat) (h0 : 0 < q) (hq : q < 2 ^ 53) :
    double.nearest s q 0 = double.word s ((q.log2 + 1022) * 2 ^ 52 + q * 2 ^ (52 - q.log2)) := by
  have hl : q.log2 < 53 := (Nat.log2_lt (by omega)).2 hq
  have hp : (double.leastPlace : Int) = -1074 := by decide
  have hf : double.fractionBits = 52 := rfl
  have hb : double.binade = 2 ^ 52 := rfl
  have hi : double.infRung = 2047 * 2 ^ 52 := by decide
  unfold Format.nearest
  rw [if_neg (by omega)]
  simp only [hp, hf, hb, hi]
  have e1 : max (0 + (q.log2 : Int) - (52 : Nat)) (-1074) = (q.log2 : Int) - 52 := by omega
  have e2 : ((0 : Int) - ((q.log2 : Int) - 52)).toNat = 52 - q.log2 := by omega
  have e3 : (((q.log2 : Int) - 52) - 0).toNat = 0 := by omega
  have e4 : (((q.log2 : Int) - 52) - (-1074)).toNat = q.log2 + 1022 := by omega
  rw [e1, e2, e3, e4]
  have e5 : Toward.even.cut s (q <<< (52 - q.log2)) 0 = q * 2 ^ (52 - q.log2) := by
    simp [Toward.cut, Nat.shiftLeft_eq, Nat.mod_one]
  rw [e5]
  have hk : q * 2 ^ (52 - q.log2) < 2 ^ 53 := by
    have : q < 2 ^ (q.log2 + 1) := Nat.lt_log2_self
    calc q * 2 ^ (52 - q.log2) < 2 ^ (q.log2 + 1) * 2 ^ (52 - q.log2) := Nat.mul_lt_mul_of_pos_right this (Nat.two_pow_pos _)
      _ = 2 ^ 53 := by rw [← Nat.pow_add]; congr 1; omega
  have hm : min ((q.log2 + 1022) * 2 ^ 52 + q * 2 ^ (52 - q.log2)) (2047 * 2 ^ 52) = (q.log2 + 1022) * 2 ^ 52 + q * 2 ^ (52 - q.log2) := by
    apply Nat.min_eq_left
    omega
  rw [hm]

theorem kept_bounds (q : Nat) (h0 : 0 < q) (hq : q < 2 ^ 53) : 2 ^ 52 ≤ q * 2 ^ (52 - q.log2) ∧ q * 2 ^ (52 - q.log2) < 2 ^ 53 := by
  have hl : q.log2 < 53 := (Nat.log2_lt (by omega)).2 hq
  constructor
  · have : 2 ^ q.log2 ≤ q := Nat.log2_self_le (by omega)
    calc 2 ^ 52 = 2 ^ q.log2 * 2 ^ (52 - q.log2) := by rw [← Nat.pow_add]; congr 1; omega
      _ ≤ q * 2 ^ (52 - q.log2) := Nat.mul_le_mul_right _ this
  · have : q < 2 ^ (q.log2 + 1) := Nat.lt_log2_self
    calc q * 2 ^ (52 - q.log2) < 2 ^ (q.log2 + 1) * 2 ^ (52 - q.log2) := Nat.mul_lt_mul_of_pos_right this (Nat.two_pow_pos _)
      _ = 2 ^ 53 := by rw [← Nat.pow_add]; congr 1; omega

theorem read_word (s : Bool) (r : Nat) (hr : r < 2 ^ 63) :
    double.read (double.word s r) = if r < 2 ^ 52 then .number s r (-1074) else if r < 2047 * 2 ^ 52 then .number s (2 ^ 52 + r % 2 ^ 52) (-1074 + ((r / 2 ^ 52 - 1 : Nat) : Int)) else if r = 2047 * 2 ^ 52 then .infinity s else .nan s (r - 2047 * 2 ^ 52) := by
  have hp : (double.leastPlace : Int) = -1074 := by decide
  have hb : double.binade = 2 ^ 52 := rfl
  have hi : double.infRung = 2047 * 2 ^ 52 := by decide
  have hw : double.signWeight = 2 ^ 63 := by decide
  unfold Format.read Format.word
  simp only [hp, hb, hi, hw]
  have e1 : ((if s = true then 2 ^ 63 + r else r) / 2 ^ 63 % 2 == 1) = s := by
    cases s
    · simp; omega
    · simp; omega
  have e2 : (if s = true then 2 ^ 63 + r else r) % 2 ^ 63 = r := by
    cases s
    · simp; omega
    · simp; omega
  rw [e1, e2]

theorem read_nearest (s : Bool) (q : Nat) (h0 : 0 < q) (hq : q < 2 ^ 53) :
    double.read (double.nearest s q 0) = .number s (q * 2 ^ (52 - q.log2)) ((q.log2 : Int) - 52) := by
  have hl : q.log2 < 53 := (Nat.log2_lt (by omega)).2 hq
  obtain ⟨b1, b2⟩ := kept_bounds q h0 hq
  rw [nearest_int s q h0 hq, read_word s _ (by omega), if_neg (by omega), if_pos (by omega)]
  congr 1
  · omega
  · omega
theorem read_zero (s : Bool) : double.read (double.nearest s 0 0) = .number s 0 (-1074) := by
  cases s <;> decide

/-- Every word is a sign and a rung. -/
theorem word_of (x : Nat) (hx : x < 2 ^ 64) : ∃ s r, r < 2 ^ 63 ∧ x = double.word s r ∧ s = decide (2 ^ 63 ≤ x) ∧ r = x % 2 ^ 63 := by
  have hw : double.signWeight = 2 ^ 63 := by decide
  by_cases h : 2 ^ 63 ≤ x
  · exact ⟨true, x % 2 ^ 63, by omega, by simp only [Format.word, hw, if_true]; omega, by simp [h], rfl⟩
  · exact ⟨false, x % 2 ^ 63, by omega, by simp only [Format.word, hw]; simp; omega, by simp [h], rfl⟩


/-- What a datum is, in parts of 2^-1074. -/
def mg (m : Nat) (i : Int) : Nat := m * 2 ^ (i + 1074).toNat
def sg (s : Bool) (a : Nat) : Int := if s then -(a : Int) else a
/-- 2^1074, kept shut. -/
def KK : Nat := 2 ^ 1074
theorem KK_pos : 0 < KK := Nat.two_pow_pos _

theorem signed_eq (s : Bool) (m k : Nat) : signed s m k = sg s (m * 2 ^ k) := by
  unfold signed sg
  rw [Nat.shiftLeft_eq]

theorem compare_mul (a b : Int) (k : Nat) (hk : 0 < k) : compare (a * k) (b * k) = compare a b := by
  have hk' : (0 : Int) < k := by omega
  rcases Int.lt_trichotomy a b with h | h | h
  · have : a * k < b * k := Int.mul_lt_mul_of_pos_right h hk'
    simp [compare, compareOfLessAndEq, h, this]
  · subst h; simp
  · have : b * k < a * k := Int.mul_lt_mul_of_pos_right h hk'
    have h1 : ¬ a < b := by omega
    have h2 : ¬ a = b := by omega
    have h3 : ¬ a * k < b * k := by omega
    have h4 : ¬ a * k = b * k := by omega
    simp [compare, compareOfLessAndEq, h1, h2, h3, h4]

theorem sg_mul (s : Bool) (a k : Nat) : sg s (a * k) = sg s a * k := by
  unfold sg
  cases s <;> simp [Int.neg_mul]

theorem order_num (s t : Bool) (m n : Nat) (i j : Int) (hi : -1074 ≤ i) (hj : -1074 ≤ j) :
    (Datum.number s m i).order (.number t n j) = some (compare (sg s (mg m i)) (sg t (mg n j))) := by
  show some (compare (signed s m (i - min i j).toNat) (signed t n (j - min i j).toNat)) = _
  rw [signed_eq, signed_eq, ← compare_mul _ _ (2 ^ (min i j + 1074).toNat) (Nat.two_pow_pos _), ← sg_mul, ← sg_mul, Nat.mul_assoc, Nat.mul_assoc, ← Nat.pow_add, ← Nat.pow_add]
  unfold mg
  have e1 : (i - min i j).toNat + (min i j + 1074).toNat = (i + 1074).toNat := by omega
  have e2 : (j - min i j).toNat + (min i j + 1074).toNat = (j + 1074).toNat := by omega
  rw [e1, e2]

/-- A whole number's word, read. -/
theorem mg_nearest (q : Nat) (h0 : 0 < q) (hq : q < 2 ^ 53) : mg (q * 2 ^ (52 - q.log2)) ((q.log2 : Int) - 52) = q * KK := by
  have hl : q.log2 < 53 := (Nat.log2_lt (by omega)).2 hq
  unfold mg KK
  rw [Nat.mul_assoc, ← Nat.pow_add]
  congr 2
  omega

theorem order_nearest (s t : Bool) (q m : Nat) (i : Int) (hi : -1074 ≤ i) (hq : q < 2 ^ 53) :
    (double.read (double.nearest s q 0)).order (.number t m i) = some (compare (sg s (q * KK)) (sg t (mg m i))) := by
  rcases Nat.eq_zero_or_pos q with rfl | h0
  · rw [read_zero, order_num _ _ _ _ _ _ (by omega) hi]
    simp [mg]
  · rw [read_nearest s q h0 hq, order_num _ _ _ _ _ _ (by omega) hi, mg_nearest q h0 hq]
theorem order_nearest' (s t : Bool) (q m : Nat) (i : Int) (hi : -1074 ≤ i) (hq : q < 2 ^ 53) :
    (Datum.number t m i).order (double.read (double.nearest s q 0)) = some (compare (sg t (mg m i)) (sg s (q * KK))) := by
  rcases Nat.eq_zero_or_pos q with rfl | h0
  · rw [read_zero, order_num _ _ _ _ _ _ hi (by omega)]
    simp [mg]
  · rw [read_nearest s q h0 hq, order_num _ _ _ _ _ _ hi (by omega), mg_nearest q h0 hq]

/-- What a word is read as. -/
theorem read_cases (x : Nat) (hx : x < 2 ^ 64) :
    (∃ s m i, double.read x = .number s m i ∧ -1074 ≤ i ∧ m < 2 ^ 53 ∧ double.read (x % 2 ^ 63) = .number false m i ∧ s = decide (2 ^ 63 ≤ x)) ∨
    (∃ s, double.read x = .infinity s ∧ double.read (x % 2 ^ 63) = .infinity false) ∨ (∃ s t, double.read x = .nan s t) := by
  obtain ⟨s, r, hr, rfl, hs, hr2⟩ := word_of x hx
  have hw : double.signWeight = 2 ^ 63 := by decide
  have h2 : double.word s r % 2 ^ 63 = double.word false r := by rw [← hr2]; simp [Format.word]
  rw [h2, read_word s r hr, read_word false r hr, ← hs]
  by_cases c1 : r < 2 ^ 52
  · refine .inl ⟨s, r, -1074, ?_⟩
    simp only [c1, if_true]
    exact ⟨by trivial, by omega, by omega, by trivial, by trivial⟩
  · by_cases c2 : r < 2047 * 2 ^ 52
    · refine .inl ⟨s, 2 ^ 52 + r % 2 ^ 52, -1074 + ((r / 2 ^ 52 - 1 : Nat) : Int), ?_⟩
      simp only [c1, c2, if_true, if_false]
      exact ⟨by trivial, by omega, by omega, by trivial, by trivial⟩
    · by_cases c3 : r = 2047 * 2 ^ 52
      · refine .inr (.inl ⟨s, ?_⟩)
        simp only [c1, c2, c3, if_true, if_false]
        exact ⟨rfl, rfl⟩
      · refine .inr (.inr ⟨s, r - 2047 * 2 ^ 52, ?_⟩)
        simp only [c1, c2, c3, if_false]

/-- The whole part. -/
theorem cut_zero (s : Bool) (m : Nat) (i : Int) (hi : -1074 ≤ i) : Toward.zero.cut s (m <<< i.toNat) (-i).toNat = mg m i / KK := by
  unfold Toward.cut
  simp only [Bool.toNat_false, Nat.add_zero]
  rw [Nat.shiftLeft_eq, Nat.shiftLeft_eq, Nat.one_mul]
  unfold mg KK
  by_cases h : 0 ≤ i
  · have e1 : (-i).toNat = 0 := by omega
    have e2 : (i + 1074).toNat = i.toNat + 1074 := by omega
    rw [e1, e2, Nat.pow_add, ← Nat.mul_assoc, Nat.mul_div_cancel _ (Nat.two_pow_pos _)]
    simp
  · have e1 : i.toNat = 0 := by omega
    have e2 : (1074 : Nat) = (i + 1074).toNat + (-i).toNat := by omega
    rw [e1]
    conv => rhs; rw [e2, Nat.pow_add]
    have e5 : m * 2 ^ (i + 1074).toNat / (2 ^ (i + 1074).toNat * 2 ^ (-i).toNat) = m / 2 ^ (-i).toNat := by
      rw [Nat.mul_comm m, Nat.mul_div_mul_left _ _ (Nat.two_pow_pos _)]
    rw [e5]
    simp only [Nat.pow_zero, Nat.mul_one, Nat.one_mul]
    by_cases hd : (-i).toNat ≤ m.log2 + 2
    · rw [Nat.min_eq_left hd]
    · have : m < 2 ^ (m.log2 + 1) := Nat.lt_log2_self
      rw [Nat.min_eq_right (by omega), Nat.div_eq_of_lt (Nat.lt_of_lt_of_le this (Nat.pow_le_pow_right (by omega) (by omega))), Nat.div_eq_of_lt (Nat.lt_of_lt_of_le this (Nat.pow_le_pow_right (by omega) (by omega)))]

/-- A word that stands for something. -/
def Some64 (x : Nat) : Prop := ∀ s t, double.read x ≠ .nan s t

theorem compare_self (a : Int) : compare a a = .eq := by simp
theorem order_self (x : Nat) (h : Some64 x) : double.order x x = some .eq := by
  unfold Format.order
  generalize hd : double.read x = d at *
  cases d with
  | nan s t => exact absurd hd (h s t)
  | infinity s => simp [Datum.order]
  | number s m i => simp [Datum.order]

theorem some_nearest (s : Bool) (m : Nat) (i : Int) : Some64 (double.nearest s m i) := by
  have hi : double.infRung = 2047 * 2 ^ 52 := by decide
  intro a b
  unfold Format.nearest
  split
  · rw [read_word _ _ (by omega)]; simp
  · dsimp only
    rw [hi]
    generalize (_ * double.binade + _ : Nat) = g
    have hg : min g (2047 * 2 ^ 52) ≤ 2047 * 2 ^ 52 := Nat.min_le_right _ _
    rw [read_word _ _ (by omega)]
    intro h
    split at h
    · cases h
    · split at h
      · cases h
      · split at h
        · cases h
        · omega
theorem some_int (n : Int) : Some64 (floatOfInt .f64 n) := some_nearest _ _ _
theorem some_zero : Some64 0 := by intro s t h; revert h; show double.read 0 = _ → False; rw [show (0 : Nat) = double.nearest false 0 0 from by decide, read_zero]; simp

/-- The words that are nought. -/
theorem zero_word (x : Nat) (hx : x < 2 ^ 64) (h : double.order x 0 = some .eq) : x = 0 ∨ x = 2 ^ 63 := by
  obtain ⟨s, r, hr, rfl, -, -⟩ := word_of x hx
  have hw : double.signWeight = 2 ^ 63 := by decide
  unfold Format.order at h
  rw [show double.read 0 = .number false 0 (-1074) from by decide, read_word s r hr] at h
  have key : ∀ m (i : Int), -1074 ≤ i → (Datum.number s m i).order (.number false 0 (-1074)) = some .eq → m = 0 := by
    intro m i hi h
    rw [order_num _ _ _ _ _ _ hi (by omega)] at h
    have h0 : mg 0 (-1074) = 0 := by unfold mg; omega
    rw [h0] at h
    have h1 : sg s (mg m i) = 0 := by
      have : sg false 0 = 0 := rfl
      rw [this] at h
      simpa using h
    have h2 : mg m i = 0 := by unfold sg at h1; split at h1 <;> omega
    unfold mg at h2
    rcases Nat.mul_eq_zero.1 h2 with h3 | h3
    · exact h3
    · have := Nat.two_pow_pos (i + 1074).toNat; omega
  split at h
  · have := key _ _ (by omega) h
    subst this
    cases s
    · exact .inl rfl
    · exact .inr rfl
  · split at h
    · have := key _ _ (by omega) h
      omega
    · split at h
      · cases s <;> simp [Datum.order] at h
      · simp [Datum.order] at h

def Ok64 (x : Nat) : Prop := Some64 x ∧ x < 2 ^ 64
theorem ok_zero : Ok64 0 := ⟨some_zero, by decide⟩
theorem ok_int (n : Int) : Ok64 (floatOfInt .f64 n) := ⟨some_int n, double.nearest_lt _ _ _⟩
end Go.Proofs.YtiappioofagpgaaDoor
