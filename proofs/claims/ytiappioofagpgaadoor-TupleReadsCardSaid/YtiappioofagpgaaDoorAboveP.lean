/- What lies between a text and the least text above all that begin with it: plain lists. -/
import Derived.Laws.Strings
namespace Go.Proofs.YtiappioofagpgaaDoor

theorem less_app (p a b : List UInt8) : Op.bytesLess (p ++ a) (p ++ b) = Op.bytesLess a b := by
  induction p with
  | nil => rfl
  | cons x p ih => simp [Op.bytesLess, ih]
theorem less_cons (x y : UInt8) (a b : List UInt8) : Op.bytesLess (x :: a) (y :: b) = (decide (x < y) || (x == y && Op.bytesLess a b)) := by
  simp [Op.bytesLess]
theorem less_nil (a : List UInt8) : Op.bytesLess a [] = false := by cases a <;> simp [Op.bytesLess]
theorem nil_less (x : UInt8) (a : List UInt8) : Op.bytesLess [] (x :: a) = true := by simp [Op.bytesLess]

theorem u8_255 (y : UInt8) : ¬ (255 : UInt8) < y := by
  intro h
  have h1 : (255 : UInt8).toNat < y.toNat := UInt8.lt_iff_toNat_lt.1 h
  have h2 := y.toNat_lt
  simp at h1
  omega

theorem top_between : ∀ (r o : List UInt8), (∀ b ∈ r, b = 255) → (Op.bytesLess r o || r == o) = (decide (r.length ≤ o.length) && (o.take r.length == r))
  | [], o, _ => by cases o <;> simp [Op.bytesLess]
  | x :: r, [], _ => by simp [less_nil]
  | x :: r, y :: o, h => by
    have hx : x = 255 := h x (by simp)
    subst hx
    have ih := top_between r o fun b hb => h b (by simp [hb])
    have hl := u8_255 y
    rw [less_cons]
    by_cases hy : (255 : UInt8) = y
    · subst hy
      simp only [List.length_cons, List.take_succ_cons, Nat.add_le_add_iff_right, List.cons_beq_cons, beq_self_eq_true, Bool.true_and]
      rw [← ih]
      simp
    · have h2 : ((255 : UInt8) == y) = false := by simpa using hy
      have h3 : (y == (255 : UInt8)) = false := by simpa using fun e => hy e.symm
      simp [hl, h2, h3, hy]

theorem between : ∀ (p : List UInt8) (c d : UInt8) (r o : List UInt8), d.toNat = c.toNat + 1 → (∀ b ∈ r, b = 255) →
    ((Op.bytesLess (p ++ c :: r) o || (p ++ c :: r) == o) && Op.bytesLess o (p ++ [d])) = (decide ((p ++ c :: r).length ≤ o.length) && (o.take (p ++ c :: r).length == (p ++ c :: r)))
  | p, c, d, r, [], _, _ => by simp [less_nil]
  | x :: p, c, d, r, y :: o, hd, hr => by
    have ih := between p c d r o hd hr
    simp only [List.cons_append, less_cons, List.length_cons, List.take_succ_cons, Nat.add_le_add_iff_right, List.cons_beq_cons]
    by_cases hxy : x = y
    · subst hxy
      have hirr : ¬ x < x := by simp [UInt8.lt_iff_toNat_lt]
      simp only [hirr, beq_self_eq_true, Bool.true_and, decide_false, Bool.false_or]
      exact ih
    · have h2 : (x == y) = false := by simpa using hxy
      have h3 : (y == x) = false := by simpa using fun e => hxy e.symm
      simp only [h2, h3, Bool.false_and, Bool.or_false, Bool.and_false]
      by_cases hlt : x < y
      · have : ¬ y < x := by simp only [UInt8.lt_iff_toNat_lt] at *; omega
        simp [this]
      · simp [hlt]
  | [], c, d, r, y :: o, hd, hr => by
    have tb := top_between r o hr
    simp only [List.nil_append, less_cons, List.length_cons, List.take_succ_cons, Nat.add_le_add_iff_right, List.cons_beq_cons, less_nil, Bool.and_false, Bool.or_false]
    by_cases hxy : c = y
    · subst hxy
      have h1 : c < d := by rw [UInt8.lt_iff_toNat_lt]; omega
      have hirr : ¬ c < c := by simp [UInt8.lt_iff_toNat_lt]
      simp only [hirr, h1, beq_self_eq_true, Bool.true_and, decide_false, Bool.false_or, decide_true, Bool.and_true]
      exact tb
    · have h2 : (c == y) = false := by simpa using hxy
      have h3 : (y == c) = false := by simpa using fun e => hxy e.symm
      have hne : c.toNat ≠ y.toNat := fun e => hxy (UInt8.toNat_inj.1 e)
      simp only [h2, h3, Bool.false_and, Bool.or_false, Bool.and_false]
      by_cases hlt : c < y
      · have : ¬ y < d := by simp only [UInt8.lt_iff_toNat_lt] at *; omega
        simp [this]
      · simp [hlt]

theorem below_above (p : List UInt8) (c d : UInt8) (r : List UInt8) (hd : d.toNat = c.toNat + 1) : Op.bytesLess (p ++ c :: r) (p ++ [d]) = true := by
  rw [less_app, less_cons]
  have h1 : c < d := by rw [UInt8.lt_iff_toNat_lt]; omega
  simp [h1]
end Go.Proofs.YtiappioofagpgaaDoor
