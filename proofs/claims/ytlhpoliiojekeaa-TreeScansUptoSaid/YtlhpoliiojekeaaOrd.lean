/- The order of texts as plain lists: the place of a key in a list that rises. -/
import Derived.Test.YtlhpoliiojekeaaVL
namespace Go.Proofs.Ytlhpoliiojekeaa
set_option maxRecDepth 100000
open Go.RowKit

/-- One text is below another. -/
def kl (a b : ByteArray) : Bool := Op.bytesLess a.toList b.toList
theorem bl_irrefl : ∀ x : List UInt8, Op.bytesLess x x = false
  | [] => rfl
  | a :: x => by simp [Op.bytesLess, bl_irrefl x]
theorem bl_trans : ∀ x y z : List UInt8, Op.bytesLess x y = true → Op.bytesLess y z = true → Op.bytesLess x z = true
  | _, [], _, h, _ => by cases ‹List UInt8› <;> simp [Op.bytesLess] at h
  | _, _ :: _, [], _, h => by simp [Op.bytesLess] at h
  | [], _ :: _, _ :: _, _, _ => rfl
  | a :: x, b :: y, c :: z, h1, h2 => by
    simp only [Op.bytesLess, Bool.or_eq_true, Bool.and_eq_true, decide_eq_true_eq, beq_iff_eq] at h1 h2 ⊢
    rcases h1 with h1 | ⟨rfl, h1⟩
    · rcases h2 with h2 | ⟨rfl, h2⟩
      · exact .inl (UInt8.lt_trans h1 h2)
      · exact .inl h1
    · rcases h2 with h2 | ⟨rfl, h2⟩
      · exact .inl h2
      · exact .inr ⟨rfl, bl_trans x y z h1 h2⟩
theorem bl_tri : ∀ x y : List UInt8, Op.bytesLess x y = false → Op.bytesLess y x = false → x = y
  | [], [], _, _ => rfl
  | [], _ :: _, h, _ => by simp [Op.bytesLess] at h
  | _ :: _, [], _, h => by simp [Op.bytesLess] at h
  | a :: x, b :: y, h1, h2 => by
    simp only [Op.bytesLess, Bool.or_eq_false_iff, decide_eq_false_iff_not, Bool.and_eq_false_iff, beq_eq_false_iff_ne] at h1 h2
    have hab : a = b := by
      have h3 := h1.1
      have h4 := h2.1
      rw [UInt8.lt_iff_toNat_lt] at h3 h4
      exact UInt8.toNat_inj.1 (by omega)
    subst hab
    have h3 : Op.bytesLess x y = false := by rcases h1.2 with h | h <;> simp_all
    have h4 : Op.bytesLess y x = false := by rcases h2.2 with h | h <;> simp_all
    rw [bl_tri x y h3 h4]
theorem kl_irrefl (a : ByteArray) : kl a a = false := bl_irrefl _
theorem kl_trans {a b c : ByteArray} (h1 : kl a b = true) (h2 : kl b c = true) : kl a c = true := bl_trans _ _ _ h1 h2
theorem ba_toList_inj {a b : ByteArray} (h : a.toList = b.toList) : a = b := by
  rw [ByteArray.toList_eq, ByteArray.toList_eq] at h
  cases a; cases b
  simpa using h
theorem kl_tri {a b : ByteArray} (h1 : kl a b = false) (h2 : kl b a = false) : a = b := ba_toList_inj (bl_tri _ _ h1 h2)
theorem kl_asymm {a b : ByteArray} (h : kl a b = true) : kl b a = false := by
  cases h2 : kl b a
  · rfl
  · have := kl_trans h h2; rw [kl_irrefl] at this; cases this
theorem kl_lt_le {a b c : ByteArray} (h1 : kl a b = true) (h2 : kl c b = false) : kl a c = true := by
  cases h3 : kl a c
  · rcases hcb : kl b c with _ | _
    · have := kl_tri h2 hcb; subst this; rw [h1] at h3; cases h3
    · rw [kl_trans h1 hcb] at h3; cases h3
  · rfl
theorem kl_le_lt {a b c : ByteArray} (h1 : kl b a = false) (h2 : kl b c = true) : kl a c = true := by
  cases h3 : kl a c
  · rcases hab : kl a b with _ | _
    · have := kl_tri hab h1; subst this; rw [h2] at h3; cases h3
    · rw [kl_trans hab h2] at h3; cases h3
  · rfl
theorem toList_beq (a b : ByteArray) : (a.toList == b.toList) = decide (a = b) := by
  by_cases h : a = b
  · subst h; simp
  · simp only [h, decide_false, beq_eq_false_iff_ne, ne_eq]
    exact fun e => h (ba_toList_inj e)

/-- The list rises. -/
def Rises (ks : List ByteArray) : Prop := ks.Pairwise (fun a b => kl a b = true)
theorem Rises.at_ {ks : List ByteArray} (h : Rises ks) {i j : Nat} {a b : ByteArray} (hij : i < j) (ha : ks[i]? = some a) (hb : ks[j]? = some b) : kl a b = true := by
  obtain ⟨hi, rfl⟩ := List.getElem?_eq_some_iff.1 ha
  obtain ⟨hj, rfl⟩ := List.getElem?_eq_some_iff.1 hb
  exact (List.pairwise_iff_getElem.1 h) i j hi hj hij
/-- How many keys at the front are below k. -/
def rk (ks : List ByteArray) (k : ByteArray) : Nat := (ks.takeWhile (kl · k)).length
theorem rk_nil (k : ByteArray) : rk [] k = 0 := rfl
theorem rk_cons (a : ByteArray) (ks : List ByteArray) (k : ByteArray) : rk (a :: ks) k = if kl a k = true then rk ks k + 1 else 0 := by
  unfold rk
  rw [List.takeWhile_cons]
  split <;> simp
theorem rk_le (ks : List ByteArray) (k : ByteArray) : rk ks k ≤ ks.length := (List.takeWhile_sublist _).length_le
theorem rk_eq : ∀ (ks : List ByteArray) (k : ByteArray) (i : Nat), i ≤ ks.length → (∀ j a, j < i → ks[j]? = some a → kl a k = true) → (∀ a, ks[i]? = some a → kl a k = false) → rk ks k = i
  | [], k, i, hi, _, _ => by simp at hi; subst hi; rfl
  | b :: ks, k, 0, _, _, h2 => by rw [rk_cons, h2 b rfl]; simp
  | b :: ks, k, i + 1, hi, h1, h2 => by
    rw [rk_cons, h1 0 b (by omega) rfl, if_pos rfl, rk_eq ks k i (by simpa using hi) (fun j a hj hja => h1 (j + 1) a (by omega) hja) (fun a ha => h2 a ha)]
theorem rk_below : ∀ (ks : List ByteArray) (k : ByteArray) (j : Nat) (a : ByteArray), j < rk ks k → ks[j]? = some a → kl a k = true
  | [], _, _, _, _, h => by cases h
  | b :: ks, k, j, a, hj, ha => by
    rw [rk_cons] at hj
    split at hj
    · rename_i hb
      rcases j with _ | j
      · cases ha; exact hb
      · exact rk_below ks k j a (by omega) ha
    · omega
theorem rk_at : ∀ (ks : List ByteArray) (k : ByteArray) (a : ByteArray), ks[rk ks k]? = some a → kl a k = false
  | [], _, _, h => by cases h
  | b :: ks, k, a, ha => by
    rw [rk_cons] at ha
    split at ha
    · exact rk_at ks k a ha
    · rename_i hb
      cases ha
      simpa using hb
theorem rk_above {ks : List ByteArray} (h : Rises ks) (k : ByteArray) {j : Nat} {a : ByteArray} (hj : rk ks k ≤ j) (ha : ks[j]? = some a) : kl a k = false := by
  obtain ⟨hlt, rfl⟩ := List.getElem?_eq_some_iff.1 ha
  have hr := List.getElem?_eq_getElem (l := ks) (i := rk ks k) (by omega)
  have h0 := rk_at ks k _ hr
  rcases Nat.eq_or_lt_of_le hj with e | e
  · have e2 : ks[j] = ks[rk ks k]'(by omega) := by congr 1; exact e.symm
    rw [e2]; exact h0
  · have h1 := h.at_ e hr ha
    cases h2 : kl ks[j] k
    · rfl
    · rw [kl_trans h1 h2] at h0; cases h0
/-- Whether the key is there. -/
def has (ks : List ByteArray) (k : ByteArray) : Bool := decide (ks[rk ks k]? = some k)
end Go.Proofs.Ytlhpoliiojekeaa
